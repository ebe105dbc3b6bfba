/-
  Numbers alone: the order by what was cut off, and rows of numbers of parts.
-/
import Derived.OrdersHeld
import Derived.RegionTactic
import Derived.Laws.Tables
import Derived.Deep.MidRow
import Derived.Great.BuildSlice
import Derived.Test.YtiolkeipgpkbmaaGreatDoorProg
import Derived.WalkKit
import Derived.WalkSpells
import Derived.Lib.OthersKept
import Derived.Laws.NewBlocks
import Derived.Below
import Derived.Deep.LoopGhost
import Derived.Deep.QuietTactic
import Derived.BigQuiet
import Derived.Deep.RegionHeld3
import Derived.Deep.RegionWith
import Derived.BigRegion
namespace Go.Proofs.YtiolkeipgpkbmaaGreatDoor
open Go
set_option linter.unusedVariables false

section
variable {P : Program} {ops : Array Oper} {Q : Exit → Act → World → Prop} {md : Region.Mode} {T : World → Prop} {g : Nat}

/-- Whatever order is picked from here on, and T holds behind every operation till operation g has come up. -/
def wpAnyL (P : Program) (md : Region.Mode) (ops : Array Oper) (Q : Exit → Act → World → Prop) (g : Nat) (T : World → Prop) : Nat → Array Bool → Act → World → Prop
  | 0, listed, a, w => Region.ready md ops listed = [] ∧ Q .normal a w
  | fuel + 1, listed, a, w =>
    (Region.ready md ops listed = [] → Q .normal a w) ∧
    ∀ i ∈ Region.ready md ops listed, wpOp P ops Q i (fun a' w' => ((listed.setIfInBounds i true).getD g true = false → T w') ∧ wpAnyL P md ops Q g T fuel (listed.setIfInBounds i true) a' w') a w

theorem any_of_L : ∀ (fuel : Nat) (listed : Array Bool) (a : Act) (w : World), wpAnyL P md ops Q g T fuel listed a w → wpAny P md ops Q fuel listed a w
  | 0, _, _, _, h => h
  | fuel + 1, _, _, _, h => ⟨h.1, fun i hi => wpOp_mono (fun a' w' h' => any_of_L fuel _ a' w' h'.2) (h.2 i hi)⟩

/-- Once g has come up, nothing more is asked of worlds. -/
theorem L_of_any : ∀ (fuel : Nat) (listed : Array Bool) (a : Act) (w : World), listed.getD g true = true → wpAny P md ops Q fuel listed a w → wpAnyL P md ops Q g T fuel listed a w
  | 0, _, _, _, _, h => h
  | fuel + 1, listed, _, _, hg, h => ⟨h.1, fun i hi => wpOp_mono (fun a' w' h' => by
      have hg' : (listed.setIfInBounds i true).getD g true = true := by
        by_cases e : i = g
        · subst e
          by_cases hs : i < listed.size
          · simp [hs]
          · simp [hs]
        · rw [getD_set_ne true e]; exact hg
      exact ⟨(fun h0 => by rw [hg'] at h0; cases h0), L_of_any fuel _ a' w' hg' h'⟩) (h.2 i hi)⟩

theorem L_first {i : Nat} {oi og : Oper} {v : Value} (hi : ops[i]? = some oi) (hgo : ops[g]? = some og) (hw : ∃ e ∈ og.after, Region.binds md e = true ∧ e.on = i) (hgi : g ≠ i)
    (hsel : ∀ (j : Nat) (o : Oper) cs b, ops[j]? = some o → o.op ≠ .select cs b) (hQ : ∀ c a w, Q (.panic c) (a.put oi.dst v) w → Q (.panic c) a w) :
    ∀ (fuel : Nat) (listed : Array Bool) (a : Act) (w : World),
      (∀ j oj, ops[j]? = some oj → j ≠ i → listed.getD j true = false → (∀ e ∈ oj.after, Region.binds md e = true → e.on ≠ i) → oi.apart ops oj = true) →
      i ∈ Region.ready md ops listed → listed.getD g true = false → YieldsIf P ops T oi v a → T w →
      wpAnyL P md ops Q g T fuel (listed.setIfInBounds i true) (a.put oi.dst v) w → wpAnyL P md ops Q g T (fuel + 1) listed a w := by
  intro fuel
  induction fuel with
  | zero =>
    intro listed a w _ hr _ hy hT H
    refine ⟨fun h => (by rw [h] at hr; cases hr), fun j hj => ?_⟩
    by_cases hji : j = i
    · subst hji; exact hy.wpOp hi hT ⟨fun _ => hT, H⟩
    · have := ready_mono hj hji
      rw [H.1] at this
      cases this
  | succ fuel ih =>
    intro listed a w hfree hr hlg hy hT H
    refine ⟨fun h => (by rw [h] at hr; cases hr), fun j hj => ?_⟩
    by_cases hji : j = i
    · subst hji; exact hy.wpOp hi hT ⟨fun _ => hT, H⟩
    · have h1 := H.2 j (ready_mono hj hji)
      obtain ⟨hjun, oj, hoj, hall⟩ := mem_ready.1 hj
      have hnot : ∀ e ∈ oj.after, Region.binds md e = true → e.on ≠ i := fun e he hb heq => by
        have h1 := hall e he hb
        have h0 := (mem_ready.1 hr).1
        rw [heq] at h1
        rcases Nat.lt_or_ge i listed.size with h' | h'
        · simp [h'] at h0 h1; rw [h0] at h1; cases h1
        · simp [Array.getElem?_eq_none h'] at h1
      have hjg : j ≠ g := by
        rintro rfl
        obtain ⟨e, he, hb, heq⟩ := hw
        rw [hgo] at hoj
        cases hoj
        exact hnot e he hb heq
      have h2 := wpOp_putIf hoj (hfree j oj hoj hji hjun hnot) (fun cs b => hsel i oi cs b hi) (fun cs b => hsel j oj cs b hoj) hQ hy h1
      have hfree' : ∀ k ok, ops[k]? = some ok → k ≠ i → (listed.setIfInBounds j true).getD k true = false →
          (∀ e ∈ ok.after, Region.binds md e = true → e.on ≠ i) → oi.apart ops ok = true := fun k ok hk hki hun hno => by
        refine hfree k ok hk hki ?_ hno
        by_cases hjk : j = k
        · subst hjk; exact hjun
        · rw [getD_set_ne true hjk] at hun; exact hun
      have hlg' : (listed.setIfInBounds j true).getD g true = false := by rw [getD_set_ne true hjg]; exact hlg
      refine wpOp_mono (fun a' w' h3 => ?_) h2
      have hT' : T w' := h3.2.1 (by rw [getD_set_ne true hjg, getD_set_ne true (Ne.symm hgi)]; exact hlg)
      refine ⟨fun _ => hT', ih (listed.setIfInBounds j true) a' w' hfree' (ready_mono hr (Ne.symm hji)) hlg' h3.1 hT' ?_⟩
      rw [Array.setIfInBounds_comm _ _ hji]
      exact h3.2.2

/-- The named operation itself. -/
theorem L_go {fuel : Nat} {listed : Array Bool} {a : Act} {w : World} (hr : Region.ready md ops listed = [g]) (hgs : (listed.setIfInBounds g true).getD g true = true)
    (h : wpOp P ops Q g (wpAny P md ops Q fuel (listed.setIfInBounds g true)) a w) : wpAnyL P md ops Q g T (fuel + 1) listed a w := by
  refine ⟨(fun h0 => by rw [hr] at h0; simp at h0), fun i hi => ?_⟩
  rw [hr] at hi
  obtain rfl := List.mem_singleton.1 hi
  exact wpOp_mono (fun a' w' h' => ⟨(fun h0 => by rw [hgs] at h0; cases h0), L_of_any fuel _ a' w' hgs h'⟩) h

/-- The only one that may come up, and it yields its value. -/
theorem L_take1 {i : Nat} {oi : Oper} {v : Value} {fuel : Nat} {listed : Array Bool} {a : Act} {w : World} (hi : ops[i]? = some oi) (hr : Region.ready md ops listed = [i]) (hy : YieldsIf P ops T oi v a) (hT : T w)
    (h : wpAnyL P md ops Q g T fuel (listed.setIfInBounds i true) (a.put oi.dst v) w) : wpAnyL P md ops Q g T (fuel + 1) listed a w := by
  refine ⟨(fun h0 => by rw [hr] at h0; simp at h0), fun j hj => ?_⟩
  rw [hr] at hj
  obtain rfl := List.mem_singleton.1 hj
  exact hy.wpOp hi hT ⟨fun _ => hT, h⟩

/-- The only one that may come up. -/
theorem any_one {i fuel : Nat} {listed : Array Bool} {a : Act} {w : World} (hr : Region.ready md ops listed = [i])
    (h : wpOp P ops Q i (wpAny P md ops Q fuel (listed.setIfInBounds i true)) a w) : wpAny P md ops Q (fuel + 1) listed a w := by
  refine ⟨(fun h0 => by rw [hr] at h0; simp at h0), fun j hj => ?_⟩
  rw [hr] at hj
  obtain rfl := List.mem_singleton.1 hj
  exact h

/-- The move of a walk. -/
theorem L_take {i : Nat} {oi og : Oper} {v : Value} {fuel : Nat} {listed : Array Bool} {a : Act} {w : World} (hi : ops[i]? = some oi) (hgo : ops[g]? = some og)
    (hw : (og.after.any fun e => Region.binds md e && e.on == i) = true) (hgi : g ≠ i)
    (hs : Region.noSelect ops = true) (hf : Region.free md ops listed i = true) (hr : (Region.ready md ops listed).contains i = true) (hlg : listed.getD g true = false)
    (hQ : ∀ c a w, Q (.panic c) (a.put oi.dst v) w → Q (.panic c) a w) (hy : YieldsIf P ops T oi v a) (hT : T w)
    (h : wpAnyL P md ops Q g T fuel (listed.setIfInBounds i true) (a.put oi.dst v) w) : wpAnyL P md ops Q g T (fuel + 1) listed a w :=
  L_first hi hgo (by
    rw [Array.any_eq_true] at hw
    obtain ⟨k, hk, he⟩ := hw
    simp only [Bool.and_eq_true, beq_iff_eq] at he
    exact ⟨og.after[k], Array.getElem_mem hk, he.1, he.2⟩) hgi (Region.noSelect_spec hs) hQ fuel listed a w (Region.free_spec hi hf) (by simpa using hr) hlg hy hT h
end
end Go.Proofs.YtiolkeipgpkbmaaGreatDoor

namespace Go.Proofs.YtiolkeipgpkbmaaGreatDoor
open Go
set_option linter.unusedVariables false

section
variable {P : Program} {ops : Array Oper} {Q : Exit → Act → World → Prop} {md : Region.Mode} {T : World → Prop} {g m : Nat}

theorem L_first2 {i : Nat} {oi om og : Oper} {v : Value} (hi : ops[i]? = some oi) (hmo : ops[m]? = some om) (hgo : ops[g]? = some og) (hwm : ∃ e ∈ om.after, Region.binds md e = true ∧ e.on = i) (hwg : ∃ e ∈ og.after, Region.binds md e = true ∧ e.on = m) (hgi : g ≠ i)
    (hsel : ∀ (j : Nat) (o : Oper) cs b, ops[j]? = some o → o.op ≠ .select cs b) (hQ : ∀ c a w, Q (.panic c) (a.put oi.dst v) w → Q (.panic c) a w) :
    ∀ (fuel : Nat) (listed : Array Bool) (a : Act) (w : World),
      (∀ j oj, ops[j]? = some oj → j ≠ i → listed.getD j true = false → (∀ e ∈ oj.after, Region.binds md e = true → e.on ≠ i) → oi.apart ops oj = true) →
      i ∈ Region.ready md ops listed → listed.getD g true = false → listed.getD m true = false → YieldsIf P ops T oi v a → T w →
      wpAnyL P md ops Q g T fuel (listed.setIfInBounds i true) (a.put oi.dst v) w → wpAnyL P md ops Q g T (fuel + 1) listed a w := by
  have unl : ∀ (listed : Array Bool) (k : Nat), listed.getD k true = false → listed[k]? ≠ some true := fun listed k h h' => by
    rcases Nat.lt_or_ge k listed.size with h1 | h1
    · simp [h1] at h h'; rw [h] at h'; cases h'
    · simp [Array.getElem?_eq_none h1] at h'
  intro fuel
  induction fuel with
  | zero =>
    intro listed a w _ hr _ _ hy hT H
    refine ⟨fun h => (by rw [h] at hr; cases hr), fun j hj => ?_⟩
    by_cases hji : j = i
    · subst hji; exact hy.wpOp hi hT ⟨fun _ => hT, H⟩
    · have := ready_mono hj hji
      rw [H.1] at this
      cases this
  | succ fuel ih =>
    intro listed a w hfree hr hlg hlm hy hT H
    refine ⟨fun h => (by rw [h] at hr; cases hr), fun j hj => ?_⟩
    by_cases hji : j = i
    · subst hji; exact hy.wpOp hi hT ⟨fun _ => hT, H⟩
    · have h1 := H.2 j (ready_mono hj hji)
      obtain ⟨hjun, oj, hoj, hall⟩ := mem_ready.1 hj
      have hnot : ∀ e ∈ oj.after, Region.binds md e = true → e.on ≠ i := fun e he hb heq => by
        have h1 := hall e he hb
        have h0 := (mem_ready.1 hr).1
        rw [heq] at h1
        rcases Nat.lt_or_ge i listed.size with h' | h'
        · simp [h'] at h0 h1; rw [h0] at h1; cases h1
        · simp [Array.getElem?_eq_none h'] at h1
      have hjg : j ≠ g := by
        rintro rfl
        obtain ⟨e, he, hb, heq⟩ := hwg
        rw [hgo] at hoj
        cases hoj
        have h1 := hall e he hb
        rw [heq] at h1
        rcases Nat.lt_or_ge m listed.size with h' | h'
        · simp [h'] at hlm h1; rw [hlm] at h1; cases h1
        · simp [Array.getElem?_eq_none h'] at h1
      have hjm : j ≠ m := by
        rintro rfl
        obtain ⟨e, he, hb, heq⟩ := hwm
        rw [hmo] at hoj
        cases hoj
        exact hnot e he hb heq
      have h2 := wpOp_putIf hoj (hfree j oj hoj hji hjun hnot) (fun cs b => hsel i oi cs b hi) (fun cs b => hsel j oj cs b hoj) hQ hy h1
      have hfree' : ∀ k ok, ops[k]? = some ok → k ≠ i → (listed.setIfInBounds j true).getD k true = false →
          (∀ e ∈ ok.after, Region.binds md e = true → e.on ≠ i) → oi.apart ops ok = true := fun k ok hk hki hun hno => by
        refine hfree k ok hk hki ?_ hno
        by_cases hjk : j = k
        · subst hjk; exact hjun
        · rw [getD_set_ne true hjk] at hun; exact hun
      have hlg' : (listed.setIfInBounds j true).getD g true = false := by rw [getD_set_ne true hjg]; exact hlg
      have hlm' : (listed.setIfInBounds j true).getD m true = false := by rw [getD_set_ne true hjm]; exact hlm
      refine wpOp_mono (fun a' w' h3 => ?_) h2
      have hT' : T w' := h3.2.1 (by rw [getD_set_ne true hjg, getD_set_ne true (Ne.symm hgi)]; exact hlg)
      refine ⟨fun _ => hT', ih (listed.setIfInBounds j true) a' w' hfree' (ready_mono hr (Ne.symm hji)) hlg' hlm' h3.1 hT' ?_⟩
      rw [Array.setIfInBounds_comm _ _ hji]
      exact h3.2.2

/-- The move of a walk. -/
theorem L_take2 {i : Nat} {oi om og : Oper} {v : Value} {fuel : Nat} {listed : Array Bool} {a : Act} {w : World} (hi : ops[i]? = some oi) (hmo : ops[m]? = some om) (hgo : ops[g]? = some og)
    (hwm : (om.after.any fun e => Region.binds md e && e.on == i) = true) (hwg : (og.after.any fun e => Region.binds md e && e.on == m) = true) (hgi : g ≠ i)
    (hs : Region.noSelect ops = true) (hf : Region.free md ops listed i = true) (hr : (Region.ready md ops listed).contains i = true) (hlg : listed.getD g true = false) (hlm : listed.getD m true = false)
    (hQ : ∀ c a w, Q (.panic c) (a.put oi.dst v) w → Q (.panic c) a w) (hy : YieldsIf P ops T oi v a) (hT : T w)
    (h : wpAnyL P md ops Q g T fuel (listed.setIfInBounds i true) (a.put oi.dst v) w) : wpAnyL P md ops Q g T (fuel + 1) listed a w := by
  have any : ∀ (o : Oper) (k : Nat), (o.after.any fun e => Region.binds md e && e.on == k) = true → ∃ e ∈ o.after, Region.binds md e = true ∧ e.on = k := fun o k hw => by
    rw [Array.any_eq_true] at hw
    obtain ⟨q, hq, he⟩ := hw
    simp only [Bool.and_eq_true, beq_iff_eq] at he
    exact ⟨o.after[q], Array.getElem_mem hq, he.1, he.2⟩
  exact L_first2 hi hmo hgo (any om i hwm) (any og m hwg) hgi (Region.noSelect_spec hs) hQ fuel listed a w (Region.free_spec hi hf) (by simpa using hr) hlg hlm hy hT h

/-- The only one that may come up: what it leaves meets the condition. -/
theorem L_one {i fuel : Nat} {listed : Array Bool} {a : Act} {w : World} (hr : Region.ready md ops listed = [i])
    (h : wpOp P ops Q i (fun a' w' => T w' ∧ wpAnyL P md ops Q g T fuel (listed.setIfInBounds i true) a' w') a w) : wpAnyL P md ops Q g T (fuel + 1) listed a w := by
  refine ⟨(fun h0 => by rw [hr] at h0; simp at h0), fun j hj => ?_⟩
  rw [hr] at hj
  obtain rfl := List.mem_singleton.1 hj
  exact wpOp_mono (fun a' w' h' => ⟨fun _ => h'.1, h'.2⟩) h
/-- One of two may come up: whichever it is, what it leaves meets the condition. -/
theorem L_two {i j fuel : Nat} {listed : Array Bool} {a : Act} {w : World} (hr : Region.ready md ops listed = [i, j])
    (h1 : wpOp P ops Q i (fun a' w' => T w' ∧ wpAnyL P md ops Q g T fuel (listed.setIfInBounds i true) a' w') a w)
    (h2 : wpOp P ops Q j (fun a' w' => T w' ∧ wpAnyL P md ops Q g T fuel (listed.setIfInBounds j true) a' w') a w) : wpAnyL P md ops Q g T (fuel + 1) listed a w := by
  refine ⟨(fun h0 => by rw [hr] at h0; simp at h0), fun k hk => ?_⟩
  rw [hr] at hk
  rcases List.mem_cons.1 hk with rfl | hk
  · exact wpOp_mono (fun a' w' h' => ⟨fun _ => h'.1, h'.2⟩) h1
  · obtain rfl := List.mem_singleton.1 hk
    exact wpOp_mono (fun a' w' h' => ⟨fun _ => h'.1, h'.2⟩) h2
end
end Go.Proofs.YtiolkeipgpkbmaaGreatDoor

namespace Go.Proofs.YtiolkeipgpkbmaaGreatDoor
open Go
set_option linter.unusedVariables false

section
variable {P : Program} {ops : Array Oper} {rest : List Oper} {o : Oper} {a : Act} {w w' : World} {K : Act → World → Prop} {Q : Exit → Act → World → Prop} {v : Value}

theorem wp_build_run (t : TypeId) (parts : Array (Nat × Operand)) (ho : o.op = .build t parts) (ps : Array (Nat × Value)) (hp : (parts.map fun (i, x) => (i, a.eval x)) = ps) (hr : (Instr.build t ps).run P w = .ok v w') (h : K (a.put o.dst v) w') : o.wp P a w K Q := by
  unfold Oper.wp execOp
  simp only [ho, Sem.run_bind, Sem.run_pure, Result.andThen_ok, hp, hr]
  exact h
theorem wp_buildSlice_run (t : TypeId) (m : Nat) (parts : Array (Nat × Operand)) (ho : o.op = .buildSlice t m parts) (ps : Array (Nat × Value)) (hp : (parts.map fun (i, x) => (i, a.eval x)) = ps) (hr : (Instr.buildSlice t m ps).run P w = .ok v w') (h : K (a.put o.dst v) w') : o.wp P a w K Q := by
  unfold Oper.wp execOp
  simp only [ho, Sem.run_bind, Sem.run_pure, Result.andThen_ok, hp, hr]
  exact h
theorem wp_alloc_run (t : TypeId) (ho : o.op = .alloc t) (hr : (Instr.alloc t true (.tuple #[])).run P w = .ok v w') (h : K (a.put o.dst v) w') : o.wp P a w K Q := by
  unfold Oper.wp execOp
  simp only [ho, Sem.run_bind, Sem.run_pure, Result.andThen_ok, hr]
  exact h
theorem wp_load_run (t : TypeId) (x : Operand) (ho : o.op = .load t x) (u : Value) (hx : a.eval x = u) (hr : (Instr.loadAt t u).run P w = .ok v w') (h : K (a.put o.dst v) w') : o.wp P a w K Q := by
  unfold Oper.wp execOp
  simp only [ho, Sem.run_bind, Sem.run_pure, Result.andThen_ok, hx, hr]
  exact h
theorem wp_store_run (t : TypeId) (x y : Operand) (ho : o.op = .store t x y) (u z : Value) (hx : a.eval x = u) (hy : a.eval y = z) (hr : (Instr.storeAt t u z).run P w = .ok () w') (h : K (a.put o.dst undef) w') : o.wp P a w K Q := by
  unfold Oper.wp execOp
  simp only [ho, Sem.run_bind, Sem.run_pure, Result.andThen_ok, hx, hy, hr]
  exact h
theorem wp_copy_run (d s : Operand) (t t' : TypeId) (ho : o.op = .call { callee := .builtin .copy, args := #[d, s], argTypes := #[t, t'] }) (u z : Value) (hd : a.eval d = u) (hs : a.eval s = z)
    (hr : (Builtin.copy_ #[t, t'] o.type #[u, z]).run P w = .ok v w') (h : K (a.put o.dst v) w') : o.wp P a w K Q := by
  unfold Oper.wp execOp
  simp only [ho, resolve, invoke, builtin, Sem.run_bind, Sem.run_pure, Result.andThen_ok, List.map_toArray, List.map_cons, List.map_nil, hd, hs, hr]
  exact h
theorem wp_append_run (d s : Operand) (t t' : TypeId) (ho : o.op = .call { callee := .builtin .append, args := #[d, s], argTypes := #[t, t'] }) (u z : Value) (hd : a.eval d = u) (hs : a.eval s = z)
    (hr : (Builtin.append_ #[t, t'] o.type #[u, z]).run P w = .ok v w') (h : K (a.put o.dst v) w') : o.wp P a w K Q := by
  unfold Oper.wp execOp
  simp only [ho, resolve, invoke, builtin, Sem.run_bind, Sem.run_pure, Result.andThen_ok, List.map_toArray, List.map_cons, List.map_nil, hd, hs, hr]
  exact h

theorem wpList_build_run (hgd : o.guard = none) (t : TypeId) (parts : Array (Nat × Operand)) (ho : o.op = .build t parts) (ps : Array (Nat × Value)) (hp : (parts.map fun (i, x) => (i, a.eval x)) = ps) (hr : (Instr.build t ps).run P w = .ok v w') (h : wpList P ops Q rest (a.put o.dst v) w') : wpList P ops Q (o :: rest) a w :=
  wpList_plain hgd fun _ hK => wp_build_run t parts ho ps hp hr (hK _ _ h)
theorem wpList_buildSlice_run (hgd : o.guard = none) (t : TypeId) (m : Nat) (parts : Array (Nat × Operand)) (ho : o.op = .buildSlice t m parts) (ps : Array (Nat × Value)) (hp : (parts.map fun (i, x) => (i, a.eval x)) = ps) (hr : (Instr.buildSlice t m ps).run P w = .ok v w') (h : wpList P ops Q rest (a.put o.dst v) w') : wpList P ops Q (o :: rest) a w :=
  wpList_plain hgd fun _ hK => wp_buildSlice_run t m parts ho ps hp hr (hK _ _ h)
theorem wpList_alloc_run (hgd : o.guard = none) (t : TypeId) (ho : o.op = .alloc t) (hr : (Instr.alloc t true (.tuple #[])).run P w = .ok v w') (h : wpList P ops Q rest (a.put o.dst v) w') : wpList P ops Q (o :: rest) a w :=
  wpList_plain hgd fun _ hK => wp_alloc_run t ho hr (hK _ _ h)
theorem wpList_load_run (hgd : o.guard = none) (t : TypeId) (x : Operand) (ho : o.op = .load t x) (u : Value) (hx : a.eval x = u) (hr : (Instr.loadAt t u).run P w = .ok v w') (h : wpList P ops Q rest (a.put o.dst v) w') : wpList P ops Q (o :: rest) a w :=
  wpList_plain hgd fun _ hK => wp_load_run t x ho u hx hr (hK _ _ h)
theorem wpList_store_run (hgd : o.guard = none) (t : TypeId) (x y : Operand) (ho : o.op = .store t x y) (u z : Value) (hx : a.eval x = u) (hy : a.eval y = z) (hr : (Instr.storeAt t u z).run P w = .ok () w') (h : wpList P ops Q rest (a.put o.dst undef) w') : wpList P ops Q (o :: rest) a w :=
  wpList_plain hgd fun _ hK => wp_store_run t x y ho u z hx hy hr (hK _ _ h)
theorem wpList_copy_run (hgd : o.guard = none) (d s : Operand) (t t' : TypeId) (ho : o.op = .call { callee := .builtin .copy, args := #[d, s], argTypes := #[t, t'] }) (u z : Value) (hd : a.eval d = u) (hs : a.eval s = z)
    (hr : (Builtin.copy_ #[t, t'] o.type #[u, z]).run P w = .ok v w') (h : wpList P ops Q rest (a.put o.dst v) w') : wpList P ops Q (o :: rest) a w :=
  wpList_plain hgd fun _ hK => wp_copy_run d s t t' ho u z hd hs hr (hK _ _ h)
theorem wpList_append_run (hgd : o.guard = none) (d s : Operand) (t t' : TypeId) (ho : o.op = .call { callee := .builtin .append, args := #[d, s], argTypes := #[t, t'] }) (u z : Value) (hd : a.eval d = u) (hs : a.eval s = z)
    (hr : (Builtin.append_ #[t, t'] o.type #[u, z]).run P w = .ok v w') (h : wpList P ops Q rest (a.put o.dst v) w') : wpList P ops Q (o :: rest) a w :=
  wpList_plain hgd fun _ hK => wp_append_run d s t t' ho u z hd hs hr (hK _ _ h)

theorem wp_region_drawn {id : Nat} (hm : P.follows .mixedOrders = true) (h : wpAny P .any ops Q ops.size (Array.replicate ops.size false) a w.drew) : (Code.region id ops true).wp P Q a w := wp_region_any hm h

theorem fold_sets : ∀ (vs : List Value) (k : Nat) (cs : Array Value), k + vs.length = cs.size → (vs.zipIdx k).foldl (fun (c : Array Value) (x : Value × Nat) => c.setIfInBounds (0 + x.2) x.1) cs = (cs.toList.take k ++ vs).toArray
  | [], k, cs, h => by
    simp only [List.zipIdx_nil, List.foldl_nil, List.append_nil]
    rw [List.take_of_length_le (by simp at h ⊢; omega)]
  | v :: vs, k, cs, h => by
    simp only [List.zipIdx_cons, List.foldl_cons]
    rw [fold_sets vs (k + 1) _ (by simp at h ⊢; omega)]
    congr 1
    have hk : k < cs.toList.length := by simp at h ⊢; omega
    simp only [Nat.zero_add, Array.toList_setIfInBounds]
    rw [List.take_add_one, List.getElem?_set_self hk, List.take_set_of_le (Nat.le_refl _)]
    simp

/-- A slice of one part, which is all of it. -/
theorem buildSlice_one (t e : TypeId) (i : TypeInfo) (z : Value) (ht : P.underlying t = some (.slice e)) (hi : P.info? e = some i) (hz : i.zero = some z) (cs : Array Value) (hs : cs.size = i.size) (h0 : 0 < i.size) (h1 : i.size ≤ 16777216) (w : World) :
    (Instr.buildSlice t 1 #[(0, .agg cs)]).run P w = .ok (.slice (some ⟨w.heap.size, 0, none⟩) 1 1) (w.alloc (.cells cs e)) := by
  refine run_buildSlice w t e 1 _ cs i z ht hi hz (by omega) (by omega) ?_
  have hsz : ∀ f : Nat → Value, ((Array.range (1 * i.size)).map f).size = i.size := fun f => by simp
  simp only [Instr.fill, Value.cells, Nat.zero_mul]
  rw [if_neg (by simp [hs])]
  rw [← Array.foldl_toList, Array.toList_zipIdx]
  have := fold_sets cs.toList 0 ((Array.range (1 * i.size)).map (z.cells[· % z.cells.size]!)) (by rw [hsz]; simp [hs])
  simp only [List.take_zero, List.nil_append, Array.toArray_toList] at this
  exact congrArg some this

/-- A load that is known in every world that meets a condition. -/
theorem yields_load_run {S : World → Prop} (hw : Region.wanted o (yielded ops a.tmps) = true) (t : TypeId) (x : Operand) (ho : o.op = .load t x) (u : Value) (hx : a.eval x = u) (hr : ∀ w, S w → (Instr.loadAt t u).run P w = .ok v w) : YieldsIf P ops S o v a :=
  .inl ⟨hw, fun w hS => by
    unfold execOp
    simp only [ho, Sem.run_bind, Sem.run_pure, Result.andThen_ok, hx, hr w hS]⟩
/-- A struct that is built: known in every world that meets a condition. -/
theorem yields_build_run {S : World → Prop} (hw : Region.wanted o (yielded ops a.tmps) = true) (t : TypeId) (parts : Array (Nat × Operand)) (ho : o.op = .build t parts) (ps : Array (Nat × Value)) (hp : (parts.map fun (i, x) => (i, a.eval x)) = ps) (hr : ∀ w, S w → (Instr.build t ps).run P w = .ok v w) : YieldsIf P ops S o v a :=
  .inl ⟨hw, fun w hS => by
    unfold execOp
    simp only [ho, Sem.run_bind, Sem.run_pure, Result.andThen_ok, hp, hr w hS]⟩
end
end Go.Proofs.YtiolkeipgpkbmaaGreatDoor

namespace Go.Proofs.YtiolkeipgpkbmaaGreatDoor
set_option linter.unusedVariables false
set_option linter.unusedSimpArgs false
set_option maxRecDepth 100000
open Go.RowKit Go.Lib

/-- A row of numbers. -/
def NRow (w : World) (g : Nat) (r : List Int) : Prop := w.heap[g]? = some (.cells (r.map (Value.int .i64)).toArray 3 (0, 0))
theorem NRow.cell {w : World} {g : Nat} {r : List Int} (h : NRow w g r) {i : Nat} (hi : i < r.length) : w.cell? ⟨g, i, none⟩ = some (.int .i64 (r.getD i 0)) := by
  unfold NRow at h
  simp [World.cell?, h, hi]
theorem NRow.frozen {w : World} {g : Nat} {r : List Int} (h : NRow w g r) (i : Nat) : w.frozen? ⟨g, i, none⟩ = false := by
  unfold NRow at h
  simp [World.frozen?, h]
theorem NRow.set {w : World} {g : Nat} {r : List Int} (h : NRow w g r) (i : Nat) (x : Int) : NRow (w.setCell ⟨g, i, none⟩ (.int .i64 x)) g (r.set i x) := by
  unfold NRow at *
  rw [setCell_eq_setRow w g i _ 3 (0, 0) _ h, setRow_heap w g _ _ 3 (0, 0) h]
  simp [List.map_set]
/-- All but one block is as it was. -/
structure But (g : Nat) (V W : World) : Prop where
  os : W.os = V.os
  tape : W.tape = V.tape
  output : W.output = V.output
  size : V.heap.size = W.heap.size
  block : ∀ b, b ≠ g → W.heap[b]? = V.heap[b]?
theorem But.refl (g : Nat) (V : World) : But g V V := ⟨rfl, rfl, rfl, rfl, fun _ _ => rfl⟩
theorem But.trans {g : Nat} {A B C : World} (h : But g A B) (k : But g B C) : But g A C := ⟨k.os.trans h.os, k.tape.trans h.tape, k.output.trans h.output, h.size.trans k.size, fun b hb => (k.block b hb).trans (h.block b hb)⟩
theorem But.drew {g : Nat} {A B : World} (h : But g A B) : But g A B.drew := h.trans ⟨rfl, rfl, rfl, rfl, fun _ _ => rfl⟩
theorem But.set {g : Nat} {A B : World} (h : But g A B) (o : Nat) (v : Value) : But g A (B.setCell ⟨g, o, none⟩ v) :=
  h.trans ⟨rfl, rfl, rfl, by simp [World.setCell], fun b hb => Below.heap_setCell _ _ _ _ hb⟩

theorem nrow_made (w : World) (n : Nat) : NRow (w.alloc (.cells (madeCells #[.int .i64 0] n) 3)) w.heap.size (List.replicate n 0) := by
  unfold NRow
  rw [show (w.alloc (.cells (madeCells #[.int .i64 0] n) 3)).heap[w.heap.size]? = some (.cells (madeCells #[.int .i64 0] n) 3 (0, 0)) by unfold World.alloc; simp only [Array.getElem?_push_size]]
  congr 2
  apply Array.ext
  · simp [madeCells]
  · intro i h1 h2
    simp [madeCells, Nat.mod_one]
theorem NRow.ltS {w : World} {g : Nat} {r : List Int} (h : NRow w g r) : g < w.heap.size := (Array.getElem?_eq_some_iff.1 h).1
theorem NRow.belowS {w w' : World} {g n : Nat} {r : List Int} (h : NRow w g r) (hb : Below n w w') (hg : g < n) : NRow w' g r := (hb.block g hg).trans h
theorem NRow.other {w : World} {g g' : Nat} {r : List Int} (h : NRow w g r) (hn : g ≠ g') (i : Nat) (v : Value) : NRow (w.setCell ⟨g', i, none⟩ v) g r := (Below.heap_setCell _ _ _ _ hn).trans h
/-- A slice of numbers that is read. -/
structure IsW (w : World) (a : Option Addr) (l : List Int) (cap : Nat) : Prop where
  cap : l.length ≤ cap
  lies : l = [] ∨ ∃ b off, a = some ⟨b, off, none⟩ ∧ b < w.heap.size ∧ ∀ k, k < l.length → w.cell? ⟨b, off + k, none⟩ = some (.int .i64 (l.getD k 0))
theorem IsW.below {w w' : World} {a : Option Addr} {l : List Int} {cap : Nat} (h : IsW w a l cap) (hb : Below w.heap.size w w') : IsW w' a l cap := by
  refine ⟨h.cap, ?_⟩
  rcases h.lies with h | ⟨b, off, e, hlt, hc⟩
  · exact .inl h
  · exact .inr ⟨b, off, e, by have := hb.size; omega, fun k hk => (hb.cell (p := ⟨b, off + k, none⟩) hlt).trans (hc k hk)⟩
theorem IsW.at {w : World} {a : Option Addr} {l : List Int} {cap : Nat} (h : IsW w a l cap) {k : Nat} (hk : k < l.length) : ∃ b off, a = some ⟨b, off, none⟩ ∧ b < w.heap.size ∧ w.cell? ⟨b, off + k, none⟩ = some (.int .i64 (l.getD k 0)) := by
  rcases h.lies with h | ⟨b, off, e, hlt, hc⟩
  · subst h; simp at hk
  · exact ⟨b, off, e, hlt, hc k hk⟩
theorem NRow.isW {w : World} {g : Nat} {r : List Int} (h : NRow w g r) (cap : Nat) (hc : r.length ≤ cap) : IsW w (some ⟨g, 0, none⟩) r cap :=
  ⟨hc, .inr ⟨g, 0, rfl, h.ltS, fun k hk => by rw [Nat.zero_add]; exact h.cell hk⟩⟩
end Go.Proofs.YtiolkeipgpkbmaaGreatDoor

namespace Go.Proofs.YtiolkeipgpkbmaaGreatDoor
set_option linter.unusedVariables false
set_option linter.unusedSimpArgs false
set_option maxRecDepth 100000
open Go.RowKit Go.Lib

/-- Two numbers change places. -/
def swp (l : List Int) (i j : Nat) : List Int := (l.set i (l.getD j 0)).set j (l.getD i 0)
theorem swp_length (l : List Int) (i j : Nat) : (swp l i j).length = l.length := by simp [swp]
/-- So many numbers from a on change places with those from b on. -/
def swapR (l : List Int) (a b : Nat) : Nat → List Int
  | 0 => l
  | k + 1 => swp (swapR l a b k) (a + k) (b + k)
theorem swapR_length (l : List Int) (a b k : Nat) : (swapR l a b k).length = l.length := by
  induction k with
  | zero => rfl
  | succ k ih => rw [swapR, swp_length, ih]

set_option maxHeartbeats 4000000 in
theorem swapRange_any (g cap a b n : Nat) (l : List Int) (f : Value) (w : World) (h : NRow w g l) (hl : l.length ≤ 1000000) (ha : a + n ≤ l.length) (hb : b + n ≤ l.length) :
    Calls Tryz.prog 147 #[.slice (some ⟨g, 0, none⟩) l.length cap, .int .i64 (a : Int), .int .i64 (b : Int), .int .i64 (n : Int), f] w fun e w' => e = .returned (.tuple #[]) ∧ Hid (NRow w' g (swapR l a b n) ∧ But g w w') := by
  have HR : Hid (NRow w g l) := h
  have n0 : (0 : Int) ≤ n := by omega
  have hli : (l.length : Int) ≤ 1000000 := by omega
  clear h
  go_enter Tryz.func147, Tryz.ntmps147
  go_wp2
  go_loopw [10] (fun i wr => ∃ k : Nat, k ≤ n ∧ i = .int .i64 k ∧ Hid (NRow wr g (swapR l a b k) ∧ But g w wr)) (fun i _ => n - (RowKit.intOf i).toNat)
  case atStart => exact ⟨0, Nat.zero_le _, rfl, HR.out, But.refl _ _⟩
  case round =>
    obtain ⟨k, hk, rfl, H⟩ := hrel
    obtain ⟨R, B⟩ := H.out
    by_cases hlt : k < n
    · have hL := swapR_length l a b k
      have i1 : (0 : Int) ≤ (a : Int) + k := by omega
      have i2 : (a : Int) + k < l.length := by omega
      have i3 : (0 : Int) ≤ (b : Int) + k := by omega
      have i4 : (b : Int) + k < l.length := by omega
      have i5 : (a : Int) + k = ((a + k : Nat) : Int) := by omega
      have k1 : (k : Int) < n := by omega
      have hn1 : (n : Int) ≤ 1000000 := by omega
      have wr1 : IntKind.i64.wrap ((a : Int) + k) = (a : Int) + k := by rw [IntKind.wrap_i64]; omega
      have wr2 : IntKind.i64.wrap ((b : Int) + k) = (b : Int) + k := by rw [IntKind.wrap_i64]; omega
      have t1 : ((a : Int) + k).toNat = a + k := by omega
      have t2 : ((b : Int) + k).toNat = b + k := by omega
      have ca : wr.drew.cell? ⟨g, a + k, none⟩ = some (.int .i64 ((swapR l a b k).getD (a + k) 0)) := R.cell (by omega)
      have cb : wr.drew.cell? ⟨g, b + k, none⟩ = some (.int .i64 ((swapR l a b k).getD (b + k) 0)) := R.cell (by omega)
      have fa : wr.drew.frozen? ⟨g, a + k, none⟩ = false := R.frozen _
      have R1 : NRow (wr.drew.setCell ⟨g, a + k, none⟩ (.int .i64 ((swapR l a b k).getD (b + k) 0))) g _ := (show NRow wr.drew g _ from R).set (a + k) _
      have cb1 := R1.cell (i := b + k) (by simp; omega)
      have fb1 := R1.frozen (b + k)
      have R2 := R1.set (b + k) ((swapR l a b k).getD (a + k) 0)
      have HR2 : Hid (NRow ((wr.drew.setCell ⟨g, a + k, none⟩ (.int .i64 ((swapR l a b k).getD (b + k) 0))).setCell ⟨g, b + k, none⟩ (.int .i64 ((swapR l a b k).getD (a + k) 0))) g (swapR l a b (k + 1)) ∧ But g w ((wr.drew.setCell ⟨g, a + k, none⟩ (.int .i64 ((swapR l a b k).getD (b + k) 0))).setCell ⟨g, b + k, none⟩ (.int .i64 ((swapR l a b k).getD (a + k) 0)))) := ⟨R2, (B.drew.set (a + k) _).set (b + k) _⟩
      generalize (swapR l a b k).getD (a + k) 0 = x at *
      generalize (swapR l a b k).getD (b + k) 0 = y at *
      generalize ((swapR l a b k).set (a + k) y).getD (b + k) 0 = z at *
      clear R B R1 R2 H i5 HR hL
      go_wp2
      refine wp_region_drawn (by kernel_rfl) ?_
      refine wpAny_take (i := 0) (v := .slice (some ⟨g, 0, none⟩) l.length cap) rfl (by kernel_rfl) (by kernel_rfl) (by kernel_rfl) (fun _ _ _ h => h) (Or.inl ⟨by rfl, fun w => by go_simp⟩) ?_
      simp only [Act.put, List.getElem_toArray, List.getElem_cons_succ, List.getElem_cons_zero, List.setIfInBounds_toArray, List.set_cons_zero, List.set_cons_succ]
      refine wpAny_take (i := 1) (v := .int .i64 a) rfl (by kernel_rfl) (by kernel_rfl) (by kernel_rfl) (fun _ _ _ h => h) (Or.inl ⟨by rfl, fun w => by go_simp⟩) ?_
      simp only [Act.put, List.getElem_toArray, List.getElem_cons_succ, List.getElem_cons_zero, List.setIfInBounds_toArray, List.set_cons_zero, List.set_cons_succ]
      refine wpAny_take (i := 2) (v := .int .i64 k) rfl (by kernel_rfl) (by kernel_rfl) (by kernel_rfl) (fun _ _ _ h => h) (Or.inl ⟨by rfl, fun w => by go_simp⟩) ?_
      simp only [Act.put, List.getElem_toArray, List.getElem_cons_succ, List.getElem_cons_zero, List.setIfInBounds_toArray, List.set_cons_zero, List.set_cons_succ]
      refine wpAny_take (i := 3) (v := .int .i64 ((a : Int) + k)) rfl (by kernel_rfl) (by kernel_rfl) (by kernel_rfl) (fun _ _ _ h => h) (Or.inl ⟨by rfl, fun w => by go_simp⟩) ?_
      simp only [Act.put, List.getElem_toArray, List.getElem_cons_succ, List.getElem_cons_zero, List.setIfInBounds_toArray, List.set_cons_zero, List.set_cons_succ]
      refine wpAny_take (i := 4) (v := .slice (some ⟨g, 0, none⟩) l.length cap) rfl (by kernel_rfl) (by kernel_rfl) (by kernel_rfl) (fun _ _ _ h => h) (Or.inl ⟨by rfl, fun w => by go_simp⟩) ?_
      simp only [Act.put, List.getElem_toArray, List.getElem_cons_succ, List.getElem_cons_zero, List.setIfInBounds_toArray, List.set_cons_zero, List.set_cons_succ]
      refine wpAny_take (i := 5) (v := .int .i64 b) rfl (by kernel_rfl) (by kernel_rfl) (by kernel_rfl) (fun _ _ _ h => h) (Or.inl ⟨by rfl, fun w => by go_simp⟩) ?_
      simp only [Act.put, List.getElem_toArray, List.getElem_cons_succ, List.getElem_cons_zero, List.setIfInBounds_toArray, List.set_cons_zero, List.set_cons_succ]
      refine wpAny_take (i := 6) (v := .int .i64 k) rfl (by kernel_rfl) (by kernel_rfl) (by kernel_rfl) (fun _ _ _ h => h) (Or.inl ⟨by rfl, fun w => by go_simp⟩) ?_
      simp only [Act.put, List.getElem_toArray, List.getElem_cons_succ, List.getElem_cons_zero, List.setIfInBounds_toArray, List.set_cons_zero, List.set_cons_succ]
      refine wpAny_take (i := 7) (v := .int .i64 ((b : Int) + k)) rfl (by kernel_rfl) (by kernel_rfl) (by kernel_rfl) (fun _ _ _ h => h) (Or.inl ⟨by rfl, fun w => by go_simp⟩) ?_
      simp only [Act.put, List.getElem_toArray, List.getElem_cons_succ, List.getElem_cons_zero, List.setIfInBounds_toArray, List.set_cons_zero, List.set_cons_succ]
      refine wpAny_take (i := 8) (v := .slice (some ⟨g, 0, none⟩) l.length cap) rfl (by kernel_rfl) (by kernel_rfl) (by kernel_rfl) (fun _ _ _ h => h) (Or.inl ⟨by rfl, fun w => by go_simp⟩) ?_
      simp only [Act.put, List.getElem_toArray, List.getElem_cons_succ, List.getElem_cons_zero, List.setIfInBounds_toArray, List.set_cons_zero, List.set_cons_succ]
      refine wpAny_take (i := 9) (v := .int .i64 b) rfl (by kernel_rfl) (by kernel_rfl) (by kernel_rfl) (fun _ _ _ h => h) (Or.inl ⟨by rfl, fun w => by go_simp⟩) ?_
      simp only [Act.put, List.getElem_toArray, List.getElem_cons_succ, List.getElem_cons_zero, List.setIfInBounds_toArray, List.set_cons_zero, List.set_cons_succ]
      refine wpAny_take (i := 10) (v := .int .i64 k) rfl (by kernel_rfl) (by kernel_rfl) (by kernel_rfl) (fun _ _ _ h => h) (Or.inl ⟨by rfl, fun w => by go_simp⟩) ?_
      simp only [Act.put, List.getElem_toArray, List.getElem_cons_succ, List.getElem_cons_zero, List.setIfInBounds_toArray, List.set_cons_zero, List.set_cons_succ]
      refine wpAny_take (i := 11) (v := .int .i64 ((b : Int) + k)) rfl (by kernel_rfl) (by kernel_rfl) (by kernel_rfl) (fun _ _ _ h => h) (Or.inl ⟨by rfl, fun w => by go_simp⟩) ?_
      simp only [Act.put, List.getElem_toArray, List.getElem_cons_succ, List.getElem_cons_zero, List.setIfInBounds_toArray, List.set_cons_zero, List.set_cons_succ]
      refine wpAny_take (i := 12) (v := .pointer (some ⟨g, b + k, none⟩)) rfl (by kernel_rfl) (by kernel_rfl) (by kernel_rfl) (fun _ _ _ h => h) (Or.inl ⟨by rfl, fun w => by go_simp⟩) ?_
      simp only [Act.put, List.getElem_toArray, List.getElem_cons_succ, List.getElem_cons_zero, List.setIfInBounds_toArray, List.set_cons_zero, List.set_cons_succ]
      refine wpAny_take (i := 14) (v := .slice (some ⟨g, 0, none⟩) l.length cap) rfl (by kernel_rfl) (by kernel_rfl) (by kernel_rfl) (fun _ _ _ h => h) (Or.inl ⟨by rfl, fun w => by go_simp⟩) ?_
      simp only [Act.put, List.getElem_toArray, List.getElem_cons_succ, List.getElem_cons_zero, List.setIfInBounds_toArray, List.set_cons_zero, List.set_cons_succ]
      refine wpAny_take (i := 15) (v := .int .i64 a) rfl (by kernel_rfl) (by kernel_rfl) (by kernel_rfl) (fun _ _ _ h => h) (Or.inl ⟨by rfl, fun w => by go_simp⟩) ?_
      simp only [Act.put, List.getElem_toArray, List.getElem_cons_succ, List.getElem_cons_zero, List.setIfInBounds_toArray, List.set_cons_zero, List.set_cons_succ]
      refine wpAny_take (i := 16) (v := .int .i64 k) rfl (by kernel_rfl) (by kernel_rfl) (by kernel_rfl) (fun _ _ _ h => h) (Or.inl ⟨by rfl, fun w => by go_simp⟩) ?_
      simp only [Act.put, List.getElem_toArray, List.getElem_cons_succ, List.getElem_cons_zero, List.setIfInBounds_toArray, List.set_cons_zero, List.set_cons_succ]
      refine wpAny_take (i := 17) (v := .int .i64 ((a : Int) + k)) rfl (by kernel_rfl) (by kernel_rfl) (by kernel_rfl) (fun _ _ _ h => h) (Or.inl ⟨by rfl, fun w => by go_simp⟩) ?_
      simp only [Act.put, List.getElem_toArray, List.getElem_cons_succ, List.getElem_cons_zero, List.setIfInBounds_toArray, List.set_cons_zero, List.set_cons_succ]
      refine wpAny_take (i := 18) (v := .pointer (some ⟨g, a + k, none⟩)) rfl (by kernel_rfl) (by kernel_rfl) (by kernel_rfl) (fun _ _ _ h => h) (Or.inl ⟨by rfl, fun w => by go_simp⟩) ?_
      simp only [Act.put, List.getElem_toArray, List.getElem_cons_succ, List.getElem_cons_zero, List.setIfInBounds_toArray, List.set_cons_zero, List.set_cons_succ]
      refine any_of_L (g := 21) (T := fun u => u = wr.drew) _ _ _ _ ?_
      refine L_take (i := 13) (v := .int .i64 y) rfl rfl (by kernel_rfl) (by decide) (by kernel_rfl) (by kernel_rfl) (by kernel_rfl) (by kernel_rfl) (fun _ _ _ h => h) (Or.inl ⟨by rfl, fun w' hw' => by subst hw'; go_simp⟩) rfl ?_
      simp only [Act.put, List.getElem_toArray, List.getElem_cons_succ, List.getElem_cons_zero, List.setIfInBounds_toArray, List.set_cons_zero, List.set_cons_succ]
      refine L_take (i := 19) (v := .int .i64 x) rfl rfl (by kernel_rfl) (by decide) (by kernel_rfl) (by kernel_rfl) (by kernel_rfl) (by kernel_rfl) (fun _ _ _ h => h) (Or.inl ⟨by rfl, fun w' hw' => by subst hw'; go_simp⟩) rfl ?_
      simp only [Act.put, List.getElem_toArray, List.getElem_cons_succ, List.getElem_cons_zero, List.setIfInBounds_toArray, List.set_cons_zero, List.set_cons_succ]
      refine L_take (i := 20) (v := .pointer (some ⟨g, a + k, none⟩)) rfl rfl (by kernel_rfl) (by decide) (by kernel_rfl) (by kernel_rfl) (by kernel_rfl) (by kernel_rfl) (fun _ _ _ h => h) (Or.inl ⟨by rfl, fun w' hw' => by subst hw'; go_simp⟩) rfl ?_
      simp only [Act.put, List.getElem_toArray, List.getElem_cons_succ, List.getElem_cons_zero, List.setIfInBounds_toArray, List.set_cons_zero, List.set_cons_succ]
      refine L_go (by kernel_rfl) (by kernel_rfl) ?_
      refine wpOp_step rfl ?_
      intro K hK
      rw [if_pos (by rfl)]
      have hK' : Shut (∀ a w, _ → K a w) := hK
      clear hK
      go_wp2
      refine hK'.out _ _ ?_
      clear hK' K
      have eW : wr.drew.setCell ⟨g, a + k, none⟩ (.int .i64 y) = (wr.setCell ⟨g, a + k, none⟩ (.int .i64 y)).drew := rfl
      rw [eW] at cb1 fb1 HR2
      clear eW ca cb fa
      generalize (wr.setCell ⟨g, a + k, none⟩ (.int .i64 y)).drew = W1 at *
      refine any_one (i := 22) (by kernel_rfl) ?_
      refine wpOp_step rfl ?_
      intro K hK
      rw [if_pos (by rfl)]
      have hK' : Shut (∀ a w, _ → K a w) := hK
      clear hK
      go_wp2
      refine hK'.out _ _ ?_
      clear hK' K
      refine any_one (i := 23) (by kernel_rfl) ?_
      refine wpOp_step rfl ?_
      intro K hK
      rw [if_pos (by rfl)]
      have hK' : Shut (∀ a w, _ → K a w) := hK
      clear hK
      go_wp2
      refine hK'.out _ _ ?_
      clear hK' K
      refine wpAny_done (by kernel_rfl) ?_ _
      go_wp2
      go_roundw
      case rel => exact ⟨k + 1, by omega, by go_num, HR2⟩
      case measure => simp [RowKit.intOf]; omega
    · have ek : k = n := by omega
      subst ek
      have k1 : ¬ (k : Int) < k := by omega
      have HE : Hid (NRow wr g (swapR l a b k) ∧ But g w wr) := ⟨R, B⟩
      clear R B H
      go_wp2
      go_end0
      exact ⟨rfl, HE⟩
end Go.Proofs.YtiolkeipgpkbmaaGreatDoor

namespace Go.Proofs.YtiolkeipgpkbmaaGreatDoor
set_option linter.unusedVariables false
set_option linter.unusedSimpArgs false
set_option maxRecDepth 100000
open Go.RowKit Go.Lib

/-- How two numbers compare. -/
def cmpN (x y : Int) : Int := if x < y then -1 else if y < x then 1 else 0
theorem isNaN64_any (x : Int) (w : World) : Calls Tryz.prog 131 #[.int .u64 x] w fun e w' => e = .returned (.bool false) ∧ w' = w := by
  go_enter Tryz.func131, Tryz.ntmps131
  go_wp2
  go_ret
  exact ⟨rfl, rfl⟩
theorem compare64_any (x y : Int) (w : World) : Calls Tryz.prog 105 #[.int .u64 x, .int .u64 y] w fun e w' => e = .returned (.int .i64 (cmpN x y)) ∧ w' = w := by
  have HN : Hid (∀ z, Calls _ _ _ _ _) := fun z => isNaN64_any z w
  unfold cmpN
  by_cases h1 : x < y
  · rw [if_pos h1]
    go_enter Tryz.func105, Tryz.ntmps105
    go_wp2_with fail
    refine (HN.out x).mono ?_
    rintro e w' ⟨rfl, hw⟩
    rw [hw]; clear hw w'
    go_wp2_with fail
    refine (HN.out y).mono ?_
    rintro e w' ⟨rfl, hw⟩
    rw [hw]; clear hw w'
    go_wp2
    go_ret
    exact ⟨rfl, rfl⟩
  · rw [if_neg h1]
    by_cases h2 : y < x
    · rw [if_pos h2]
      go_enter Tryz.func105, Tryz.ntmps105
      go_wp2_with fail
      refine (HN.out x).mono ?_
      rintro e w' ⟨rfl, hw⟩
      rw [hw]; clear hw w'
      go_wp2_with fail
      refine (HN.out y).mono ?_
      rintro e w' ⟨rfl, hw⟩
      rw [hw]; clear hw w'
      go_wp2
      go_ret
      exact ⟨rfl, rfl⟩
    · rw [if_neg h2]
      go_enter Tryz.func105, Tryz.ntmps105
      go_wp2_with fail
      refine (HN.out x).mono ?_
      rintro e w' ⟨rfl, hw⟩
      rw [hw]; clear hw w'
      go_wp2_with fail
      refine (HN.out y).mono ?_
      rintro e w' ⟨rfl, hw⟩
      rw [hw]; clear hw w'
      go_wp2
      go_ret
      exact ⟨rfl, rfl⟩

/-- What was cut off, in memory, and the variable that holds it. -/
structure CutAt (w : World) (cb gc : Nat) (cut : List Int) (cap : Nat) : Prop where
  box : w.cell? ⟨cb, 0, none⟩ = some (.slice (some ⟨gc, 0, none⟩) cut.length cap)
  row : ∀ i, i < cut.length → w.cell? ⟨gc, i, none⟩ = some (.int .u64 (cut.getD i 0))
theorem CutAt.but {w W : World} {g cb gc : Nat} {cut : List Int} {cap : Nat} (h : CutAt w cb gc cut cap) (hb : But g w W) (h1 : cb ≠ g) (h2 : gc ≠ g) : CutAt W cb gc cut cap :=
  ⟨(World.cell?_of_block (w := w) (hb.block cb h1)).trans h.box, fun i hi => (World.cell?_of_block (w := w) (hb.block gc h2)).trans (h.row i hi)⟩
/-- Who was cut more stands ahead. -/
def cutC (cut : List Int) (i j : Nat) : Int := cmpN (cut.getD j 0) (cut.getD i 0)
theorem byCut1_any (i j cb gc : Nat) (cut : List Int) (cap : Nat) (w : World) (h : CutAt w cb gc cut cap) (hi : i < cut.length) (hj : j < cut.length) :
    Calls Tryz.prog 104 #[.int .i64 (i : Int), .int .i64 (j : Int), .pointer (some ⟨cb, 0, none⟩)] w fun e w' => e = .returned (.int .i64 (cutC cut i j)) ∧ ∃ k, w' = w.drewN k := by
  have c0 := h.box
  have c1 := h.row i hi
  have c2 := h.row j hj
  have i0 : (0 : Int) ≤ i := by omega
  have i1 : (i : Int) < cut.length := by omega
  have j0 : (0 : Int) ≤ j := by omega
  have j1 : (j : Int) < cut.length := by omega
  have HC : ∀ W, Calls Tryz.prog 105 #[.int .u64 (cut.getD j 0), .int .u64 (cut.getD i 0)] W fun e w' => e = .returned (.int .i64 (cutC cut i j)) ∧ w' = W := fun W => compare64_any _ _ W
  generalize cutC cut i j = r at *
  generalize cut.getD i 0 = x at *
  generalize cut.getD j 0 = y at *
  clear h
  go_enter Tryz.func104, Tryz.ntmps104
  go_wp2_with fail
  go_quiet ((go_at_call 105; exact Calls.quiet_of_same (HC _)))
  rename Nat => nq
  go_wp2
  go_ret
  exact ⟨rfl, nq, rfl⟩
end Go.Proofs.YtiolkeipgpkbmaaGreatDoor

namespace Go.Proofs.YtiolkeipgpkbmaaGreatDoor
set_option linter.unusedVariables false
set_option linter.unusedSimpArgs false
set_option maxRecDepth 100000
open Go.RowKit Go.Lib

theorem swp_get (l : List Int) (i j q : Nat) (hi : i < l.length) (hj : j < l.length) : (swp l i j).getD q 0 = if q = j then l.getD i 0 else if q = i then l.getD j 0 else l.getD q 0 := by
  unfold swp
  by_cases h1 : q = j
  · subst h1
    rw [if_pos rfl, List.getD_eq_getElem?_getD, List.getElem?_set_self (by simpa using hj)]
    rfl
  · rw [if_neg h1, List.getD_eq_getElem?_getD, List.getElem?_set_ne (fun e => h1 e.symm)]
    by_cases h2 : q = i
    · subst h2
      rw [if_pos rfl, List.getElem?_set_self hi]
      rfl
    · rw [if_neg h2, List.getElem?_set_ne (fun e => h2 e.symm), ← List.getD_eq_getElem?_getD]
theorem swapR_get (l : List Int) (a b : Nat) : ∀ (n : Nat), a + n ≤ b → b + n ≤ l.length → ∀ q, (swapR l a b n).getD q 0 = if a ≤ q ∧ q < a + n then l.getD (q - a + b) 0 else if b ≤ q ∧ q < b + n then l.getD (q - b + a) 0 else l.getD q 0
  | 0, h1, h2, q => by
    rw [if_neg (by omega), if_neg (by omega)]
    rfl
  | n + 1, h1, h2, q => by
    have ih := swapR_get l a b n (by omega) (by omega)
    rw [swapR, swp_get _ _ _ _ (by rw [swapR_length]; omega) (by rw [swapR_length]; omega), ih, ih, ih]
    by_cases e1 : q = b + n
    · subst e1
      rw [if_pos rfl, if_neg (by omega), if_neg (by omega), if_neg (by omega), if_pos (by omega)]
      congr 1
      omega
    · rw [if_neg e1]
      by_cases e2 : q = a + n
      · subst e2
        rw [if_pos rfl, if_neg (by omega), if_neg (by omega), if_pos (by omega)]
        congr 1
        omega
      · rw [if_neg e2]
        by_cases e3 : a ≤ q ∧ q < a + n
        · rw [if_pos e3, if_pos (by omega)]
        · rw [if_neg e3, if_neg (show ¬ (a ≤ q ∧ q < a + (n + 1)) by omega)]
          by_cases e4 : b ≤ q ∧ q < b + n
          · rw [if_pos e4, if_pos (by omega)]
          · rw [if_neg e4, if_neg (show ¬ (b ≤ q ∧ q < b + (n + 1)) by omega)]
theorem getD_app (x y : List Int) (q : Nat) : (x ++ y).getD q 0 = if q < x.length then x.getD q 0 else y.getD (q - x.length) 0 := by
  by_cases h : q < x.length
  · rw [if_pos h, List.getD_eq_getElem?_getD, List.getElem?_append_left h, ← List.getD_eq_getElem?_getD]
  · rw [if_neg h, List.getD_eq_getElem?_getD, List.getElem?_append_right (by omega), ← List.getD_eq_getElem?_getD]
theorem ext_getD {x y : List Int} (hl : x.length = y.length) (h : ∀ q, q < x.length → x.getD q 0 = y.getD q 0) : x = y := by
  apply List.ext_getElem hl
  intro i h1 h2
  have := h i h1
  rwa [List.getD_eq_getElem?_getD, List.getD_eq_getElem?_getD, List.getElem?_eq_getElem h1, List.getElem?_eq_getElem h2] at this
/-- Two parts of one length change places. -/
theorem swapR_parts (A x q y Z : List Int) (h : x.length = y.length) : swapR (A ++ (x ++ (q ++ (y ++ Z)))) A.length (A.length + x.length + q.length) x.length = A ++ (y ++ (q ++ (x ++ Z))) := by
  apply ext_getD
  · rw [swapR_length]; simp; omega
  · intro i hi
    rw [swapR_length] at hi
    simp only [List.length_append] at hi
    rw [swapR_get _ _ _ _ (by omega) (by simp only [List.length_append]; omega)]
    simp only [getD_app]
    by_cases h1 : i < A.length
    · rw [if_neg (by omega), if_neg (by omega), if_pos h1, if_pos h1]
    · by_cases h2 : i < A.length + x.length
      · rw [if_pos (by omega), if_neg (by omega), if_neg (by omega), if_neg (by omega), if_pos (by omega), if_neg h1, if_pos (by omega)]
        congr 1
        omega
      · by_cases h3 : i < A.length + x.length + q.length
        · rw [if_neg (by omega), if_neg (by omega), if_neg h1, if_neg (by omega), if_pos (by omega), if_neg h1, if_neg (by omega), if_pos (by omega)]
          congr 1
          omega
        · by_cases h4 : i < A.length + x.length + q.length + x.length
          · rw [if_neg (by omega), if_pos (by omega), if_neg (by omega), if_pos (by omega), if_neg h1, if_neg (by omega), if_neg (by omega), if_pos (by omega)]
            congr 1
            omega
          · rw [if_neg (by omega), if_neg (by omega), if_neg h1, if_neg (by omega), if_neg (by omega), if_neg (by omega), if_neg h1, if_neg (by omega), if_neg (by omega), if_neg (by omega)]
            congr 1
            omega

/-- What is left to rotate. -/
def RotSt (wr w : World) (g L m i j : Nat) (F : List Int) : Prop := ∃ A u v Z : List Int, NRow wr g (A ++ (u ++ (v ++ Z))) ∧ (A ++ (u ++ (v ++ Z))).length = L ∧ A.length + i = m ∧ u.length = i ∧ v.length = j ∧ A ++ (v ++ (u ++ Z)) = F ∧ But g w wr
theorem RotSt.more {wr w : World} {g L m i j : Nat} {F : List Int} (h : RotSt wr w g L m i j F) (hij : j < i) (f : Value) (cap : Nat) (hL : L ≤ 1000000) :
    Calls Tryz.prog 147 #[.slice (some ⟨g, 0, none⟩) L cap, .int .i64 ((m : Int) - i), .int .i64 (m : Int), .int .i64 (j : Int), f] wr fun e w' => e = .returned (.tuple #[]) ∧ Hid (RotSt w' w g L m (i - j) j F) := by
  obtain ⟨A, u, v, Z, hr, hl, hA, hu, hv, hF, hB⟩ := h
  have hu2 : u = u.take j ++ u.drop j := (List.take_append_drop j u).symm
  have e1 : A ++ (u ++ (v ++ Z)) = A ++ (u.take j ++ (u.drop j ++ (v ++ Z))) := by rw [← List.append_assoc (u.take j), List.take_append_drop]
  rw [e1] at hr hl
  have c := swapRange_any g cap A.length m j _ f wr hr (by omega) (by simp only [List.length_append] at hl ⊢; omega) (by simp only [List.length_append, List.length_take, List.length_drop] at hl ⊢; omega)
  rw [hl] at c
  rw [show (A.length : Int) = (m : Int) - i by omega] at c
  refine c.mono ?_
  rintro e w' ⟨rfl, h2⟩
  obtain ⟨h3, h4⟩ := h2.out
  have hx : (u.take j).length = j := by rw [List.length_take]; omega
  have sp := swapR_parts A (u.take j) (u.drop j) v Z (by rw [hx, hv])
  rw [hx] at sp
  have em : A.length + j + (u.drop j).length = m := by rw [List.length_drop]; omega
  rw [em] at sp
  rw [sp] at h3
  refine ⟨rfl, A ++ v, u.drop j, u.take j, Z, ?_, ?_, ?_, ?_, hx, ?_, hB.trans h4⟩
  · rw [List.append_assoc]; exact h3
  · rw [List.append_assoc]
    simp only [List.length_append] at hl ⊢
    omega
  · rw [List.length_append]; omega
  · rw [List.length_drop]; omega
  · rw [← hF, List.append_assoc, ← List.append_assoc (u.take j), List.take_append_drop]
theorem RotSt.less {wr w : World} {g L m i j : Nat} {F : List Int} (h : RotSt wr w g L m i j F) (hij : i < j) (f : Value) (cap : Nat) (hL : L ≤ 1000000) :
    Calls Tryz.prog 147 #[.slice (some ⟨g, 0, none⟩) L cap, .int .i64 ((m : Int) - i), .int .i64 ((m : Int) + j - i), .int .i64 (i : Int), f] wr fun e w' => e = .returned (.tuple #[]) ∧ Hid (RotSt w' w g L m i (j - i) F) := by
  obtain ⟨A, u, v, Z, hr, hl, hA, hu, hv, hF, hB⟩ := h
  have e1 : A ++ (u ++ (v ++ Z)) = A ++ (u ++ (v.take (j - i) ++ (v.drop (j - i) ++ Z))) := by rw [← List.append_assoc (v.take (j - i)), List.take_append_drop]
  rw [e1] at hr hl
  have c := swapRange_any g cap A.length (m + j - i) i _ f wr hr (by omega) (by simp only [List.length_append] at hl ⊢; omega) (by simp only [List.length_append, List.length_take, List.length_drop] at hl ⊢; omega)
  rw [hl] at c
  rw [show (A.length : Int) = (m : Int) - i by omega, show ((m + j - i : Nat) : Int) = (m : Int) + j - i by omega] at c
  refine c.mono ?_
  rintro e w' ⟨rfl, h2⟩
  obtain ⟨h3, h4⟩ := h2.out
  have hx : (v.drop (j - i)).length = i := by rw [List.length_drop]; omega
  have sp := swapR_parts A u (v.take (j - i)) (v.drop (j - i)) Z (by rw [hx, hu])
  rw [hu] at sp
  have em : A.length + i + (v.take (j - i)).length = m + j - i := by rw [List.length_take]; omega
  rw [em] at sp
  rw [sp] at h3
  refine ⟨rfl, A, v.drop (j - i), v.take (j - i), u ++ Z, h3, ?_, hA, hx, ?_, ?_, hB.trans h4⟩
  · simp only [List.length_append] at hl ⊢
    omega
  · rw [List.length_take]; omega
  · rw [← hF, ← List.append_assoc (v.take (j - i)), List.take_append_drop]
theorem RotSt.last {wr w : World} {g L m i : Nat} {F : List Int} (h : RotSt wr w g L m i i F) (f : Value) (cap : Nat) (hL : L ≤ 1000000) :
    Calls Tryz.prog 147 #[.slice (some ⟨g, 0, none⟩) L cap, .int .i64 ((m : Int) - i), .int .i64 (m : Int), .int .i64 (i : Int), f] wr fun e w' => e = .returned (.tuple #[]) ∧ Hid (NRow w' g F ∧ But g w w') := by
  obtain ⟨A, u, v, Z, hr, hl, hA, hu, hv, hF, hB⟩ := h
  have c := swapRange_any g cap A.length m i _ f wr hr (by omega) (by simp only [List.length_append] at hl ⊢; omega) (by simp only [List.length_append] at hl ⊢; omega)
  rw [hl] at c
  rw [show (A.length : Int) = (m : Int) - i by omega] at c
  refine c.mono ?_
  rintro e w' ⟨rfl, h2⟩
  obtain ⟨h3, h4⟩ := h2.out
  have sp := swapR_parts A u [] v Z (by rw [hu, hv])
  rw [hu] at sp
  simp only [List.nil_append, List.length_nil, Nat.add_zero] at sp
  rw [hA] at sp
  rw [sp, hF] at h3
  exact ⟨rfl, h3, hB.trans h4⟩

set_option maxHeartbeats 4000000 in
theorem rotate_any (g cap : Nat) (A u v Z : List Int) (f : Value) (w : World) (h : NRow w g (A ++ (u ++ (v ++ Z)))) (hl : (A ++ (u ++ (v ++ Z))).length ≤ 1000000) (hu : 0 < u.length) (hv : 0 < v.length) :
    Calls Tryz.prog 146 #[.slice (some ⟨g, 0, none⟩) (A ++ (u ++ (v ++ Z))).length cap, .int .i64 (A.length : Int), .int .i64 ((A.length + u.length : Nat) : Int), .int .i64 ((A.length + u.length + v.length : Nat) : Int), f] w fun e w' => e = .returned (.tuple #[]) ∧ Hid (NRow w' g (A ++ (v ++ (u ++ Z))) ∧ But g w w') := by
  have HS : Hid (RotSt w w g (A ++ (u ++ (v ++ Z))).length (A.length + u.length) u.length v.length (A ++ (v ++ (u ++ Z)))) := ⟨A, u, v, Z, h, rfl, rfl, rfl, rfl, rfl, But.refl _ _⟩
  have hm : A.length + u.length + v.length ≤ (A ++ (u ++ (v ++ Z))).length := by simp only [List.length_append]; omega
  clear h
  generalize (A ++ (u ++ (v ++ Z))).length = L at *
  generalize A ++ (v ++ (u ++ Z)) = F at *
  obtain ⟨m, hmm⟩ : ∃ m, A.length + u.length = m := ⟨_, rfl⟩
  rw [hmm] at HS hm ⊢
  obtain ⟨i0, hi0⟩ : ∃ i0, u.length = i0 := ⟨_, rfl⟩
  obtain ⟨j0, hj0⟩ : ∃ j0, v.length = j0 := ⟨_, rfl⟩
  rw [hi0] at HS hu hmm
  rw [hj0] at HS hv hm ⊢
  have e1 : (A.length : Int) = (m : Int) - i0 := by omega
  rw [e1]
  have s1 : (m : Int) - ((m : Int) - i0) = i0 := by omega
  have s2 : (m : Int) + j0 - m = j0 := by omega
  have mL : (m : Int) ≤ 1000000 := by omega
  have jL : (m : Int) + j0 ≤ 1000000 := by omega
  rw [show ((m + j0 : Nat) : Int) = (m : Int) + j0 by omega]
  have im : (i0 : Int) ≤ m := by omega
  have Him : Hid (m + j0 ≤ L ∧ L ≤ 1000000 ∧ i0 ≤ m) := ⟨hm, hl, by omega⟩
  have i00 : (0 : Int) ≤ i0 := by omega
  clear e1 hmm hi0 hj0
  go_enter Tryz.func146, Tryz.ntmps146
  go_wp2
  go_loopw [10, 11] (fun ti tj wr => ∃ i j : Nat, 0 < i ∧ 0 < j ∧ i ≤ m ∧ m + j ≤ L ∧ ti = .int .i64 i ∧ tj = .int .i64 j ∧ Hid (RotSt wr w g L m i j F)) (fun ti tj _ => (RowKit.intOf ti).toNat + (RowKit.intOf tj).toNat)
  case atStart => exact ⟨i0, j0, hu, hv, Him.out.2.2, Him.out.1, by first | rfl | simp [s1], by first | rfl | simp [s2], HS⟩
  case round =>
    obtain ⟨i, j, hi, hj, him, hjL, rfl, rfl, H⟩ := hrel
    have i1 : (i : Int) ≤ m := by omega
    have i2 : (0 : Int) ≤ i := by omega
    have j1 : (m : Int) + j ≤ 1000000 := by have := Him.out.2.1; omega
    have j2 : (0 : Int) ≤ j := by omega
    clear s1 s2
    by_cases hij : i = j
    · subst hij
      have HC : Hid (Calls _ _ _ _ _) := H.out.last f cap Him.out.2.1
      have hne : ((i : Int) != (i : Int)) = false := by simp
      go_wp2_with fail
      refine HC.out.mono ?_
      rintro e w' ⟨rfl, hh⟩
      go_wp2
      go_end0
      exact ⟨rfl, hh⟩
    · have hne : ((i : Int) == (j : Int)) = false := by rw [beq_eq_false_iff_ne]; omega
      by_cases hgt : j < i
      · have HC : Hid (Calls _ _ _ _ _) := H.out.more hgt f cap Him.out.2.1
        have hg1 : (j : Int) < i := by omega
        go_wp2_with fail
        refine HC.out.mono ?_
        rintro e w' ⟨rfl, hh⟩
        go_wp2_with fail
        refine ⟨⟨i - j, j, by omega, hj, by omega, hjL, by congr 1; omega, rfl, hh⟩, ?_⟩
        simp [RowKit.intOf]; omega
      · have HC : Hid (Calls _ _ _ _ _) := H.out.less (by omega) f cap Him.out.2.1
        have hg1 : ¬ (j : Int) < i := by omega
        have hg2 : (i : Int) ≤ j := by omega
        go_wp2_with fail
        refine HC.out.mono ?_
        rintro e w' ⟨rfl, hh⟩
        go_wp2_with fail
        refine ⟨⟨i, j - i, hi, by omega, him, by omega, rfl, by congr 1; omega, hh⟩, ?_⟩
        simp [RowKit.intOf]; omega
end Go.Proofs.YtiolkeipgpkbmaaGreatDoor

namespace Go.Proofs.YtiolkeipgpkbmaaGreatDoor
set_option linter.unusedVariables false
set_option linter.unusedSimpArgs false
open Go.RowKit Go.Lib

/-- Who was cut more stands ahead; of two alike who stood ahead. -/
def LT (cut : List Int) (i j : Nat) : Prop := cut.getD j 0 < cut.getD i 0 ∨ (cut.getD i 0 = cut.getD j 0 ∧ i < j)
theorem LT.trans {cut : List Int} {i j k : Nat} (h : LT cut i j) (h' : LT cut j k) : LT cut i k := by unfold LT at *; omega
theorem cutC_neg (cut : List Int) (x y : Nat) : cutC cut x y < 0 ↔ cut.getD y 0 < cut.getD x 0 := by
  unfold cutC cmpN
  constructor
  · intro h
    split at h
    · assumption
    · split at h <;> omega
  · intro h
    rw [if_pos h]
    omega
/-- Numbers of parts, as ints. -/
def toI (l : List Nat) : List Int := l.map fun (i : Nat) => (i : Int)
theorem toI_len (l : List Nat) : (toI l).length = l.length := by simp [toI]
theorem toI_app (a b : List Nat) : toI (a ++ b) = toI a ++ toI b := by simp [toI]
theorem toI_at (B : List Nat) (y : Nat) (R : List Nat) : (toI (B ++ (y :: R))).getD B.length 0 = (y : Int) := by
  simp [toI, List.getD_eq_getElem?_getD]
theorem adj_swap (B : List Nat) (x y : Nat) (R : List Nat) : ((toI (B ++ (x :: y :: R))).set (B.length + 1) (x : Int)).set B.length (y : Int) = toI (B ++ (y :: x :: R)) := by
  rw [toI_app, toI_app, List.set_append_right _ _ (by rw [toI_len]; omega), List.set_append_right _ _ (by rw [toI_len]; omega), toI_len, show B.length + 1 - B.length = 1 by omega, Nat.sub_self]
  rfl
theorem put_sorted {cut : List Int} {P Q : List Nat} {x : Nat} (h : (P ++ Q).Pairwise (LT cut)) (hQ : ∀ z ∈ Q, LT cut x z) (hP : ∀ z ∈ P, LT cut z x) : (P ++ (x :: Q)).Pairwise (LT cut) := by
  obtain ⟨h1, h2, h3⟩ := List.pairwise_append.1 h
  rw [List.pairwise_append]
  refine ⟨h1, List.pairwise_cons.2 ⟨hQ, h2⟩, ?_⟩
  intro a ha b hb
  rcases List.mem_cons.1 hb with rfl | hb
  · exact hP a ha
  · exact h3 a ha b hb
theorem all_ahead {cut : List Int} {P : List Nat} {x y : Nat} (h : (P ++ [y]).Pairwise (LT cut)) (hy : LT cut y x) : ∀ z ∈ P ++ [y], LT cut z x := by
  intro z hz
  rcases List.mem_append.1 hz with hz | hz
  · exact ((List.pairwise_append.1 h).2.2 z hz y (by simp)).trans hy
  · rw [List.mem_singleton.1 hz]; exact hy
end Go.Proofs.YtiolkeipgpkbmaaGreatDoor
