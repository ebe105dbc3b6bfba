/-
  The contract of revalue.Entries.
-/
import Derived.Test.YtmelleimijenfaaZs11
import Derived.Laws.Tables
import Derived.OrdersHeld
import Derived.RegionTactic
import Derived.Deep.MidRow
import Derived.Great.BuildSlice
namespace Go.Proofs.Ytmelleimijenfaa
open Go
set_option linter.unusedVariables false

section
variable {P : Program} {ops : Array Oper} {Q : Exit → Act → World → Prop} {md : Region.Mode} {T : World → Prop} {g m : Nat}

theorem L_first2 {i : Nat} {oi om og : Oper} {v : Value} (hi : ops[i]? = some oi) (hmo : ops[m]? = some om) (hgo : ops[g]? = some og) (hwm : ∃ e ∈ om.after, Region.binds md e = true ∧ e.on = i) (hwg : ∃ e ∈ og.after, Region.binds md e = true ∧ e.on = m) (hgi : g ≠ i)
    (hsel : ∀ (j : Nat) (o : Oper) cs b, ops[j]? = some o → o.op ≠ .select cs b) (hQ : ∀ c a w, Q (.panic c) (a.put oi.dst v) w → Q (.panic c) a w) :
    ∀ (fuel : Nat) (listed : Array Bool) (a : Act) (w : World),
      (∀ j oj, ops[j]? = some oj → j ≠ i → listed.getD j true = false → (∀ e ∈ oj.after, Region.binds md e = true → e.on ≠ i) → oi.apart ops oj = true) →
      i ∈ Region.ready md ops listed → listed.getD g true = false → listed.getD m true = false → YieldsIf P ops T oi v a → T w →
      wpAnyL P md ops Q g T fuel (listed.setIfInBounds i true) (a.put oi.dst v) w → wpAnyL P md ops Q g T (fuel + 1) listed a w := by
  have unl : ∀ (listed : Array Bool) (k : Nat), listed.getD k true = false → listed[k]? ≠ some true := fun listed k h h' => by
    rcases Nat.lt_or_ge k listed.size with h1 | h1
    · simp [h1] at h h'; rw [h] at h'; cases h'
    · simp [Array.getElem?_eq_none h1] at h'
  intro fuel
  induction fuel with
  | zero =>
    intro listed a w _ hr _ _ hy hT H
    refine ⟨fun h => (by rw [h] at hr; cases hr), fun j hj => ?_⟩
    by_cases hji : j = i
    · subst hji; exact hy.wpOp hi hT ⟨fun _ => hT, H⟩
    · have := ready_mono hj hji
      rw [H.1] at this
      cases this
  | succ fuel ih =>
    intro listed a w hfree hr hlg hlm hy hT H
    refine ⟨fun h => (by rw [h] at hr; cases hr), fun j hj => ?_⟩
    by_cases hji : j = i
    · subst hji; exact hy.wpOp hi hT ⟨fun _ => hT, H⟩
    · have h1 := H.2 j (ready_mono hj hji)
      obtain ⟨hjun, oj, hoj, hall⟩ := mem_ready.1 hj
      have hnot : ∀ e ∈ oj.after, Region.binds md e = true → e.on ≠ i := fun e he hb heq => by
        have h1 := hall e he hb
        have h0 := (mem_ready.1 hr).1
        rw [heq] at h1
        rcases Nat.lt_or_ge i listed.size with h' | h'
        · simp [h'] at h0 h1; rw [h0] at h1; cases h1
        · simp [Array.getElem?_eq_none h'] at h1
      have hjg : j ≠ g := by
        rintro rfl
        obtain ⟨e, he, hb, heq⟩ := hwg
        rw [hgo] at hoj
        cases hoj
        have h1 := hall e he hb
        rw [heq] at h1
        rcases Nat.lt_or_ge m listed.size with h' | h'
        · simp [h'] at hlm h1; rw [hlm] at h1; cases h1
        · simp [Array.getElem?_eq_none h'] at h1
      have hjm : j ≠ m := by
        rintro rfl
        obtain ⟨e, he, hb, heq⟩ := hwm
        rw [hmo] at hoj
        cases hoj
        exact hnot e he hb heq
      have h2 := wpOp_putIf hoj (hfree j oj hoj hji hjun hnot) (fun cs b => hsel i oi cs b hi) (fun cs b => hsel j oj cs b hoj) hQ hy h1
      have hfree' : ∀ k ok, ops[k]? = some ok → k ≠ i → (listed.setIfInBounds j true).getD k true = false →
          (∀ e ∈ ok.after, Region.binds md e = true → e.on ≠ i) → oi.apart ops ok = true := fun k ok hk hki hun hno => by
        refine hfree k ok hk hki ?_ hno
        by_cases hjk : j = k
        · subst hjk; exact hjun
        · rw [getD_set_ne true hjk] at hun; exact hun
      have hlg' : (listed.setIfInBounds j true).getD g true = false := by rw [getD_set_ne true hjg]; exact hlg
      have hlm' : (listed.setIfInBounds j true).getD m true = false := by rw [getD_set_ne true hjm]; exact hlm
      refine wpOp_mono (fun a' w' h3 => ?_) h2
      have hT' : T w' := h3.2.1 (by rw [getD_set_ne true hjg, getD_set_ne true (Ne.symm hgi)]; exact hlg)
      refine ⟨fun _ => hT', ih (listed.setIfInBounds j true) a' w' hfree' (ready_mono hr (Ne.symm hji)) hlg' hlm' h3.1 hT' ?_⟩
      rw [Array.setIfInBounds_comm _ _ hji]
      exact h3.2.2

/-- The move of a walk. -/
theorem L_take2 {i : Nat} {oi om og : Oper} {v : Value} {fuel : Nat} {listed : Array Bool} {a : Act} {w : World} (hi : ops[i]? = some oi) (hmo : ops[m]? = some om) (hgo : ops[g]? = some og)
    (hwm : (om.after.any fun e => Region.binds md e && e.on == i) = true) (hwg : (og.after.any fun e => Region.binds md e && e.on == m) = true) (hgi : g ≠ i)
    (hs : Region.noSelect ops = true) (hf : Region.free md ops listed i = true) (hr : (Region.ready md ops listed).contains i = true) (hlg : listed.getD g true = false) (hlm : listed.getD m true = false)
    (hQ : ∀ c a w, Q (.panic c) (a.put oi.dst v) w → Q (.panic c) a w) (hy : YieldsIf P ops T oi v a) (hT : T w)
    (h : wpAnyL P md ops Q g T fuel (listed.setIfInBounds i true) (a.put oi.dst v) w) : wpAnyL P md ops Q g T (fuel + 1) listed a w := by
  have any : ∀ (o : Oper) (k : Nat), (o.after.any fun e => Region.binds md e && e.on == k) = true → ∃ e ∈ o.after, Region.binds md e = true ∧ e.on = k := fun o k hw => by
    rw [Array.any_eq_true] at hw
    obtain ⟨q, hq, he⟩ := hw
    simp only [Bool.and_eq_true, beq_iff_eq] at he
    exact ⟨o.after[q], Array.getElem_mem hq, he.1, he.2⟩
  exact L_first2 hi hmo hgo (any om i hwm) (any og m hwg) hgi (Region.noSelect_spec hs) hQ fuel listed a w (Region.free_spec hi hf) (by simpa using hr) hlg hlm hy hT h

/-- The only one that may come up: what it leaves meets the condition. -/
theorem L_one {i fuel : Nat} {listed : Array Bool} {a : Act} {w : World} (hr : Region.ready md ops listed = [i])
    (h : wpOp P ops Q i (fun a' w' => T w' ∧ wpAnyL P md ops Q g T fuel (listed.setIfInBounds i true) a' w') a w) : wpAnyL P md ops Q g T (fuel + 1) listed a w := by
  refine ⟨(fun h0 => by rw [hr] at h0; simp at h0), fun j hj => ?_⟩
  rw [hr] at hj
  obtain rfl := List.mem_singleton.1 hj
  exact wpOp_mono (fun a' w' h' => ⟨fun _ => h'.1, h'.2⟩) h
/-- One of two may come up: whichever it is, what it leaves meets the condition. -/
theorem L_two {i j fuel : Nat} {listed : Array Bool} {a : Act} {w : World} (hr : Region.ready md ops listed = [i, j])
    (h1 : wpOp P ops Q i (fun a' w' => T w' ∧ wpAnyL P md ops Q g T fuel (listed.setIfInBounds i true) a' w') a w)
    (h2 : wpOp P ops Q j (fun a' w' => T w' ∧ wpAnyL P md ops Q g T fuel (listed.setIfInBounds j true) a' w') a w) : wpAnyL P md ops Q g T (fuel + 1) listed a w := by
  refine ⟨(fun h0 => by rw [hr] at h0; simp at h0), fun k hk => ?_⟩
  rw [hr] at hk
  rcases List.mem_cons.1 hk with rfl | hk
  · exact wpOp_mono (fun a' w' h' => ⟨fun _ => h'.1, h'.2⟩) h1
  · obtain rfl := List.mem_singleton.1 hk
    exact wpOp_mono (fun a' w' h' => ⟨fun _ => h'.1, h'.2⟩) h2
end
end Go.Proofs.Ytmelleimijenfaa

namespace Go.Proofs.Ytmelleimijenfaa
open Go
set_option linter.unusedVariables false

section
variable {P : Program} {ops : Array Oper} {Q : Exit → Act → World → Prop} {md : Region.Mode} {T : World → Prop} {g : Nat}

theorem L_firstC {i : Nat} {oi : Oper} {v : Value} {C : List Nat} (hi : ops[i]? = some oi) (hC : ∀ k ∈ C, ∃ ok, ops[k]? = some ok ∧ ∃ e ∈ ok.after, Region.binds md e = true ∧ (e.on = i ∨ e.on ∈ C)) (hgC : g ∈ C) (hgi : g ≠ i)
    (hsel : ∀ (j : Nat) (o : Oper) cs b, ops[j]? = some o → o.op ≠ .select cs b) (hQ : ∀ c a w, Q (.panic c) (a.put oi.dst v) w → Q (.panic c) a w) :
    ∀ (fuel : Nat) (listed : Array Bool) (a : Act) (w : World),
      (∀ j oj, ops[j]? = some oj → j ≠ i → listed.getD j true = false → (∀ e ∈ oj.after, Region.binds md e = true → e.on ≠ i) → oi.apart ops oj = true) →
      i ∈ Region.ready md ops listed → (∀ k ∈ C, listed.getD k true = false) → YieldsIf P ops T oi v a → T w →
      wpAnyL P md ops Q g T fuel (listed.setIfInBounds i true) (a.put oi.dst v) w → wpAnyL P md ops Q g T (fuel + 1) listed a w := by
  intro fuel
  induction fuel with
  | zero =>
    intro listed a w _ hr _ hy hT H
    refine ⟨fun h => (by rw [h] at hr; cases hr), fun j hj => ?_⟩
    by_cases hji : j = i
    · subst hji; exact hy.wpOp hi hT ⟨fun _ => hT, H⟩
    · have := ready_mono hj hji
      rw [H.1] at this
      cases this
  | succ fuel ih =>
    intro listed a w hfree hr hlC hy hT H
    refine ⟨fun h => (by rw [h] at hr; cases hr), fun j hj => ?_⟩
    by_cases hji : j = i
    · subst hji; exact hy.wpOp hi hT ⟨fun _ => hT, H⟩
    · have h1 := H.2 j (ready_mono hj hji)
      obtain ⟨hjun, oj, hoj, hall⟩ := mem_ready.1 hj
      have hnot : ∀ e ∈ oj.after, Region.binds md e = true → e.on ≠ i := fun e he hb heq => by
        have h1 := hall e he hb
        have h0 := (mem_ready.1 hr).1
        rw [heq] at h1
        rcases Nat.lt_or_ge i listed.size with h' | h'
        · simp [h'] at h0 h1; rw [h0] at h1; cases h1
        · simp [Array.getElem?_eq_none h'] at h1
      have hjC : ∀ k ∈ C, j ≠ k := fun k hk hjk => by
        obtain ⟨ok, hok, e, he, hb, ho⟩ := hC k hk
        rw [← hjk, hoj] at hok
        cases hok
        rcases ho with ho | ho
        · exact hnot e he hb ho
        · have h1 := hall e he hb
          have hl := hlC _ ho
          rcases Nat.lt_or_ge e.on listed.size with h' | h'
          · simp [h'] at hl h1; rw [hl] at h1; cases h1
          · simp [Array.getElem?_eq_none h'] at h1
      have h2 := wpOp_putIf hoj (hfree j oj hoj hji hjun hnot) (fun cs b => hsel i oi cs b hi) (fun cs b => hsel j oj cs b hoj) hQ hy h1
      have hfree' : ∀ k ok, ops[k]? = some ok → k ≠ i → (listed.setIfInBounds j true).getD k true = false →
          (∀ e ∈ ok.after, Region.binds md e = true → e.on ≠ i) → oi.apart ops ok = true := fun k ok hk hki hun hno => by
        refine hfree k ok hk hki ?_ hno
        by_cases hjk : j = k
        · subst hjk; exact hjun
        · rw [getD_set_ne true hjk] at hun; exact hun
      have hlC' : ∀ k ∈ C, (listed.setIfInBounds j true).getD k true = false := fun k hk => by rw [getD_set_ne true (hjC k hk)]; exact hlC k hk
      refine wpOp_mono (fun a' w' h3 => ?_) h2
      have hT' : T w' := h3.2.1 (by rw [getD_set_ne true (hjC g hgC), getD_set_ne true (Ne.symm hgi)]; exact hlC g hgC)
      refine ⟨fun _ => hT', ih (listed.setIfInBounds j true) a' w' hfree' (ready_mono hr (Ne.symm hji)) hlC' h3.1 hT' ?_⟩
      rw [Array.setIfInBounds_comm _ _ hji]
      exact h3.2.2

/-- One of a chain waits for the operation, or for another of the chain. -/
def waits (md : Region.Mode) (ops : Array Oper) (i : Nat) (C : List Nat) (k : Nat) : Bool := match ops[k]? with
  | some ok => ok.after.any fun e => Region.binds md e && (e.on == i || C.contains e.on)
  | none => false
/-- The move of a walk. -/
theorem L_takeC (C : List Nat) {i : Nat} {oi : Oper} {v : Value} {fuel : Nat} {listed : Array Bool} {a : Act} {w : World} (hi : ops[i]? = some oi)
    (hC : C.all (waits md ops i C) = true) (hgC : C.contains g = true) (hgi : g ≠ i)
    (hs : Region.noSelect ops = true) (hf : Region.free md ops listed i = true) (hr : (Region.ready md ops listed).contains i = true) (hl : C.all (fun k => !(listed.getD k true)) = true)
    (hQ : ∀ c a w, Q (.panic c) (a.put oi.dst v) w → Q (.panic c) a w) (hy : YieldsIf P ops T oi v a) (hT : T w)
    (h : wpAnyL P md ops Q g T fuel (listed.setIfInBounds i true) (a.put oi.dst v) w) : wpAnyL P md ops Q g T (fuel + 1) listed a w := by
  refine L_firstC hi (fun k hk => ?_) (by simpa using hgC) hgi (Region.noSelect_spec hs) hQ fuel listed a w (Region.free_spec hi hf) (by simpa using hr) (fun k hk => ?_) hy hT h
  · have := List.all_eq_true.1 hC k hk
    unfold waits at this
    split at this
    · rename_i ok hok
      rw [Array.any_eq_true] at this
      obtain ⟨q, hq, he⟩ := this
      simp only [Bool.and_eq_true, Bool.or_eq_true, beq_iff_eq, List.contains_iff_mem] at he
      exact ⟨ok, hok, ok.after[q], Array.getElem_mem hq, he.1, he.2⟩
    · cases this
  · have := List.all_eq_true.1 hl k hk
    simpa using this
end
end Go.Proofs.Ytmelleimijenfaa

namespace Go.Proofs.Ytmelleimijenfaa
open Go
set_option linter.unusedVariables false

section
variable {P : Program} {ops : Array Oper} {Q : Exit → Act → World → Prop} {md : Region.Mode} {T : World → Prop} {g : Nat}

theorem L_firstP {i : Nat} {oi : Oper} {v : Value} (hi : ops[i]? = some oi) (hgi : g ≠ i)
    (hsel : ∀ (j : Nat) (o : Oper) cs b, ops[j]? = some o → o.op ≠ .select cs b) (hQ : ∀ c a w, Q (.panic c) (a.put oi.dst v) w → Q (.panic c) a w) :
    ∀ (fuel : Nat) (listed : Array Bool) (a : Act) (w : World),
      (∀ j oj, ops[j]? = some oj → j ≠ i → listed.getD j true = false → (∀ e ∈ oj.after, Region.binds md e = true → e.on ≠ i) → oi.apart ops oj = true) →
      i ∈ Region.ready md ops listed → YieldsIf P ops (fun _ => True) oi v a → (listed.getD g true = false → T w) →
      wpAnyL P md ops Q g T fuel (listed.setIfInBounds i true) (a.put oi.dst v) w → wpAnyL P md ops Q g T (fuel + 1) listed a w := by
  have hset : ∀ listed : Array Bool, (listed.setIfInBounds i true).getD g true = listed.getD g true := fun listed => getD_set_ne true (Ne.symm hgi)
  intro fuel
  induction fuel with
  | zero =>
    intro listed a w _ hr hy hT H
    refine ⟨fun h => (by rw [h] at hr; cases hr), fun j hj => ?_⟩
    by_cases hji : j = i
    · subst hji; exact hy.wpOp hi trivial ⟨fun h => hT (by rw [← hset]; exact h), H⟩
    · have := ready_mono hj hji
      rw [H.1] at this
      cases this
  | succ fuel ih =>
    intro listed a w hfree hr hy hT H
    refine ⟨fun h => (by rw [h] at hr; cases hr), fun j hj => ?_⟩
    by_cases hji : j = i
    · subst hji; exact hy.wpOp hi trivial ⟨fun h => hT (by rw [← hset]; exact h), H⟩
    · have h1 := H.2 j (ready_mono hj hji)
      obtain ⟨hjun, oj, hoj, hall⟩ := mem_ready.1 hj
      have hnot : ∀ e ∈ oj.after, Region.binds md e = true → e.on ≠ i := fun e he hb heq => by
        have h1 := hall e he hb
        have h0 := (mem_ready.1 hr).1
        rw [heq] at h1
        rcases Nat.lt_or_ge i listed.size with h' | h'
        · simp [h'] at h0 h1; rw [h0] at h1; cases h1
        · simp [Array.getElem?_eq_none h'] at h1
      have h2 := wpOp_putIf hoj (hfree j oj hoj hji hjun hnot) (fun cs b => hsel i oi cs b hi) (fun cs b => hsel j oj cs b hoj) hQ hy h1
      have hfree' : ∀ k ok, ops[k]? = some ok → k ≠ i → (listed.setIfInBounds j true).getD k true = false →
          (∀ e ∈ ok.after, Region.binds md e = true → e.on ≠ i) → oi.apart ops ok = true := fun k ok hk hki hun hno => by
        refine hfree k ok hk hki ?_ hno
        by_cases hjk : j = k
        · subst hjk; exact hjun
        · rw [getD_set_ne true hjk] at hun; exact hun
      refine wpOp_mono (fun a' w' h3 => ?_) h2
      have hT' : (listed.setIfInBounds j true).getD g true = false → T w' := fun hg => h3.2.1 (by
        rw [Array.setIfInBounds_comm _ _ (Ne.symm hji), hset]
        exact hg)
      refine ⟨hT', ih (listed.setIfInBounds j true) a' w' hfree' (ready_mono hr (Ne.symm hji)) h3.1 hT' ?_⟩
      rw [Array.setIfInBounds_comm _ _ hji]
      exact h3.2.2

/-- The move of a walk. -/
theorem L_takeP {i : Nat} {oi : Oper} {v : Value} {fuel : Nat} {listed : Array Bool} {a : Act} {w : World} (hi : ops[i]? = some oi) (hgi : g ≠ i)
    (hs : Region.noSelect ops = true) (hf : Region.free md ops listed i = true) (hr : (Region.ready md ops listed).contains i = true)
    (hQ : ∀ c a w, Q (.panic c) (a.put oi.dst v) w → Q (.panic c) a w) (hy : YieldsIf P ops (fun _ => True) oi v a) (hT : T w)
    (h : wpAnyL P md ops Q g T fuel (listed.setIfInBounds i true) (a.put oi.dst v) w) : wpAnyL P md ops Q g T (fuel + 1) listed a w :=
  L_firstP hi hgi (Region.noSelect_spec hs) hQ fuel listed a w (Region.free_spec hi hf) (by simpa using hr) hy (fun _ => hT) h
end
end Go.Proofs.Ytmelleimijenfaa

namespace Go.Proofs.Ytmelleimijenfaa
open Go
set_option linter.unusedVariables false

section
variable {P : Program} {ops : Array Oper} {rest : List Oper} {o : Oper} {a : Act} {w w' : World} {K : Act → World → Prop} {Q : Exit → Act → World → Prop} {v : Value}

theorem wp_build_run (t : TypeId) (parts : Array (Nat × Operand)) (ho : o.op = .build t parts) (ps : Array (Nat × Value)) (hp : (parts.map fun (i, x) => (i, a.eval x)) = ps) (hr : (Instr.build t ps).run P w = .ok v w') (h : K (a.put o.dst v) w') : o.wp P a w K Q := by
  unfold Oper.wp execOp
  simp only [ho, Sem.run_bind, Sem.run_pure, Result.andThen_ok, hp, hr]
  exact h
theorem wp_buildSlice_run (t : TypeId) (m : Nat) (parts : Array (Nat × Operand)) (ho : o.op = .buildSlice t m parts) (ps : Array (Nat × Value)) (hp : (parts.map fun (i, x) => (i, a.eval x)) = ps) (hr : (Instr.buildSlice t m ps).run P w = .ok v w') (h : K (a.put o.dst v) w') : o.wp P a w K Q := by
  unfold Oper.wp execOp
  simp only [ho, Sem.run_bind, Sem.run_pure, Result.andThen_ok, hp, hr]
  exact h
theorem wp_alloc_run (t : TypeId) (ho : o.op = .alloc t) (hr : (Instr.alloc t true (.tuple #[])).run P w = .ok v w') (h : K (a.put o.dst v) w') : o.wp P a w K Q := by
  unfold Oper.wp execOp
  simp only [ho, Sem.run_bind, Sem.run_pure, Result.andThen_ok, hr]
  exact h
theorem wp_load_run (t : TypeId) (x : Operand) (ho : o.op = .load t x) (u : Value) (hx : a.eval x = u) (hr : (Instr.loadAt t u).run P w = .ok v w') (h : K (a.put o.dst v) w') : o.wp P a w K Q := by
  unfold Oper.wp execOp
  simp only [ho, Sem.run_bind, Sem.run_pure, Result.andThen_ok, hx, hr]
  exact h
theorem wp_store_run (t : TypeId) (x y : Operand) (ho : o.op = .store t x y) (u z : Value) (hx : a.eval x = u) (hy : a.eval y = z) (hr : (Instr.storeAt t u z).run P w = .ok () w') (h : K (a.put o.dst undef) w') : o.wp P a w K Q := by
  unfold Oper.wp execOp
  simp only [ho, Sem.run_bind, Sem.run_pure, Result.andThen_ok, hx, hy, hr]
  exact h
theorem wp_copy_run (d s : Operand) (t t' : TypeId) (ho : o.op = .call { callee := .builtin .copy, args := #[d, s], argTypes := #[t, t'] }) (u z : Value) (hd : a.eval d = u) (hs : a.eval s = z)
    (hr : (Builtin.copy_ #[t, t'] o.type #[u, z]).run P w = .ok v w') (h : K (a.put o.dst v) w') : o.wp P a w K Q := by
  unfold Oper.wp execOp
  simp only [ho, resolve, invoke, builtin, Sem.run_bind, Sem.run_pure, Result.andThen_ok, List.map_toArray, List.map_cons, List.map_nil, hd, hs, hr]
  exact h
theorem wp_append_run (d s : Operand) (t t' : TypeId) (ho : o.op = .call { callee := .builtin .append, args := #[d, s], argTypes := #[t, t'] }) (u z : Value) (hd : a.eval d = u) (hs : a.eval s = z)
    (hr : (Builtin.append_ #[t, t'] o.type #[u, z]).run P w = .ok v w') (h : K (a.put o.dst v) w') : o.wp P a w K Q := by
  unfold Oper.wp execOp
  simp only [ho, resolve, invoke, builtin, Sem.run_bind, Sem.run_pure, Result.andThen_ok, List.map_toArray, List.map_cons, List.map_nil, hd, hs, hr]
  exact h

theorem wpList_build_run (hgd : o.guard = none) (t : TypeId) (parts : Array (Nat × Operand)) (ho : o.op = .build t parts) (ps : Array (Nat × Value)) (hp : (parts.map fun (i, x) => (i, a.eval x)) = ps) (hr : (Instr.build t ps).run P w = .ok v w') (h : wpList P ops Q rest (a.put o.dst v) w') : wpList P ops Q (o :: rest) a w :=
  wpList_plain hgd fun _ hK => wp_build_run t parts ho ps hp hr (hK _ _ h)
theorem wpList_buildSlice_run (hgd : o.guard = none) (t : TypeId) (m : Nat) (parts : Array (Nat × Operand)) (ho : o.op = .buildSlice t m parts) (ps : Array (Nat × Value)) (hp : (parts.map fun (i, x) => (i, a.eval x)) = ps) (hr : (Instr.buildSlice t m ps).run P w = .ok v w') (h : wpList P ops Q rest (a.put o.dst v) w') : wpList P ops Q (o :: rest) a w :=
  wpList_plain hgd fun _ hK => wp_buildSlice_run t m parts ho ps hp hr (hK _ _ h)
theorem wpList_alloc_run (hgd : o.guard = none) (t : TypeId) (ho : o.op = .alloc t) (hr : (Instr.alloc t true (.tuple #[])).run P w = .ok v w') (h : wpList P ops Q rest (a.put o.dst v) w') : wpList P ops Q (o :: rest) a w :=
  wpList_plain hgd fun _ hK => wp_alloc_run t ho hr (hK _ _ h)
theorem wpList_load_run (hgd : o.guard = none) (t : TypeId) (x : Operand) (ho : o.op = .load t x) (u : Value) (hx : a.eval x = u) (hr : (Instr.loadAt t u).run P w = .ok v w') (h : wpList P ops Q rest (a.put o.dst v) w') : wpList P ops Q (o :: rest) a w :=
  wpList_plain hgd fun _ hK => wp_load_run t x ho u hx hr (hK _ _ h)
theorem wpList_store_run (hgd : o.guard = none) (t : TypeId) (x y : Operand) (ho : o.op = .store t x y) (u z : Value) (hx : a.eval x = u) (hy : a.eval y = z) (hr : (Instr.storeAt t u z).run P w = .ok () w') (h : wpList P ops Q rest (a.put o.dst undef) w') : wpList P ops Q (o :: rest) a w :=
  wpList_plain hgd fun _ hK => wp_store_run t x y ho u z hx hy hr (hK _ _ h)
theorem wpList_copy_run (hgd : o.guard = none) (d s : Operand) (t t' : TypeId) (ho : o.op = .call { callee := .builtin .copy, args := #[d, s], argTypes := #[t, t'] }) (u z : Value) (hd : a.eval d = u) (hs : a.eval s = z)
    (hr : (Builtin.copy_ #[t, t'] o.type #[u, z]).run P w = .ok v w') (h : wpList P ops Q rest (a.put o.dst v) w') : wpList P ops Q (o :: rest) a w :=
  wpList_plain hgd fun _ hK => wp_copy_run d s t t' ho u z hd hs hr (hK _ _ h)
theorem wpList_append_run (hgd : o.guard = none) (d s : Operand) (t t' : TypeId) (ho : o.op = .call { callee := .builtin .append, args := #[d, s], argTypes := #[t, t'] }) (u z : Value) (hd : a.eval d = u) (hs : a.eval s = z)
    (hr : (Builtin.append_ #[t, t'] o.type #[u, z]).run P w = .ok v w') (h : wpList P ops Q rest (a.put o.dst v) w') : wpList P ops Q (o :: rest) a w :=
  wpList_plain hgd fun _ hK => wp_append_run d s t t' ho u z hd hs hr (hK _ _ h)

theorem wp_region_drawn {id : Nat} (hm : P.follows .mixedOrders = true) (h : wpAny P .any ops Q ops.size (Array.replicate ops.size false) a w.drew) : (Code.region id ops true).wp P Q a w := wp_region_any hm h

theorem fold_sets : ∀ (vs : List Value) (k : Nat) (cs : Array Value), k + vs.length = cs.size → (vs.zipIdx k).foldl (fun (c : Array Value) (x : Value × Nat) => c.setIfInBounds (0 + x.2) x.1) cs = (cs.toList.take k ++ vs).toArray
  | [], k, cs, h => by
    simp only [List.zipIdx_nil, List.foldl_nil, List.append_nil]
    rw [List.take_of_length_le (by simp at h ⊢; omega)]
  | v :: vs, k, cs, h => by
    simp only [List.zipIdx_cons, List.foldl_cons]
    rw [fold_sets vs (k + 1) _ (by simp at h ⊢; omega)]
    congr 1
    have hk : k < cs.toList.length := by simp at h ⊢; omega
    simp only [Nat.zero_add, Array.toList_setIfInBounds]
    rw [List.take_add_one, List.getElem?_set_self hk, List.take_set_of_le (Nat.le_refl _)]
    simp

/-- A slice of one part, which is all of it. -/
theorem buildSlice_one (t e : TypeId) (i : TypeInfo) (z : Value) (ht : P.underlying t = some (.slice e)) (hi : P.info? e = some i) (hz : i.zero = some z) (cs : Array Value) (hs : cs.size = i.size) (h0 : 0 < i.size) (h1 : i.size ≤ 16777216) (w : World) :
    (Instr.buildSlice t 1 #[(0, .agg cs)]).run P w = .ok (.slice (some ⟨w.heap.size, 0, none⟩) 1 1) (w.alloc (.cells cs e)) := by
  refine run_buildSlice w t e 1 _ cs i z ht hi hz (by omega) (by omega) ?_
  have hsz : ∀ f : Nat → Value, ((Array.range (1 * i.size)).map f).size = i.size := fun f => by simp
  simp only [Instr.fill, Value.cells, Nat.zero_mul]
  rw [if_neg (by simp [hs])]
  rw [← Array.foldl_toList, Array.toList_zipIdx]
  have := fold_sets cs.toList 0 ((Array.range (1 * i.size)).map (z.cells[· % z.cells.size]!)) (by rw [hsz]; simp [hs])
  simp only [List.take_zero, List.nil_append, Array.toArray_toList] at this
  exact congrArg some this

/-- A load that is known in every world that meets a condition. -/
theorem yields_load_run {S : World → Prop} (hw : Region.wanted o (yielded ops a.tmps) = true) (t : TypeId) (x : Operand) (ho : o.op = .load t x) (u : Value) (hx : a.eval x = u) (hr : ∀ w, S w → (Instr.loadAt t u).run P w = .ok v w) : YieldsIf P ops S o v a :=
  .inl ⟨hw, fun w hS => by
    unfold execOp
    simp only [ho, Sem.run_bind, Sem.run_pure, Result.andThen_ok, hx, hr w hS]⟩
/-- A struct that is built: known in every world that meets a condition. -/
theorem yields_build_run {S : World → Prop} (hw : Region.wanted o (yielded ops a.tmps) = true) (t : TypeId) (parts : Array (Nat × Operand)) (ho : o.op = .build t parts) (ps : Array (Nat × Value)) (hp : (parts.map fun (i, x) => (i, a.eval x)) = ps) (hr : ∀ w, S w → (Instr.build t ps).run P w = .ok v w) : YieldsIf P ops S o v a :=
  .inl ⟨hw, fun w hS => by
    unfold execOp
    simp only [ho, Sem.run_bind, Sem.run_pure, Result.andThen_ok, hp, hr w hS]⟩
end
end Go.Proofs.Ytmelleimijenfaa

namespace Go.Proofs.Ytmelleimijenfaa
set_option linter.unusedVariables false
set_option linter.unusedSimpArgs false
set_option maxRecDepth 100000
open Go.RowKit Go.Lib Go.Maps Math

/-- The ref of an account's entry. -/
def refV (code : ByteArray) : ByteArray := (⟨#[118, 97, 108, 117, 101, 45]⟩ : ByteArray) ++ code
/-- What an account's base lacks; what is wrong with it. -/
def acAmt (f : Bl → Int) (base : ByteArray) (b : List Bl) (en : Int) (x : Ac) : Int := lkV (othL f en x.code base b) (ltot (en, x.code, base) b)
def acErr (f : Bl → Int) (base : ByteArray) (b : List Bl) (en : Int) (x : Ac) : Int := lkE (othL f en x.code base b) (ltot (en, x.code, base) b)
def acBad (f : Bl → Int) (base gain : ByteArray) (b : List Bl) (en : Int) (x : Ac) : Int := if x.mon = false then 0 else if acErr f base b en x ≠ 0 then acErr f base b en x else brBad (acAmt f base b en x) x.code gain
/-- The entry of an account, if there is one. -/
def acE (f : Bl → Int) (base gain : ByteArray) (b : List Bl) (en pe : Int) (x : Ac) : List Ep := if x.mon = true ∧ acAmt f base b en x ≠ 0 then [⟨refV x.code, en, pe, brL (acAmt f base b en x) base x.code gain⟩] else []
/-- The entries of the first accounts. -/
def rvTo (f : Bl → Int) (base gain : ByteArray) (b : List Bl) (en pe : Int) (c : List Ac) (k : Nat) : List Ep := (List.range k).flatMap fun i => acE f base gain b en pe (c.getD i ac0)
theorem rvTo_next (f : Bl → Int) (base gain : ByteArray) (b : List Bl) (en pe : Int) (c : List Ac) (k : Nat) : rvTo f base gain b en pe c (k + 1) = rvTo f base gain b en pe c k ++ acE f base gain b en pe (c.getD k ac0) := by
  unfold rvTo; rw [List.range_succ, List.flatMap_append]; simp
/-- What is wrong with all that is handed in. -/
def rvBad (S : Int × DataW Unit) (c : List Ac) (base gain : ByteArray) (b : List Bl) (en pe : Int) : Int :=
  if chBad c ≠ 0 then chBad c else if wBad S base b en pe ≠ 0 then wBad S base b en pe else if leafBad c gain ≠ 0 then leafBad c gain else if b.any (noAcc c en) = true then 6 else firstTo (fun i => acBad (wV S base en pe) base gain b en (c.getD i ac0)) c.length
/-- What Entries leaves. -/
def RvEnd (S : Int × DataW Unit) (c : List Ac) (base gain : ByteArray) (b : List Bl) (en pe : Int) (w : World) (e : Ending) (w' : World) : Prop :=
  Below w.heap.size w w' ∧ (rvBad S c base gain b en pe ≠ 0 → e = .returned (.tuple #[.slice none 0 0, errV (rvBad S c base gain b en pe)])) ∧
    (rvBad S c base gain b en pe = 0 → ∃ v L, e = .returned (.tuple #[v, .nilIface]) ∧ Made w' w.heap.size v L ∧ L.map Je.ep = rvTo (wV S base en pe) base gain b en pe c c.length ∧ L.length ≤ 60)
theorem Made.mono {W : World} {n n' : Nat} {v : Value} {L : List Je} (h : Made W n v L) (hn : n' ≤ n) : Made W n' v L :=
  ⟨by
    have r := h.row
    rcases r.2 with ⟨hv, h0⟩ | ⟨g1, c1, cur, hv, hb1, r2⟩
    · exact ⟨r.1, .inl ⟨hv, h0⟩⟩
    · exact ⟨r.1, .inr ⟨g1, c1, cur, hv, by omega, r2⟩⟩, fun x hx => (h.lns x hx).mono hn⟩
theorem code_six {c : List Ac} (h : chBad c = 0) {k : Nat} (hk : k < c.length) : (c.getD k ac0).code.size ≤ 6 := by
  have h1 := (nextBad_zero (chBad_next h k hk)).1
  unfold isCodeB madeOf at h1
  simp only [Bool.and_eq_true, decide_eq_true_eq] at h1
  exact h1.2.1
theorem rv_build_en (x0 : ByteArray) (x1 x2 : Int) (a : Option Addr) (n c : Nat) (w : World) : (Instr.build 39 #[(0, .string x0), (1, .int .i64 x1), (2, .int .i64 x2), (3, .slice a n c)]).run Try.prog w = .ok (.agg #[.string x0, .int .i64 x1, .int .i64 x2, .slice a n c]) w := by
  go_simp
set_option maxHeartbeats 8000000 in
theorem rvEntries_any (a a2 a3 : Option Addr) (cap cap2 len cap3 : Nat) (S : Int × DataW Unit) (c : List Ac) (base gain : ByteArray) (b : List Bl) (en pe : Int) (w : World) (h : IsSl w a c cap) (ht : ∀ W, Below w.heap.size w W → Calls Try.prog 60 #[.slice a3 len cap3] W (TabEnd W S)) (hg : TabGood S.2) (hb : IsBl w a2 b cap2) (hbl : b.length ≤ 9223372036854775807) :
    Calls Try.prog 4 #[.slice a c.length cap, .slice a3 len cap3, .string base, .string gain, .slice a2 b.length cap2, .int .i64 en, .int .i64 pe] w (RvEnd S c base gain b en pe w) := by
  have HErr : Hid (∀ z W, z ≠ 0 → rvBad S c base gain b en pe = z → Below w.heap.size w W → RvEnd S c base gain b en pe w (.returned (.tuple #[.slice none 0 0, .iface 58 (.int .i64 z)])) W) := fun z W h0 h1 h2 => by
    refine ⟨h2, fun _ => by rw [h1, errV_ne h0], fun e => absurd (h1.symm.trans e) h0⟩
  have HOk : Hid (∀ v L W, rvBad S c base gain b en pe = 0 → Below w.heap.size w W → Made W w.heap.size v L → L.map Je.ep = rvTo (wV S base en pe) base gain b en pe c c.length → L.length ≤ 60 → RvEnd S c base gain b en pe w (.returned (.tuple #[v, .nilIface])) W) := fun v L W h1 h2 h3 h4 h5 =>
    ⟨h2, fun h0 => absurd h1 h0, fun _ => ⟨v, L, rfl, h3, h4, h5⟩⟩
  have eg : ∀ args W, (callFunc 28 args).run Try.prog W = .ok (.enter 28 args) W := fun args W => enters Try.func28 (by kernel_rfl) ⟨_, rfl⟩ args W
  have HFit : Hid (∀ x, fit64 (wV S base en pe x)) := fun x => wV_fit hg base en pe x
  obtain ⟨V, hV⟩ : ∃ V, (w.alloc (.cells #[.slice a c.length cap] 22)).alloc (.cells #[.int .i64 en] 3) = V := ⟨_, rfl⟩
  have b1 : Below w.heap.size w (w.alloc (.cells #[.slice a c.length cap] 22)) := (Below.refl _ w).alloc (Nat.le_refl _) _
  have bV : Below w.heap.size w V := by rw [← hV]; exact b1.alloc b1.size _
  have hs : V.heap.size = w.heap.size + 2 := by rw [← hV]; simp
  have k1 : V.cell? ⟨w.heap.size, 0, none⟩ = some (.slice a c.length cap) := by
    rw [← hV]
    refine cell_grown (W := w.alloc (.cells #[.slice a c.length cap] 22)) (by simp) (World.grownBy_alloc _ _ none) (by simp)
  have k2 : V.cell? ⟨w.heap.size + 1, 0, none⟩ = some (.int .i64 en) := by rw [← hV]; simp
  have HBx : Hid (∀ W, Below V.heap.size V W → W.cell? ⟨w.heap.size, 0, none⟩ = some (.slice a c.length cap) ∧ W.cell? ⟨w.heap.size + 1, 0, none⟩ = some (.int .i64 en) ∧ Below w.heap.size w W ∧ w.heap.size + 2 ≤ W.heap.size) := fun W hW =>
    ⟨(hW.cell (p := ⟨w.heap.size, 0, none⟩) (by show w.heap.size < _; omega)).trans k1, (hW.cell (p := ⟨w.heap.size + 1, 0, none⟩) (by show w.heap.size + 1 < _; omega)).trans k2, bV.trans (hW.mono bV.size), by have := hW.size; omega⟩
  have HW : Hid (∀ W, Below w.heap.size w W → Calls Try.prog 12 #[.slice a3 len cap3, .string base, .slice a2 b.length cap2, .int .i64 en, .int .i64 pe] W (WorthEnd S base b en pe W)) := fun W hW =>
    worth_any a3 a2 len cap3 cap2 S base b en pe W (fun W' hW' => ht W' (hW.trans (hW'.mono hW.size))) hg (hb.below hW) hbl
  have HSl : Hid (IsSl w a c cap) := h
  have HBl : Hid (IsBl w a2 b cap2) := hb
  have HV : Hid (_ = V) := hV
  clear hV b1 bV ht hb
  by_cases c1 : chBad c ≠ 0
  · have HC : Hid (Calls Try.prog 11 #[.slice a c.length cap] V fun e w' => e = .returned (.tuple #[.nilFunc, .iface 58 (.int .i64 (chBad c))]) ∧ Below V.heap.size V w') := by
      have := leafCheck_bad a cap c V (HSl.out.below (HBx.out V (Below.refl _ _)).2.2.1) c1
      rw [chE_ne c1] at this
      exact this
    have HE : Hid (∀ W, Below V.heap.size V W → RvEnd S c base gain b en pe w (.returned (.tuple #[.slice none 0 0, .iface 58 (.int .i64 (chBad c))])) W) := fun W hW => HErr.out _ W c1 (by unfold rvBad; rw [if_pos c1]) (HBx.out W hW).2.2.1
    clear HErr HOk HW h c1 hs
    generalize chBad c = z at *
    go_enter Try.func4, Try.ntmps4
    go_upto_region 1 with fail
    rw [HV.out]
    clear HV
    go_wp2_with fail
    refine HC.out.mono ?_
    rintro e w1 ⟨rfl, hb1⟩
    have HE1 : Hid _ := HE.out w1 hb1
    clear HC HE hb1 k1 k2
    go_wp2
    go_ret2
    exact HE1.out
  have c1' := Decidable.of_not_not c1
  have hlen := chBad_len c1'
  have HC : Hid (Calls Try.prog 11 #[.slice a c.length cap] V fun e w' => ∃ B1 B2, e = .returned (.tuple #[.func (.func 28) #[] #[.pointer (some ⟨B1, 0, none⟩), .pointer (some ⟨B2, 0, none⟩)], .nilIface]) ∧ Lfs w' B1 B2 c ∧ Below V.heap.size V w') := leafCheck_ok a cap c V (HSl.out.below (HBx.out V (Below.refl _ _)).2.2.1) c1'
  have HR1 : Hid (rvBad S c base gain b en pe = if wBad S base b en pe ≠ 0 then wBad S base b en pe else if leafBad c gain ≠ 0 then leafBad c gain else if b.any (noAcc c en) = true then 6 else firstTo (fun i => acBad (wV S base en pe) base gain b en (c.getD i ac0)) c.length) := by
    unfold rvBad Hid; rw [if_neg c1]
  have HCo : Hid (chBad c = 0) := c1'
  clear c1 c1' h
  go_enter Try.func4, Try.ntmps4
  go_upto_region 1 with fail
  rw [HV.out]
  clear HV
  obtain ⟨q2, hq2⟩ : ∃ q2, w.heap.size + 1 = q2 := ⟨_, rfl⟩
  rw [hq2] at HBx k2 ⊢
  obtain ⟨q1, hq1⟩ : ∃ q1, w.heap.size = q1 := ⟨_, rfl⟩
  have Hq : Hid (w.heap.size = q1) := hq1
  have hq12 : q2 = q1 + 1 := by omega
  have Hq12 : Hid (q2 = q1 + 1) := hq12
  rw [hq1] at HBx k1 ⊢
  clear hq12 hs
  go_wp2_with fail
  refine HC.out.mono ?_
  rintro e w1 ⟨B1, B2, rfl, hL, hb1⟩
  have HL1 : Hid (Lfs w1 B1 B2 c) := hL
  have HB1 : Hid (Below V.heap.size V w1) := hb1
  obtain ⟨x1, x2, x3, x4⟩ := HBx.out w1 hb1
  have HWw : Hid (Calls Try.prog 12 #[.slice a3 len cap3, .string base, .slice a2 b.length cap2, .int .i64 en, .int .i64 pe] w1 (WorthEnd S base b en pe w1)) := HW.out w1 (by rw [Hq.out]; exact x3)
  clear hL hb1 HC HW k1 k2 x3 x4
  by_cases c2 : wBad S base b en pe ≠ 0
  · have HE : Hid (∀ W, Below w1.heap.size w1 W → RvEnd S c base gain b en pe w (.returned (.tuple #[.slice none 0 0, .iface 58 (.int .i64 (wBad S base b en pe))])) W) := fun W hW => HErr.out _ W c2 (by rw [HR1.out, if_pos c2]) (by rw [Hq.out]; exact (HBx.out W (HB1.out.trans (hW.mono HB1.out.size))).2.2.1)
    have HW2 : Hid (Calls Try.prog 12 #[.slice a3 len cap3, .string base, .slice a2 b.length cap2, .int .i64 en, .int .i64 pe] w1 fun e w' => e = .returned (.tuple #[.slice none 0 0, .iface 58 (.int .i64 (wBad S base b en pe))]) ∧ Below w1.heap.size w1 w') := by
      refine HWw.out.mono ?_
      rintro e w' ⟨z1, z2, _⟩
      have z3 := z2 c2
      rw [errV_ne c2] at z3
      exact ⟨z3, z1⟩
    clear HErr HOk HWw HR1 c2
    generalize wBad S base b en pe = z at *
    go_wp2_with fail
    refine HW2.out.mono ?_
    rintro e w2 ⟨rfl, hb2⟩
    have HE2 : Hid _ := HE.out w2 hb2
    clear HW2 HE hb2
    go_wp2
    go_ret2
    exact HE2.out
  have c2' := Decidable.of_not_not c2
  have HR2 : Hid (rvBad S c base gain b en pe = if leafBad c gain ≠ 0 then leafBad c gain else if b.any (noAcc c en) = true then 6 else firstTo (fun i => acBad (wV S base en pe) base gain b en (c.getD i ac0)) c.length) := by
    unfold Hid; rw [HR1.out, if_neg c2]
  have HFi : Hid (Fine b) := by
    have h1 : askBad S base b en pe = 0 := by
      unfold wBad at c2'
      split at c2'
      · contradiction
      · rename_i h; exact Decidable.of_not_not h
    exact (askBad_ok.1 h1).1
  have HW2 : Hid (Calls Try.prog 12 #[.slice a3 len cap3, .string base, .slice a2 b.length cap2, .int .i64 en, .int .i64 pe] w1 fun e w' => ∃ g, e = .returned (.tuple #[.slice (some ⟨g, 0, none⟩) b.length b.length, .nilIface]) ∧ NRow w' g (b.map (wV S base en pe)) ∧ Below w1.heap.size w1 w') := by
    refine HWw.out.mono ?_
    rintro e w' ⟨z1, _, z3⟩
    obtain ⟨g, e1, _, e3⟩ := z3 c2'
    exact ⟨g, e1, e3, z1⟩
  clear HWw c2 c2' HR1
  generalize wV S base en pe = f at *
  go_wp2_with fail
  refine HW2.out.mono ?_
  rintro e w2 ⟨g, rfl, hn2, hb2⟩
  have HN2 : Hid (NRow w2 g (b.map f)) := hn2
  have HB2 : Hid (Below V.heap.size V w2) := HB1.out.trans (hb2.mono HB1.out.size)
  have HLf : Hid (Calls Try.prog 28 #[.string gain, .pointer (some ⟨B1, 0, none⟩), .pointer (some ⟨B2, 0, none⟩)] w2 fun e w' => e = .returned (errV (leafBad c gain)) ∧ Below w2.heap.size w2 w') := leaf1_any c gain B1 B2 w2 (HL1.out.below hb2)
  clear HW2 hn2 hb2 HB1 HL1 x1 x2
  by_cases c3 : leafBad c gain ≠ 0
  · have HE : Hid (∀ W, Below w2.heap.size w2 W → RvEnd S c base gain b en pe w (.returned (.tuple #[.slice none 0 0, .iface 58 (.int .i64 (leafBad c gain))])) W) := fun W hW => HErr.out _ W c3 (by rw [HR2.out, if_pos c3]) (by rw [Hq.out]; exact (HBx.out W (HB2.out.trans (hW.mono HB2.out.size))).2.2.1)
    rw [errV_ne c3] at HLf
    clear HErr HOk HR2 c3
    generalize leafBad c gain = z at *
    go_wp2_with fail
    go_at_fn 28
    refine HLf.out.mono ?_
    rintro e w3 ⟨rfl, hb3⟩
    have HE3 : Hid _ := HE.out w3 hb3
    clear HLf HE hb3
    go_wp2
    go_ret2
    exact HE3.out
  have HR3 : Hid (rvBad S c base gain b en pe = if b.any (noAcc c en) = true then 6 else firstTo (fun i => acBad f base gain b en (c.getD i ac0)) c.length) := by
    unfold Hid; rw [HR2.out, if_neg c3]
  rw [Decidable.of_not_not c3, errV_zero] at HLf
  clear c3 HR2
  go_wp2_with fail
  go_at_fn 28
  refine HLf.out.mono ?_
  rintro e w3 ⟨rfl, hb3⟩
  have HB3 : Hid (Below V.heap.size V w3) := HB2.out.trans (hb3.mono HB2.out.size)
  have HN3 : Hid (NRow w3 g (b.map f)) := HN2.out.belowS hb3 HN2.out.ltS
  clear HLf hb3 HN2 HB2
  have HCt : Hid (Calls Try.prog 13 #[.slice a2 b.length cap2, .func (.func 14) #[] #[.pointer (some ⟨q2, 0, none⟩), .pointer (some ⟨q1, 0, none⟩)]] w3 fun e w' => e = .returned (.bool (b.any (noAcc c en))) ∧ Below w3.heap.size w3 w') := by
    refine fContains_any _ _ _ (noAcc c en) a2 cap2 b w3 ⟨fun args W => enters Try.func14 (by kernel_rfl) ⟨_, rfl⟩ args W, fun x W hW => ?_⟩ (by omega) (HBl.out.below (by rw [Hq.out]; exact (HBx.out w3 HB3.out).2.2.1))
    obtain ⟨y1, y2, y3, y4⟩ := HBx.out W (HB3.out.trans (hW.mono HB3.out.size))
    have hq := Hq12.out
    exact rvEnt1_any x c a cap en q2 q1 W (by omega) (by omega) y2 y1 (by omega) (HSl.out.below (by rw [Hq.out]; exact y3))
  by_cases c4 : b.any (noAcc c en) = true
  · have HE : Hid (∀ W, Below w3.heap.size w3 W → RvEnd S c base gain b en pe w (.returned (.tuple #[.slice none 0 0, .iface 58 (.int .i64 6)])) W) := fun W hW => HErr.out _ W (by decide) (by rw [HR3.out, if_pos c4]) (by rw [Hq.out]; exact (HBx.out W (HB3.out.trans (hW.mono HB3.out.size))).2.2.1)
    rw [c4] at HCt
    clear HErr HOk HR3 c4
    go_wp2_with fail
    refine HCt.out.mono ?_
    rintro e w4 ⟨rfl, hb4⟩
    have HE4 : Hid _ := HE.out w4 hb4
    clear HCt HE hb4
    go_wp2
    go_ret2
    exact HE4.out
  have HR4 : Hid (rvBad S c base gain b en pe = firstTo (fun i => acBad f base gain b en (c.getD i ac0)) c.length) := by
    unfold Hid; rw [HR3.out, if_neg c4]
  rw [Bool.eq_false_iff.2 c4] at HCt
  clear c4 HR3
  go_wp2_with fail
  refine HCt.out.mono ?_
  rintro e w4 ⟨rfl, hb4⟩
  have HB4 : Hid (Below V.heap.size V w4) := HB3.out.trans (hb4.mono HB3.out.size)
  have HN4 : Hid (NRow w4 g (b.map f)) := HN3.out.belowS hb4 HN3.out.ltS
  obtain ⟨x1, x2, x3, x4⟩ := HBx.out w4 HB4.out
  have HSl4 : Hid (IsSl w4 a c cap) := HSl.out.below (by rw [Hq.out]; exact x3)
  have HBl4 : Hid (IsBl w4 a2 b cap2) := HBl.out.below (by rw [Hq.out]; exact x3)
  have HBw : Hid (Below w.heap.size w w4 ∧ w.heap.size ≤ w4.heap.size) := by rw [Hq.out]; exact ⟨x3, by omega⟩
  have HX4 : Hid (∀ W, Below w4.heap.size w4 W → W.cell? ⟨q2, 0, none⟩ = some (.int .i64 en)) := fun W hW => (HBx.out W (HB4.out.trans (hW.mono HB4.out.size))).2.1
  clear HCt hb4 HN3 HB3 HBx HSl HBl x2 x3 x4 HB4
  obtain ⟨i0, hi, hz0, hz1, hz2⟩ := info_parts je_info
  have i2 : (c.length : Int) ≤ 60 := by omega
  go_wp2
  clear x1
  go_loopw [20, 57] (fun v i wr => ∃ (k : Nat) (L : List Je), k ≤ c.length ∧ i = .int .i64 k ∧ Hid (Made wr w4.heap.size v L ∧ L.map Je.ep = rvTo f base gain b en pe c k ∧ L.length ≤ k) ∧ Hid (firstTo (fun i => acBad f base gain b en (c.getD i ac0)) k = 0) ∧ Hid (Below w4.heap.size w4 wr)) (fun _ i _ => c.length - (RowKit.intOf i).toNat)
  case atStart => exact ⟨0, [], Nat.zero_le _, rfl, ⟨Made.nil _ _, rfl, Nat.le_refl _⟩, rfl, Below.refl _ _⟩
  case round =>
    obtain ⟨k, L, hk, rfl, HM, H0, HB⟩ := hrel
    obtain ⟨av, cv, ev, _⟩ := HM.out.1.isJs
    subst ev
    by_cases hkn : k < c.length
    · rcases HSl4.out.lies with h0 | ⟨bb, off, e, hblt, hcc⟩
      · rw [h0] at hkn; simp at hkn
      subst e
      have hx := (hcc k hkn).below HB.out hblt
      have HSz : Hid ((c.getD k ac0).code.size ≤ 6) := code_six HCo.out hkn
      obtain ⟨Z, hZ⟩ : ∃ Z, wr.alloc (.cells (c.getD k ac0).cells 42) = Z := ⟨_, rfl⟩
      have bZ : Below wr.heap.size wr Z := by rw [← hZ]; exact (Below.refl _ wr).alloc (Nat.le_refl _) _
      have hsz : wr.heap.size < Z.heap.size := by rw [← hZ]; simp
      have hbt : AcAt Z wr.heap.size 0 (c.getD k ac0) := by rw [← hZ]; exact AcAt.new wr (c.getD k ac0) 42
      have BZ : Below w4.heap.size w4 Z := HB.out.trans (bZ.mono HB.out.size)
      have HKeep : Hid (∀ W, Below Z.heap.size Z W → Below w4.heap.size w4 W ∧ Below wr.heap.size wr W ∧ AcAt W wr.heap.size 0 (c.getD k ac0) ∧ W.cell? ⟨q2, 0, none⟩ = some (.int .i64 en)) := fun W hW => by
        have h1 := BZ.trans (hW.mono BZ.size)
        exact ⟨h1, bZ.trans (hW.mono bZ.size), hbt.below hW hsz, HX4.out W h1⟩
      have HLk : Hid (Calls Try.prog 16 #[.slice a2 b.length cap2, .slice (some ⟨g, 0, none⟩) b.length b.length, .string base, .int .i64 en, .string (c.getD k ac0).code] Z fun e w' => e = .returned (.tuple #[.int .i64 (acAmt f base b en (c.getD k ac0)), errV (acErr f base b en (c.getD k ac0))]) ∧ Below Z.heap.size Z w') := lacking_any a2 cap2 g b.length f base (c.getD k ac0).code b en Z (HBl4.out.below BZ) HFi.out HFit.out (HN4.out.belowS BZ HN4.out.ltS)
      have HNx : Hid (rvTo f base gain b en pe c (k + 1) = rvTo f base gain b en pe c k ++ acE f base gain b en pe (c.getD k ac0)) := rvTo_next f base gain b en pe c k
      have HAE : Hid (acE f base gain b en pe (c.getD k ac0) = if (c.getD k ac0).mon = true ∧ acAmt f base b en (c.getD k ac0) ≠ 0 then [⟨refV (c.getD k ac0).code, en, pe, brL (acAmt f base b en (c.getD k ac0)) base (c.getD k ac0).code gain⟩] else []) := rfl
      have HAB : Hid (acBad f base gain b en (c.getD k ac0) = if (c.getD k ac0).mon = false then 0 else if acErr f base b en (c.getD k ac0) ≠ 0 then acErr f base b en (c.getD k ac0) else brBad (acAmt f base b en (c.getD k ac0)) (c.getD k ac0).code gain) := rfl
      have HBd : Hid (acBad f base gain b en (c.getD k ac0) = 0 → firstTo (fun i => acBad f base gain b en (c.getD i ac0)) (k + 1) = 0) := fun h => by rw [firstTo_next H0.out, h]
      have HBr : Hid (acBad f base gain b en (c.getD k ac0) ≠ 0 → ∀ W, Below w4.heap.size w4 W → RvEnd S c base gain b en pe w (.returned (.tuple #[.slice none 0 0, .iface 58 (.int .i64 (acBad f base gain b en (c.getD k ac0)))])) W) := fun h W hW =>
        HErr.out _ W h (by rw [HR4.out, firstTo_first H0.out h hkn]) (HBw.out.1.trans (hW.mono HBw.out.2))
      have HZ : Hid (wr.alloc (.cells (c.getD k ac0).cells 42) = Z) := hZ
      have hcell := HX4.out Z BZ
      clear hZ bZ hsz BZ hcc
      generalize acAmt f base b en (c.getD k ac0) = am at *
      generalize acErr f base b en (c.getD k ac0) = ae at *
      generalize acBad f base gain b en (c.getD k ac0) = abd at *
      generalize acE f base gain b en pe (c.getD k ac0) = aE at *
      generalize c.getD k ac0 = x at *
      obtain ⟨code, name, kind, par, mon⟩ := x
      obtain ⟨d0, d1, d2, d3, d4⟩ := hx
      obtain ⟨f0, f1, f2, f3, f4⟩ := hbt
      simp only [Ac.cells, Nat.zero_add] at d0 d1 d2 d3 d4 f0 f1 f2 f3 f4 HZ HKeep HLk HAE HAB HSz
      have j0 : (0 : Int) ≤ k := by omega
      have j1 : (k : Int) < c.length := by omega
      go_upto_region 16 with fail
      rw [HZ.out]
      clear HZ d0 d1 d2 d3 d4
      cases mon
      · have HM2 : Hid (Made Z w4.heap.size (.slice av L.length cv) L ∧ L.map Je.ep = rvTo f base gain b en pe c (k + 1) ∧ L.length ≤ k + 1) := by
          obtain ⟨m1, m2, m3⟩ := HM.out
          refine ⟨m1.below (HKeep.out Z (Below.refl _ _)).2.1, ?_, by omega⟩
          rw [HNx.out, HAE.out, if_neg (by simp), List.append_nil, m2]
        have HN : Hid (firstTo (fun i => acBad f base gain b en (c.getD i ac0)) (k + 1) = 0) := HBd.out (by rw [HAB.out, if_pos rfl])
        have HB5 : Hid (Below w4.heap.size w4 Z) := (HKeep.out Z (Below.refl _ _)).1
        clear HBd HBr HAB HAE HNx HM HOk HErr HLk HKeep
        go_wp2
        go_roundw
        case rel => exact ⟨k + 1, L, by omega, by go_num, HM2, HN, HB5⟩
        case measure => simp [RowKit.intOf]; omega
      by_cases g1 : ae ≠ 0
      · have e1 : abd = ae := by rw [HAB.out, if_neg (by simp), if_pos g1]
        subst e1
        rw [errV_ne g1] at HLk
        have HE : Hid (∀ W, Below Z.heap.size Z W → RvEnd S c base gain b en pe w (.returned (.tuple #[.slice none 0 0, .iface 58 (.int .i64 abd)])) W) := fun W hW => HBr.out g1 W (HKeep.out W hW).1
        clear HBd HBr HAB HAE HNx HM HOk HErr HKeep g1
        go_wp2_with fail
        refine HLk.out.mono ?_
        rintro e w5 ⟨rfl, hb5⟩
        have HE5 : Hid _ := HE.out w5 hb5
        clear HLk HE hb5 f0 f1 f2 f3 f4 hcell
        go_wp2
        go_ret2
        exact HE5.out
      have g1' := Decidable.of_not_not g1
      rw [g1', errV_zero] at HLk
      have HAB2 : Hid (abd = brBad am code gain) := by unfold Hid; rw [HAB.out, if_neg (by simp), if_neg g1]
      have HBo : Hid (∀ W, Calls Try.prog 17 #[.int .i64 am, .string code, .string gain] W fun e w' => e = .returned (errV abd) ∧ w' = W) := fun W => by rw [HAB2.out]; exact brBad_any am code gain W
      clear g1 g1' HAB
      go_wp2_with fail
      refine HLk.out.mono ?_
      rintro e w5 ⟨rfl, hb5⟩
      obtain ⟨y1, y2, y3, y4⟩ := HKeep.out w5 hb5
      have HY1 : Hid (Below w4.heap.size w4 w5) := y1
      have HY2 : Hid (Below wr.heap.size wr w5) := y2
      have HY3 : Hid (∀ W, Below w5.heap.size w5 W → W.cell? ⟨wr.heap.size, 0, none⟩ = some (.string code) ∧ W.cell? ⟨q2, 0, none⟩ = some (.int .i64 en)) := fun W hW => by
        obtain ⟨_, _, t3, t4⟩ := HKeep.out W (hb5.trans (hW.mono hb5.size))
        have t5 := t3.c0
        simp only at t5
        exact ⟨t5, t4⟩
      clear f0 f1 f2 f3 f4 hcell
      obtain ⟨f0, f1, f2, f3, f4⟩ := y3
      simp only [Nat.zero_add] at f0 f1 f2 f3 f4
      clear HLk HKeep hb5 y1 y2
      by_cases g2 : abd ≠ 0
      · rw [errV_ne g2] at HBo
        have HE : Hid (RvEnd S c base gain b en pe w (.returned (.tuple #[.slice none 0 0, .iface 58 (.int .i64 abd)])) w5) := HBr.out g2 w5 HY1.out
        clear HBd HBr HAB2 HAE HNx HM HOk HErr g2
        go_wp2_with fail
        refine (HBo.out _).mono ?_
        rintro e w' ⟨rfl, hw⟩
        rw [hw]; clear hw w' HBo
        go_wp2
        go_ret2
        exact HE.out
      have g2' := Decidable.of_not_not g2
      have HN : Hid (firstTo (fun i => acBad f base gain b en (c.getD i ac0)) (k + 1) = 0) := HBd.out g2'
      rw [g2', errV_zero] at HBo
      have hamt : isAmtB am = true := by
        have := HAB2.out
        rw [g2'] at this
        unfold brBad at this
        split at this
        · omega
        · rename_i h; simpa using h
      have hamt2 := isAmtB_iff.1 hamt
      unfold mostA at hamt2
      clear HBd HBr HAB2 HErr g2 g2'
      go_wp2_with fail
      refine (HBo.out _).mono ?_
      rintro e w' ⟨rfl, hw⟩
      rw [hw]; clear hw w' HBo
      by_cases g3 : am = 0
      · subst g3
        have HM2 : Hid (Made w5 w4.heap.size (.slice av L.length cv) L ∧ L.map Je.ep = rvTo f base gain b en pe c (k + 1) ∧ L.length ≤ k + 1) := by
          obtain ⟨m1, m2, m3⟩ := HM.out
          refine ⟨m1.below HY2.out, ?_, by omega⟩
          rw [HNx.out, HAE.out, if_neg (by simp), List.append_nil, m2]
        clear HAE HNx HM HOk
        go_wp2
        go_roundw
        case rel => exact ⟨k + 1, L, by omega, by go_num, HM2, HN, HY1⟩
        case measure => simp [RowKit.intOf]; omega
      have g3' : (am != 0) = true := by simpa using g3
      have HP2 : Hid (rvTo f base gain b en pe c (k + 1) = rvTo f base gain b en pe c k ++ [⟨refV code, en, pe, brL am base code gain⟩]) := by
        rw [HNx.out, HAE.out, if_pos (by first | exact ⟨rfl, g3⟩ | exact ⟨trivial, g3⟩)]; exact rfl
      have hd : Below w5.heap.size w5 w5.drew := ⟨rfl, rfl, rfl, Nat.le_refl _, fun _ _ => rfl⟩
      have HCell : Hid (∀ u, Below w5.drew.heap.size w5.drew u → u.cell? ⟨wr.heap.size, 0, none⟩ = some (.string code) ∧ u.cell? ⟨q2, 0, none⟩ = some (.int .i64 en)) := fun u hu => HY3.out u (hd.trans hu)
      have HU1 : Hid (Below w4.heap.size w4 w5.drew) := HY1.out.drew
      have HU2 : Hid (Below wr.heap.size wr w5.drew) := HY2.out.drew
      have HBg : Hid (∀ W, Calls Try.prog 18 #[.int .i64 am, .string base, .string code, .string gain] W fun e w' => ∃ adr cap, e = .returned (.slice adr 2 cap) ∧ LnRow w' W.heap.size (.slice adr 2 cap) (brL am base code gain) ∧ Below W.heap.size W w') := fun W => brought_any am base code gain W (by omega) (by omega)
      have HRf : Hid (refV code = (⟨#[118, 97, 108, 117, 101, 45]⟩ : ByteArray) ++ code) := rfl
      have HLen : Hid ((brL am base code gain).length = 2) := rfl
      generalize refV code = RF at *
      generalize brL am base code gain = gl at *
      have hsz6 := HSz.out
      have s1 : ¬ 9223372036854775807 < 6 + code.size := by omega
      clear HAE HNx HOk HY1 HY2 HY3 hd g3 hamt hamt2 HSz hsz6
      go_upto_region 23 with fail
      refine wp_region_drawn (by kernel_rfl) ?_
      generalize w5.drew = U at *
      refine wpAny_take (i := 0) (v := .slice av L.length cv) rfl (by kernel_rfl) (by kernel_rfl) (by kernel_rfl) (fun _ _ _ h => h) (Or.inl ⟨by rfl, fun w => by go_simp⟩) ?_
      simp only [Act.put, List.getElem_toArray, List.getElem_cons_succ, List.getElem_cons_zero, List.setIfInBounds_toArray, List.set_cons_zero, List.set_cons_succ]
      refine wpAny_take (i := 1) (v := .pointer (some ⟨wr.heap.size, 0, none⟩)) rfl (by kernel_rfl) (by kernel_rfl) (by kernel_rfl) (fun _ _ _ h => h) (Or.inl ⟨by rfl, fun w => by go_simp⟩) ?_
      simp only [Act.put, List.getElem_toArray, List.getElem_cons_succ, List.getElem_cons_zero, List.setIfInBounds_toArray, List.set_cons_zero, List.set_cons_succ]
      refine wpAny_take (i := 5) (v := .int .i64 pe) rfl (by kernel_rfl) (by kernel_rfl) (by kernel_rfl) (fun _ _ _ h => h) (Or.inl ⟨by rfl, fun w => by go_simp⟩) ?_
      simp only [Act.put, List.getElem_toArray, List.getElem_cons_succ, List.getElem_cons_zero, List.setIfInBounds_toArray, List.set_cons_zero, List.set_cons_succ]
      refine wpAny_take (i := 6) (v := .int .i64 am) rfl (by kernel_rfl) (by kernel_rfl) (by kernel_rfl) (fun _ _ _ h => h) (Or.inl ⟨by rfl, fun w => by go_simp⟩) ?_
      simp only [Act.put, List.getElem_toArray, List.getElem_cons_succ, List.getElem_cons_zero, List.setIfInBounds_toArray, List.set_cons_zero, List.set_cons_succ]
      refine wpAny_take (i := 7) (v := .string base) rfl (by kernel_rfl) (by kernel_rfl) (by kernel_rfl) (fun _ _ _ h => h) (Or.inl ⟨by rfl, fun w => by go_simp⟩) ?_
      simp only [Act.put, List.getElem_toArray, List.getElem_cons_succ, List.getElem_cons_zero, List.setIfInBounds_toArray, List.set_cons_zero, List.set_cons_succ]
      refine wpAny_take (i := 8) (v := .pointer (some ⟨wr.heap.size, 0, none⟩)) rfl (by kernel_rfl) (by kernel_rfl) (by kernel_rfl) (fun _ _ _ h => h) (Or.inl ⟨by rfl, fun w => by go_simp⟩) ?_
      simp only [Act.put, List.getElem_toArray, List.getElem_cons_succ, List.getElem_cons_zero, List.setIfInBounds_toArray, List.set_cons_zero, List.set_cons_succ]
      refine wpAny_take (i := 10) (v := .string gain) rfl (by kernel_rfl) (by kernel_rfl) (by kernel_rfl) (fun _ _ _ h => h) (Or.inl ⟨by rfl, fun w => by go_simp⟩) ?_
      simp only [Act.put, List.getElem_toArray, List.getElem_cons_succ, List.getElem_cons_zero, List.setIfInBounds_toArray, List.set_cons_zero, List.set_cons_succ]
      refine any_of_L (g := 14) (T := fun u => Below U.heap.size U u) _ _ _ _ ?_
      refine L_takeC [14, 13, 12, 3] (i := 2) (v := .string code) rfl (by kernel_rfl) (by kernel_rfl) (by decide) (by kernel_rfl) (by kernel_rfl) (by kernel_rfl) (by kernel_rfl) (fun _ _ _ h => h) (Or.inl ⟨by rfl, fun w' hw' => by have c0 := (HCell.out w' hw').1; clear hw'; go_simp⟩) (Below.refl _ _) ?_
      simp only [Act.put, List.getElem_toArray, List.getElem_cons_succ, List.getElem_cons_zero, List.setIfInBounds_toArray, List.set_cons_zero, List.set_cons_succ]
      refine L_takeC [14, 13, 12] (i := 3) (v := .string RF) rfl (by kernel_rfl) (by kernel_rfl) (by decide) (by kernel_rfl) (by kernel_rfl) (by kernel_rfl) (by kernel_rfl) (fun _ _ _ h => h) (Or.inl ⟨by rfl, fun w' hw' => by clear hw'; rw [HRf.out]; go_simp⟩) (Below.refl _ _) ?_
      simp only [Act.put, List.getElem_toArray, List.getElem_cons_succ, List.getElem_cons_zero, List.setIfInBounds_toArray, List.set_cons_zero, List.set_cons_succ]
      refine L_takeC [14, 13, 12] (i := 4) (v := .int .i64 en) rfl (by kernel_rfl) (by kernel_rfl) (by decide) (by kernel_rfl) (by kernel_rfl) (by kernel_rfl) (by kernel_rfl) (fun _ _ _ h => h) (Or.inl ⟨by rfl, fun w' hw' => by have c0 := (HCell.out w' hw').2; clear hw'; go_simp⟩) (Below.refl _ _) ?_
      simp only [Act.put, List.getElem_toArray, List.getElem_cons_succ, List.getElem_cons_zero, List.setIfInBounds_toArray, List.set_cons_zero, List.set_cons_succ]
      refine L_takeC [14, 13, 12, 11] (i := 9) (v := .string code) rfl (by kernel_rfl) (by kernel_rfl) (by decide) (by kernel_rfl) (by kernel_rfl) (by kernel_rfl) (by kernel_rfl) (fun _ _ _ h => h) (Or.inl ⟨by rfl, fun w' hw' => by have c0 := (HCell.out w' hw').1; clear hw'; go_simp⟩) (Below.refl _ _) ?_
      simp only [Act.put, List.getElem_toArray, List.getElem_cons_succ, List.getElem_cons_zero, List.setIfInBounds_toArray, List.set_cons_zero, List.set_cons_succ]
      refine L_one (i := 11) (by kernel_rfl) ?_
      refine wpOp_step rfl ?_
      intro K hK
      rw [if_pos (by rfl)]
      have hK' : Shut (∀ a w, _ → K a w) := hK
      clear hK
      go_wp2_with fail
      refine (HBg.out U).mono ?_
      rintro e W1 ⟨a4, c4, rfl, hr4, hb4⟩
      refine hK'.out _ _ ?_
      clear hK' K
      refine ⟨hb4, ?_⟩
      try simp only [Act.put, List.getElem_toArray, List.getElem_cons_succ, List.getElem_cons_zero, List.setIfInBounds_toArray, List.set_cons_zero, List.set_cons_succ]
      refine L_takeC [14, 13] (i := 12) (v := .agg #[.string RF, .int .i64 en, .int .i64 pe, .slice a4 2 c4]) rfl (by kernel_rfl) (by kernel_rfl) (by decide) (by kernel_rfl) (by kernel_rfl) (by kernel_rfl) (by kernel_rfl) (fun _ _ _ h => h) ?_ hb4 ?_
      · exact yields_build_run (by rfl) 39 _ (by rfl) #[(0, .string RF), (1, .int .i64 en), (2, .int .i64 pe), (3, .slice a4 2 c4)] (by simp [Act.eval]) (fun w' _ => rv_build_en _ _ _ _ _ _ w')
      simp only [Act.put, List.getElem_toArray, List.getElem_cons_succ, List.getElem_cons_zero, List.setIfInBounds_toArray, List.set_cons_zero, List.set_cons_succ]
      have HR4' : Hid (LnRow W1 U.heap.size (.slice a4 gl.length c4) gl) := by rw [HLen.out]; exact hr4
      have HB4 : Hid (Below U.heap.size U W1) := hb4
      have HAdd : Hid (∀ v' w6, World.ownsRow w6 w4.heap.size 39 4 v' (L.length + 1) (jeRow L ++ (Je.mk RF en pe a4 c4 gl).cells.toList) → (W1.alloc (.cells #[.string RF, .int .i64 en, .int .i64 pe, .slice a4 2 c4] 39)).grownBy w6 (Value.slice av L.length cv).ownBlock → (Made w6 w4.heap.size v' (L ++ [Je.mk RF en pe a4 c4 gl]) ∧ (L ++ [Je.mk RF en pe a4 c4 gl]).map Je.ep = rvTo f base gain b en pe c (k + 1) ∧ (L ++ [Je.mk RF en pe a4 c4 gl]).length ≤ k + 1) ∧ Below w4.heap.size w4 w6) := fun v' w6 h1 h2 => by
        obtain ⟨m1, m2, m3⟩ := HM.out
        have z1 := HU1.out.trans (HB4.out.mono HU1.out.size)
        have z2 := z1.alloc z1.size (.cells #[.string RF, .int .i64 en, .int .i64 pe, .slice a4 2 c4] 39)
        have z3 : Below W1.heap.size W1 (W1.alloc (.cells #[.string RF, .int .i64 en, .int .i64 pe, .slice a4 2 c4] 39)) := (Below.refl _ W1).alloc (Nat.le_refl _) _
        have m4 := ((m1.below HU2.out).below HB4.out).below z3
        refine ⟨⟨m4.add (x := Je.mk RF en pe a4 c4 gl) ((HR4'.out.below z3).mono HU1.out.size) h1 h2, ?_, ?_⟩, z2.grown h2 z2.size fun j e => m1.row.own j e⟩
        · rw [List.map_append, m2, HP2.out]; rfl
        · rw [List.length_append]; simp; exact m3
      have HRow : Hid (World.ownsRow (W1.alloc (.cells #[.string RF, .int .i64 en, .int .i64 pe, .slice a4 2 c4] 39)) w4.heap.size 39 4 (.slice av L.length cv) L.length (jeRow L)) := by
        have m4 := (HM.out.1.below HU2.out).below HB4.out
        exact World.ownsRow.alloc m4.row _
      have s2 : Hid (L.length + 1 ≤ maxLen ∧ (L.length + 1) * 56 ≤ 140737488355328) := by
        have := HM.out.2.2
        unfold Hid maxLen; omega
      have s4 : Hid (w4.heap.size ≤ (W1.alloc (.cells #[.string RF, .int .i64 en, .int .i64 pe, .slice a4 2 c4] 39)).heap.size) := by
        have z1 := HU1.out.size
        have z2 := HB4.out.size
        unfold Hid; simp; omega
      have HCl : Hid ((Je.mk RF en pe a4 c4 gl).cells.toList = [.string RF, .int .i64 en, .int .i64 pe, .slice a4 2 c4]) := by unfold Je.cells Hid; simp only [HLen.out]
      have HOne : Hid (∀ u ∈ ([.string RF, .int .i64 en, .int .i64 pe, .slice a4 2 c4] : List Value), u.oneCell' = true) := by rw [← HCl.out]; exact je_one _
      rw [HCl.out] at HAdd
      have hbA : Below U.heap.size U (W1.alloc (.cells #[.string RF, .int .i64 en, .int .i64 pe, .slice a4 2 c4] 39)) := hb4.alloc hb4.size _
      clear hr4 hb4 HM HCl HBg HCell HU1 HU2 HR4' HB4
      refine L_one (i := 13) (by kernel_rfl) ?_
      refine wpOp_step rfl ?_
      intro K hK
      rw [if_pos (by rfl)]
      have hK' : Shut (∀ a w, _ → K a w) := hK
      clear hK
      go_wp2_with fail
      refine hK'.out _ _ ?_
      clear hK' K
      refine ⟨hbA, ?_⟩
      try simp only [Act.put, List.getElem_toArray, List.getElem_cons_succ, List.getElem_cons_zero, List.setIfInBounds_toArray, List.set_cons_zero, List.set_cons_succ]
      refine L_go (by kernel_rfl) (by kernel_rfl) ?_
      refine wpOp_step rfl (fun K hK => ?_)
      refine step_append_lies _ rfl (.tmp 86) (.tmp 99) 27 rfl w4.heap.size 39 i0 (.agg #[.string ByteArray.empty, .int .i64 0, .int .i64 0, .slice none 0 0]) 4 56 Try.underlying27 hi hz0 hz1 hz2 rfl (Nat.zero_lt_succ _) (.slice av L.length cv) L.length (jeRow L) rfl HRow.out ⟨W1.heap.size, 0, none⟩ 1 1 [.string RF, .int .i64 en, .int .i64 pe, .slice a4 2 c4] rfl rfl (World.news_of_block (World.alloc_heap_new W1 _)) HOne.out (Nat.zero_lt_one) s2.out.1 s2.out.2 s4.out (W1.heap.size + 1) (by simp) ?_
      intro g' cap' w6 hown' hgrow hat hlt2
      obtain ⟨hm6, hb6⟩ := HAdd.out _ w6 hown' hgrow
      have HM6 : Hid _ := hm6
      have HB6 : Hid (Below w4.heap.size w4 w6) := hb6
      refine hK _ _ ?_
      clear hK K hown' hgrow hm6 hb6 HAdd HRow hat hlt2 hbA
      refine wpAny_take (i := 15) (v := .slice (some ⟨g', 0, none⟩) (L.length + 1) cap') rfl (by kernel_rfl) (by kernel_rfl) (by kernel_rfl) (fun _ _ _ h => h) (Or.inl ⟨by rfl, fun w => by go_simp⟩) ?_
      simp only [Act.put, List.getElem_toArray, List.getElem_cons_succ, List.getElem_cons_zero, List.setIfInBounds_toArray, List.set_cons_zero, List.set_cons_succ]
      refine wpAny_done (by kernel_rfl) ?_ _
      go_wp2
      go_roundw
      case rel => exact ⟨k + 1, _, by omega, by go_num, HM6, HN, HB6⟩
      case measure => simp [RowKit.intOf]; omega
    · have ek : k = c.length := by omega
      subst ek
      obtain ⟨m1, m2, m3⟩ := HM.out
      have HE : Hid (RvEnd S c base gain b en pe w (.returned (.tuple #[.slice av L.length cv, .nilIface])) wr) := HOk.out _ L wr (by rw [HR4.out, H0.out]) (HBw.out.1.trans (HB.out.mono HBw.out.2)) (m1.mono HBw.out.2) m2 (by omega)
      have j1 : ¬ (c.length : Int) < c.length := by omega
      clear m1 m2 m3 HM HErr HOk
      go_wp2
      go_ret2
      exact HE.out
end Go.Proofs.Ytmelleimijenfaa
