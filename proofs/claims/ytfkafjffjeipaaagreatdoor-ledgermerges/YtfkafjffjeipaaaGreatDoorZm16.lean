/-
  The contracts of quarterdaybig's bit, TrailingZeroBits and IsInt64, and of dayref1's Small: does a number fit into 64 bits?
-/
import Derived.Test.YtfkafjffjeipaaaGreatDoorZm15
import Derived.OrdersHeld
import Derived.RegionTactic
import Derived.Deep.RegionHeld3
import Derived.Deep.RegionWith
import Derived.BigRegion
import Derived.Laws.Bits64b
namespace Go.Proofs.YtfkafjffjeipaaaGreatDoor
set_option linter.unusedVariables false
open Go.RowKit Big

theorem sg_cut (neg : Bool) (l : List Nat) (n : Nat) (h : l.length = 0 → n = 0) : sg (neg && decide (0 < l.length)) n = sg neg n := by
  rcases Nat.eq_zero_or_pos l.length with h0 | h0
  · rw [h h0]; simp [sg]
  · simp [h0]

set_option maxHeartbeats 1000000 in
theorem sum_bigs (xn yn : Bool) (va vb : Value) (a b : List Nat) (w : World) (ha : Wd w va a) (hb : Wd w vb b) (na : Nrm a) (nb : Nrm b) (h1 : a.length < 35184372088832) (h2 : b.length < 35184372088832) :
    Calls Tryz.prog 58 #[.bool xn, va, .bool yn, vb] w fun e w' => ∃ neg v l, e = .returned (.tuple #[.bool neg, v]) ∧ Wd w' v l ∧ Nrm l ∧ sg neg (val l) = sg xn (val a) + sg yn (val b) ∧ w.grownBy w' none := by
  have Ha : Hid (Wd w va a) := ha
  have Hb : Hid (Wd w vb b) := hb
  have Na : Hid (Nrm a) := na
  have Nb : Hid (Nrm b) := nb
  clear ha hb na nb
  by_cases hs : xn = yn
  · subst hs
    go_enter Tryz.func58, Tryz.ntmps58
    go_wp2_with fail
    refine (add_any va vb a b w Ha.out Hb.out h1 h2).mono ?_
    rintro e w1 ⟨v, l, rfl, hv, hn, hval, hg⟩
    have R : Hid (Wd w1 v l ∧ Nrm l ∧ sg xn (val l) = sg xn (val a) + sg xn (val b) ∧ w.grownBy w1 none) := ⟨hv, hn, by rw [hval]; unfold sg; cases xn <;> simp <;> omega, hg⟩
    clear hv hn hval hg
    go_wp2
    go_ret2
    exact ⟨xn, v, l, rfl, R.out.1, R.out.2.1, R.out.2.2.1, R.out.2.2.2⟩
  · have hs' : (xn == yn) = false := by simpa using hs
    by_cases hge : val b ≤ val a
    · have hc : Hid (0 ≤ cmpV (val a) (val b)) := by
        unfold Hid cmpV; rw [if_neg (by omega)]; split <;> omega
      have hll := len_le Ha.out.ok Nb.out hge
      go_enter Tryz.func58, Tryz.ntmps58
      go_wp2_with fail
      refine (cmp_any va vb a b w Ha.out Hb.out Na.out Nb.out).mono ?_
      rintro e w1 ⟨rfl, n, hw⟩
      rw [hw]; clear hw w1
      have hc' := hc.out
      generalize cmpV (val a) (val b) = q at *
      clear hc
      go_wp2_with fail
      refine (sub_any va vb a b _ (Ha.out.grow (gdrewN (grefl w _) n)) (Hb.out.grow (gdrewN (grefl w _) n)) hge hll h1).mono ?_
      rintro e w1 ⟨v, l, rfl, hv, hn, hval, hg⟩
      have R : Hid (Wd w1 v l ∧ Nrm l ∧ sg xn (val l) = sg xn (val a) + sg yn (val b) ∧ w.grownBy w1 none) := ⟨hv, hn, by rw [hval]; unfold sg; cases xn <;> cases yn <;> simp at hs ⊢ <;> omega, gtrans (gdrewN (grefl w _) n) hg⟩
      clear hv hn hval hg
      go_wp2
      go_ret2
      exact ⟨xn, v, l, rfl, R.out.1, R.out.2.1, R.out.2.2.1, R.out.2.2.2⟩
    · have hc : Hid (cmpV (val a) (val b) < 0) := by
        unfold Hid; rw [cmpV_lt (by omega)]; omega
      have hll := len_le Hb.out.ok Na.out (by omega)
      go_enter Tryz.func58, Tryz.ntmps58
      go_wp2_with fail
      refine (cmp_any va vb a b w Ha.out Hb.out Na.out Nb.out).mono ?_
      rintro e w1 ⟨rfl, n, hw⟩
      rw [hw]; clear hw w1
      have hc' := hc.out
      generalize cmpV (val a) (val b) = q at *
      clear hc
      go_wp2_with fail
      refine (sub_any vb va b a _ (Hb.out.grow (gdrewN (grefl w _) n)) (Ha.out.grow (gdrewN (grefl w _) n)) (by omega) hll h2).mono ?_
      rintro e w1 ⟨v, l, rfl, hv, hn, hval, hg⟩
      have R : Hid (Wd w1 v l ∧ Nrm l ∧ sg yn (val l) = sg xn (val a) + sg yn (val b) ∧ w.grownBy w1 none) := ⟨hv, hn, by rw [hval]; unfold sg; cases xn <;> cases yn <;> simp at hs ⊢ <;> omega, gtrans (gdrewN (grefl w _) n) hg⟩
      clear hv hn hval hg
      go_wp2
      go_ret2
      exact ⟨yn, v, l, rfl, R.out.1, R.out.2.1, R.out.2.2.1, R.out.2.2.2⟩
end Go.Proofs.YtfkafjffjeipaaaGreatDoor

namespace Go.Proofs.YtfkafjffjeipaaaGreatDoor
open Go
set_option linter.unusedVariables false

section
variable {P : Program} {ops : Array Oper} {Q : Exit → Act → World → Prop} {md : Region.Mode} {T : World → Prop} {g : Nat}

/-- Whatever order is picked from here on, and T holds behind every operation till operation g has come up. -/
def wpAnyL (P : Program) (md : Region.Mode) (ops : Array Oper) (Q : Exit → Act → World → Prop) (g : Nat) (T : World → Prop) : Nat → Array Bool → Act → World → Prop
  | 0, listed, a, w => Region.ready md ops listed = [] ∧ Q .normal a w
  | fuel + 1, listed, a, w =>
    (Region.ready md ops listed = [] → Q .normal a w) ∧
    ∀ i ∈ Region.ready md ops listed, wpOp P ops Q i (fun a' w' => ((listed.setIfInBounds i true).getD g true = false → T w') ∧ wpAnyL P md ops Q g T fuel (listed.setIfInBounds i true) a' w') a w

theorem any_of_L : ∀ (fuel : Nat) (listed : Array Bool) (a : Act) (w : World), wpAnyL P md ops Q g T fuel listed a w → wpAny P md ops Q fuel listed a w
  | 0, _, _, _, h => h
  | fuel + 1, _, _, _, h => ⟨h.1, fun i hi => wpOp_mono (fun a' w' h' => any_of_L fuel _ a' w' h'.2) (h.2 i hi)⟩

/-- Once g has come up, nothing more is asked of worlds. -/
theorem L_of_any : ∀ (fuel : Nat) (listed : Array Bool) (a : Act) (w : World), listed.getD g true = true → wpAny P md ops Q fuel listed a w → wpAnyL P md ops Q g T fuel listed a w
  | 0, _, _, _, _, h => h
  | fuel + 1, listed, _, _, hg, h => ⟨h.1, fun i hi => wpOp_mono (fun a' w' h' => by
      have hg' : (listed.setIfInBounds i true).getD g true = true := by
        by_cases e : i = g
        · subst e
          by_cases hs : i < listed.size
          · simp [hs]
          · simp [hs]
        · rw [getD_set_ne true e]; exact hg
      exact ⟨(fun h0 => by rw [hg'] at h0; cases h0), L_of_any fuel _ a' w' hg' h'⟩) (h.2 i hi)⟩

theorem L_first {i : Nat} {oi og : Oper} {v : Value} (hi : ops[i]? = some oi) (hgo : ops[g]? = some og) (hw : ∃ e ∈ og.after, Region.binds md e = true ∧ e.on = i) (hgi : g ≠ i)
    (hsel : ∀ (j : Nat) (o : Oper) cs b, ops[j]? = some o → o.op ≠ .select cs b) (hQ : ∀ c a w, Q (.panic c) (a.put oi.dst v) w → Q (.panic c) a w) :
    ∀ (fuel : Nat) (listed : Array Bool) (a : Act) (w : World),
      (∀ j oj, ops[j]? = some oj → j ≠ i → listed.getD j true = false → (∀ e ∈ oj.after, Region.binds md e = true → e.on ≠ i) → oi.apart ops oj = true) →
      i ∈ Region.ready md ops listed → listed.getD g true = false → YieldsIf P ops T oi v a → T w →
      wpAnyL P md ops Q g T fuel (listed.setIfInBounds i true) (a.put oi.dst v) w → wpAnyL P md ops Q g T (fuel + 1) listed a w := by
  intro fuel
  induction fuel with
  | zero =>
    intro listed a w _ hr _ hy hT H
    refine ⟨fun h => (by rw [h] at hr; cases hr), fun j hj => ?_⟩
    by_cases hji : j = i
    · subst hji; exact hy.wpOp hi hT ⟨fun _ => hT, H⟩
    · have := ready_mono hj hji
      rw [H.1] at this
      cases this
  | succ fuel ih =>
    intro listed a w hfree hr hlg hy hT H
    refine ⟨fun h => (by rw [h] at hr; cases hr), fun j hj => ?_⟩
    by_cases hji : j = i
    · subst hji; exact hy.wpOp hi hT ⟨fun _ => hT, H⟩
    · have h1 := H.2 j (ready_mono hj hji)
      obtain ⟨hjun, oj, hoj, hall⟩ := mem_ready.1 hj
      have hnot : ∀ e ∈ oj.after, Region.binds md e = true → e.on ≠ i := fun e he hb heq => by
        have h1 := hall e he hb
        have h0 := (mem_ready.1 hr).1
        rw [heq] at h1
        rcases Nat.lt_or_ge i listed.size with h' | h'
        · simp [h'] at h0 h1; rw [h0] at h1; cases h1
        · simp [Array.getElem?_eq_none h'] at h1
      have hjg : j ≠ g := by
        rintro rfl
        obtain ⟨e, he, hb, heq⟩ := hw
        rw [hgo] at hoj
        cases hoj
        exact hnot e he hb heq
      have h2 := wpOp_putIf hoj (hfree j oj hoj hji hjun hnot) (fun cs b => hsel i oi cs b hi) (fun cs b => hsel j oj cs b hoj) hQ hy h1
      have hfree' : ∀ k ok, ops[k]? = some ok → k ≠ i → (listed.setIfInBounds j true).getD k true = false →
          (∀ e ∈ ok.after, Region.binds md e = true → e.on ≠ i) → oi.apart ops ok = true := fun k ok hk hki hun hno => by
        refine hfree k ok hk hki ?_ hno
        by_cases hjk : j = k
        · subst hjk; exact hjun
        · rw [getD_set_ne true hjk] at hun; exact hun
      have hlg' : (listed.setIfInBounds j true).getD g true = false := by rw [getD_set_ne true hjg]; exact hlg
      refine wpOp_mono (fun a' w' h3 => ?_) h2
      have hT' : T w' := h3.2.1 (by rw [getD_set_ne true hjg, getD_set_ne true (Ne.symm hgi)]; exact hlg)
      refine ⟨fun _ => hT', ih (listed.setIfInBounds j true) a' w' hfree' (ready_mono hr (Ne.symm hji)) hlg' h3.1 hT' ?_⟩
      rw [Array.setIfInBounds_comm _ _ hji]
      exact h3.2.2

/-- The named operation itself. -/
theorem L_go {fuel : Nat} {listed : Array Bool} {a : Act} {w : World} (hr : Region.ready md ops listed = [g]) (hgs : (listed.setIfInBounds g true).getD g true = true)
    (h : wpOp P ops Q g (wpAny P md ops Q fuel (listed.setIfInBounds g true)) a w) : wpAnyL P md ops Q g T (fuel + 1) listed a w := by
  refine ⟨(fun h0 => by rw [hr] at h0; simp at h0), fun i hi => ?_⟩
  rw [hr] at hi
  obtain rfl := List.mem_singleton.1 hi
  exact wpOp_mono (fun a' w' h' => ⟨(fun h0 => by rw [hgs] at h0; cases h0), L_of_any fuel _ a' w' hgs h'⟩) h

/-- The only one that may come up, and it yields its value. -/
theorem L_take1 {i : Nat} {oi : Oper} {v : Value} {fuel : Nat} {listed : Array Bool} {a : Act} {w : World} (hi : ops[i]? = some oi) (hr : Region.ready md ops listed = [i]) (hy : YieldsIf P ops T oi v a) (hT : T w)
    (h : wpAnyL P md ops Q g T fuel (listed.setIfInBounds i true) (a.put oi.dst v) w) : wpAnyL P md ops Q g T (fuel + 1) listed a w := by
  refine ⟨(fun h0 => by rw [hr] at h0; simp at h0), fun j hj => ?_⟩
  rw [hr] at hj
  obtain rfl := List.mem_singleton.1 hj
  exact hy.wpOp hi hT ⟨fun _ => hT, h⟩

/-- The only one that may come up. -/
theorem any_one {i fuel : Nat} {listed : Array Bool} {a : Act} {w : World} (hr : Region.ready md ops listed = [i])
    (h : wpOp P ops Q i (wpAny P md ops Q fuel (listed.setIfInBounds i true)) a w) : wpAny P md ops Q (fuel + 1) listed a w := by
  refine ⟨(fun h0 => by rw [hr] at h0; simp at h0), fun j hj => ?_⟩
  rw [hr] at hj
  obtain rfl := List.mem_singleton.1 hj
  exact h

/-- The move of a walk. -/
theorem L_take {i : Nat} {oi og : Oper} {v : Value} {fuel : Nat} {listed : Array Bool} {a : Act} {w : World} (hi : ops[i]? = some oi) (hgo : ops[g]? = some og)
    (hw : (og.after.any fun e => Region.binds md e && e.on == i) = true) (hgi : g ≠ i)
    (hs : Region.noSelect ops = true) (hf : Region.free md ops listed i = true) (hr : (Region.ready md ops listed).contains i = true) (hlg : listed.getD g true = false)
    (hQ : ∀ c a w, Q (.panic c) (a.put oi.dst v) w → Q (.panic c) a w) (hy : YieldsIf P ops T oi v a) (hT : T w)
    (h : wpAnyL P md ops Q g T fuel (listed.setIfInBounds i true) (a.put oi.dst v) w) : wpAnyL P md ops Q g T (fuel + 1) listed a w :=
  L_first hi hgo (by
    rw [Array.any_eq_true] at hw
    obtain ⟨k, hk, he⟩ := hw
    simp only [Bool.and_eq_true, beq_iff_eq] at he
    exact ⟨og.after[k], Array.getElem_mem hk, he.1, he.2⟩) hgi (Region.noSelect_spec hs) hQ fuel listed a w (Region.free_spec hi hf) (by simpa using hr) hlg hy hT h
end
end Go.Proofs.YtfkafjffjeipaaaGreatDoor

namespace Go.Proofs.YtfkafjffjeipaaaGreatDoor
set_option linter.unusedVariables false
set_option linter.unusedSimpArgs false
open Go.RowKit Big

theorem gdr (w : World) : w.grownBy w.drew none := ⟨rfl, rfl, rfl, Nat.le_refl _, fun _ _ _ => rfl⟩

/-- What stands between the two calls of Add and Sub. -/
def Mid (w w1 : World) (neg : Bool) (v : Value) (l : List Nat) (x : Int) : Prop := Wd w1 v l ∧ Nrm l ∧ sg neg (val l) = x ∧ w.grownBy w1 none

theorem sum_mid (nx ny : Bool) (vx vy : Value) (lx ly : List Nat) (w W : World) (hW : w.grownBy W none) (hx : Wd w vx lx) (hy : Wd w vy ly) (kx : Nrm lx) (ky : Nrm ly) (h1 : lx.length < 35184372088832) (h2 : ly.length < 35184372088832) :
    Calls Tryz.prog 58 #[.bool nx, vx, .bool ny, vy] W fun e w' => ∃ neg v l, e = .returned (.tuple #[.bool neg, v]) ∧ Mid w w' neg v l (sg nx (val lx) + sg ny (val ly)) := by
  refine (sum_bigs nx ny vx vy lx ly W (hx.grow hW) (hy.grow hW) kx ky h1 h2).mono ?_
  rintro e w1 ⟨neg, v, l, rfl, hv, hn, hval, hg⟩
  exact ⟨neg, v, l, rfl, hv, hn, hval, gtrans hW hg⟩

theorem give_mid (p : Nat) (neg nz : Bool) (vz v : Value) (l : List Nat) (x : Int) (w w1 : World) (hz : w.heap[p]? = some (.cells #[.bool nz, vz] 116 (0, 0))) (hzi : ∀ k n, vz ≠ .int k n) (h : Mid w w1 neg v l x) :
    Calls Tryz.prog 57 #[.pointer (some ⟨p, 0, none⟩), .bool neg, v] w1 fun e w' => e = .returned (.pointer (some ⟨p, 0, none⟩)) ∧ Hid (BigIs w' p x ∧ w.grownBy w' (some p)) := by
  obtain ⟨hv, hn, hval, hg⟩ := h
  refine (give_any p neg nz vz v l w1 ((hg.block p (blk_lt hz) (by simp)).trans hz) hzi hv hn).mono ?_
  rintro e w2 ⟨rfl, hb, hg2⟩
  refine ⟨rfl, ⟨_, v, l, hb, ?_⟩, gtrans (gweak hg _) hg2⟩
  rw [sg_cut _ _ _ (fun h => by rw [List.eq_nil_of_length_eq_zero h]; rfl)]
  exact hval

set_option maxHeartbeats 4000000 in
theorem Add_any (pz px py : Nat) (nz nx ny : Bool) (vz vx vy : Value) (lx ly : List Nat) (w : World) (hz : w.heap[pz]? = some (.cells #[.bool nz, vz] 116 (0, 0))) (hzi : ∀ k n, vz ≠ .int k n)
    (hx : IsBig w px nx vx lx) (hy : IsBig w py ny vy ly) (h1 : lx.length < 35184372088832) (h2 : ly.length < 35184372088832) :
    Calls Tryz.prog 42 #[.pointer (some ⟨pz, 0, none⟩), .pointer (some ⟨px, 0, none⟩), .pointer (some ⟨py, 0, none⟩)] w fun e w' => e = .returned (.pointer (some ⟨pz, 0, none⟩)) ∧ Hid (BigIs w' pz (sg nx (val lx) + sg ny (val ly)) ∧ w.grownBy w' (some pz)) := by
  have cx0 := blk_cell0 hx.blk
  have cx1 := blk_cell1 hx.blk
  have cy0 := blk_cell0 hy.blk
  have cy1 := blk_cell1 hy.blk
  have sumC : Hid (∀ W, w.grownBy W none → Calls Tryz.prog 58 #[.bool nx, vx, .bool ny, vy] W fun e w' => ∃ neg v l, e = .returned (.tuple #[.bool neg, v]) ∧ Mid w w' neg v l (sg nx (val lx) + sg ny (val ly))) := fun W hW => sum_mid nx ny vx vy lx ly w W hW hx.wd hy.wd hx.nrm hy.nrm h1 h2
  have giveC : Hid (∀ neg v l w1 x, Mid w w1 neg v l x → Calls Tryz.prog 57 #[.pointer (some ⟨pz, 0, none⟩), .bool neg, v] w1 fun e w' => e = .returned (.pointer (some ⟨pz, 0, none⟩)) ∧ Hid (BigIs w' pz x ∧ w.grownBy w' (some pz))) := fun neg v l w1 x h => give_mid pz neg nz vz v l x w w1 hz hzi h
  clear hz hzi hx hy h1 h2
  generalize sg nx (val lx) + sg ny (val ly) = X at *
  go_enter Tryz.func42, Tryz.ntmps42
  go_wp2
  refine wp_region_any (by kernel_rfl) ?_
  refine wpAny_take (i := 0) (v := .pointer (some ⟨pz, 0, none⟩)) rfl (by kernel_rfl) (by kernel_rfl) (by kernel_rfl) (fun _ _ _ h => h) (Or.inl ⟨by rfl, fun w => by go_simp⟩) ?_
  simp only [Act.put, List.setIfInBounds_toArray, List.set_cons_zero, List.set_cons_succ]
  refine wpAny_take (i := 1) (v := .pointer (some ⟨px, 0, none⟩)) rfl (by kernel_rfl) (by kernel_rfl) (by kernel_rfl) (fun _ _ _ h => h) (Or.inl ⟨by rfl, fun w => by go_simp⟩) ?_
  simp only [Act.put, List.setIfInBounds_toArray, List.set_cons_zero, List.set_cons_succ]
  refine wpAny_take (i := 2) (v := .pointer (some ⟨px, 0, none⟩)) rfl (by kernel_rfl) (by kernel_rfl) (by kernel_rfl) (fun _ _ _ h => h) (Or.inl ⟨by rfl, fun w => by go_simp⟩) ?_
  simp only [Act.put, List.setIfInBounds_toArray, List.set_cons_zero, List.set_cons_succ]
  refine wpAny_take (i := 3) (v := .pointer (some ⟨px, 0, none⟩)) rfl (by kernel_rfl) (by kernel_rfl) (by kernel_rfl) (fun _ _ _ h => h) (Or.inl ⟨by rfl, fun w => by go_simp⟩) ?_
  simp only [Act.put, List.setIfInBounds_toArray, List.set_cons_zero, List.set_cons_succ]
  refine wpAny_take (i := 5) (v := .pointer (some ⟨px, 0, none⟩)) rfl (by kernel_rfl) (by kernel_rfl) (by kernel_rfl) (fun _ _ _ h => h) (Or.inl ⟨by rfl, fun w => by go_simp⟩) ?_
  simp only [Act.put, List.setIfInBounds_toArray, List.set_cons_zero, List.set_cons_succ]
  refine wpAny_take (i := 6) (v := .pointer (some ⟨px, 0, none⟩)) rfl (by kernel_rfl) (by kernel_rfl) (by kernel_rfl) (fun _ _ _ h => h) (Or.inl ⟨by rfl, fun w => by go_simp⟩) ?_
  simp only [Act.put, List.setIfInBounds_toArray, List.set_cons_zero, List.set_cons_succ]
  refine wpAny_take (i := 7) (v := .pointer (some ⟨px, 1, none⟩)) rfl (by kernel_rfl) (by kernel_rfl) (by kernel_rfl) (fun _ _ _ h => h) (Or.inl ⟨by rfl, fun w => by go_simp⟩) ?_
  simp only [Act.put, List.setIfInBounds_toArray, List.set_cons_zero, List.set_cons_succ]
  refine wpAny_take (i := 9) (v := .pointer (some ⟨py, 0, none⟩)) rfl (by kernel_rfl) (by kernel_rfl) (by kernel_rfl) (fun _ _ _ h => h) (Or.inl ⟨by rfl, fun w => by go_simp⟩) ?_
  simp only [Act.put, List.setIfInBounds_toArray, List.set_cons_zero, List.set_cons_succ]
  refine wpAny_take (i := 10) (v := .pointer (some ⟨py, 0, none⟩)) rfl (by kernel_rfl) (by kernel_rfl) (by kernel_rfl) (fun _ _ _ h => h) (Or.inl ⟨by rfl, fun w => by go_simp⟩) ?_
  simp only [Act.put, List.setIfInBounds_toArray, List.set_cons_zero, List.set_cons_succ]
  refine wpAny_take (i := 11) (v := .pointer (some ⟨py, 0, none⟩)) rfl (by kernel_rfl) (by kernel_rfl) (by kernel_rfl) (fun _ _ _ h => h) (Or.inl ⟨by rfl, fun w => by go_simp⟩) ?_
  simp only [Act.put, List.setIfInBounds_toArray, List.set_cons_zero, List.set_cons_succ]
  refine wpAny_take (i := 13) (v := .pointer (some ⟨py, 0, none⟩)) rfl (by kernel_rfl) (by kernel_rfl) (by kernel_rfl) (fun _ _ _ h => h) (Or.inl ⟨by rfl, fun w => by go_simp⟩) ?_
  simp only [Act.put, List.setIfInBounds_toArray, List.set_cons_zero, List.set_cons_succ]
  refine wpAny_take (i := 14) (v := .pointer (some ⟨py, 0, none⟩)) rfl (by kernel_rfl) (by kernel_rfl) (by kernel_rfl) (fun _ _ _ h => h) (Or.inl ⟨by rfl, fun w => by go_simp⟩) ?_
  simp only [Act.put, List.setIfInBounds_toArray, List.set_cons_zero, List.set_cons_succ]
  refine wpAny_take (i := 15) (v := .pointer (some ⟨py, 1, none⟩)) rfl (by kernel_rfl) (by kernel_rfl) (by kernel_rfl) (fun _ _ _ h => h) (Or.inl ⟨by rfl, fun w => by go_simp⟩) ?_
  simp only [Act.put, List.setIfInBounds_toArray, List.set_cons_zero, List.set_cons_succ]
  refine any_of_L (g := 17) (T := fun w' => w' = w.drew) _ _ _ _ ?_
  refine L_take (i := 4) (v := .bool nx) rfl rfl (by kernel_rfl) (by decide) (by kernel_rfl) (by kernel_rfl) (by kernel_rfl) (by kernel_rfl) (fun _ _ _ h => h) (Or.inl ⟨by rfl, fun w' hw' => by subst hw'; go_simp⟩) rfl ?_
  simp only [Act.put, List.setIfInBounds_toArray, List.set_cons_zero, List.set_cons_succ]
  refine L_take (i := 8) (v := vx) rfl rfl (by kernel_rfl) (by decide) (by kernel_rfl) (by kernel_rfl) (by kernel_rfl) (by kernel_rfl) (fun _ _ _ h => h) (Or.inl ⟨by rfl, fun w' hw' => by subst hw'; go_simp⟩) rfl ?_
  simp only [Act.put, List.setIfInBounds_toArray, List.set_cons_zero, List.set_cons_succ]
  refine L_take (i := 12) (v := .bool ny) rfl rfl (by kernel_rfl) (by decide) (by kernel_rfl) (by kernel_rfl) (by kernel_rfl) (by kernel_rfl) (fun _ _ _ h => h) (Or.inl ⟨by rfl, fun w' hw' => by subst hw'; go_simp⟩) rfl ?_
  simp only [Act.put, List.setIfInBounds_toArray, List.set_cons_zero, List.set_cons_succ]
  refine L_take (i := 16) (v := vy) rfl rfl (by kernel_rfl) (by decide) (by kernel_rfl) (by kernel_rfl) (by kernel_rfl) (by kernel_rfl) (fun _ _ _ h => h) (Or.inl ⟨by rfl, fun w' hw' => by subst hw'; go_simp⟩) rfl ?_
  simp only [Act.put, List.setIfInBounds_toArray, List.set_cons_zero, List.set_cons_succ]
  refine L_go (by kernel_rfl) (by kernel_rfl) ?_
  refine wpOp_step rfl (fun K hK => ?_)
  rw [if_pos (by rfl)]
  go_wp2_with fail
  refine (sumC.out _ (gdr w)).mono ?_
  rintro e w1 ⟨neg, v, l, rfl, hm⟩
  refine hK _ _ ?_
  clear hK K
  have Hm : Hid (Mid w w1 neg v l X) := hm
  clear hm
  refine wpAny_take (i := 18) (v := .bool neg) rfl (by kernel_rfl) (by kernel_rfl) (by kernel_rfl) (fun _ _ _ h => h) (Or.inl ⟨by rfl, fun w => by go_simp⟩) ?_
  simp only [Act.put, List.setIfInBounds_toArray, List.set_cons_zero, List.set_cons_succ]
  refine wpAny_take (i := 19) (v := v) rfl (by kernel_rfl) (by kernel_rfl) (by kernel_rfl) (fun _ _ _ h => h) (Or.inl ⟨by rfl, fun w => by go_simp⟩) ?_
  simp only [Act.put, List.setIfInBounds_toArray, List.set_cons_zero, List.set_cons_succ]
  refine any_one (i := 20) (by kernel_rfl) ?_
  refine wpOp_step rfl (fun K hK => ?_)
  rw [if_pos (by rfl)]
  go_wp2_with fail
  refine (giveC.out neg v l w1 X Hm.out).mono ?_
  rintro e w2 ⟨rfl, hR⟩
  refine hK _ _ ?_
  clear hK K Hm
  refine any_one (i := 21) (by kernel_rfl) ?_
  refine wpOp_step rfl (fun K hK => ?_)
  rw [if_pos (by rfl)]
  have hK' : Shut (∀ a w, wpAny _ _ _ _ _ _ a w → K a w) := hK
  clear hK
  go_wp2
  refine hK'.out _ _ ?_
  clear hK' K
  refine wpAny_done (by kernel_rfl) ?_ _
  go_wp2
  go_ret
  exact ⟨rfl, hR⟩
end Go.Proofs.YtfkafjffjeipaaaGreatDoor

namespace Go.Proofs.YtfkafjffjeipaaaGreatDoor
set_option linter.unusedVariables false
open Go.RowKit Big

/-- How long a number is, in bits. -/
def Bits (n L : Nat) : Prop := (n = 0 ∧ L = 0) ∨ (1 ≤ L ∧ 2 ^ (L - 1) ≤ n ∧ n < 2 ^ L)

theorem pow32 (k : Nat) : 4294967296 ^ k = 2 ^ (32 * k) := by
  rw [Nat.pow_mul]

theorem bits_words {l : List Nat} (ho : Ok l) (h0 : 0 < l.length) (k : Nat) (hk : 1 ≤ k) (h1 : 2 ^ (k - 1) ≤ l.getD (l.length - 1) 0) (h2 : l.getD (l.length - 1) 0 < 2 ^ k) : Bits (val l) ((l.length - 1) * 32 + k) := by
  have e := val_take_succ l (l.length - 1) (by omega)
  rw [Nat.sub_add_cancel h0, List.take_length] at e
  have hlt := val_lt (ok_take ho (l.length - 1))
  rw [List.length_take, Nat.min_eq_left (by omega)] at hlt
  right
  refine ⟨by omega, ?_, ?_⟩
  · rw [show (l.length - 1) * 32 + k - 1 = 32 * (l.length - 1) + (k - 1) by omega, Nat.pow_add, ← pow32, e]
    have := Nat.mul_le_mul_left (4294967296 ^ (l.length - 1)) h1
    omega
  · rw [show (l.length - 1) * 32 + k = 32 * (l.length - 1) + k by omega, Nat.pow_add, ← pow32, e]
    have := Nat.mul_le_mul_left (4294967296 ^ (l.length - 1)) (Nat.succ_le_of_lt h2)
    rw [Nat.succ_eq_add_one, Nat.mul_add, Nat.mul_one] at this
    omega

theorem half_step (x k t : Nat) (h : t = x / 2 ^ k) : t / 2 = x / 2 ^ (k + 1) := by rw [h, Nat.div_div_eq_div_mul, Nat.pow_succ]

set_option maxHeartbeats 1000000 in
theorem length_any (v : Value) (l : List Nat) (w : World) (h : Wd w v l) (hn : Nrm l) (hl : l.length < 35184372088832) :
    Calls Tryz.prog 82 #[v] w fun e w' => (∃ L : Nat, e = .returned (.int .i64 L) ∧ Bits (val l) L) ∧ w' = w := by
  have ho := h.ok
  rcases h.at_ with ⟨h0, a, cap, hv⟩ | ⟨h0, b, off, cap, hv, hb, hcap, hc⟩
  · subst h0; subst hv
    go_enter Tryz.func82, Tryz.ntmps82
    go_wp2
    go_ret
    exact ⟨⟨0, rfl, .inl ⟨rfl, rfl⟩⟩, rfl⟩
  · subst hv
    obtain ⟨j, hj⟩ : ∃ j, l.length = j + 1 := ⟨l.length - 1, by omega⟩
    have hcj := hc j (by omega)
    have hx0 : l.getD j 0 ≠ 0 := by
      rcases hn with hn | hn
      · omega
      · rw [hj] at hn; exact hn
    have hx1 := ho j (by omega)
    have W := fun k hk h1 h2 => bits_words ho h0 k hk h1 h2
    rw [hj, Nat.add_sub_cancel] at W
    rw [hj]
    generalize l.getD j 0 = x at *
    have HW : Hid (∀ k, 1 ≤ k → 2 ^ (k - 1) ≤ x → x < 2 ^ k → Bits (val l) (j * 32 + k)) := W
    have hne : ((j : Int) + 1 == 0) = false := by simp; omega
    have hj2 : (j : Int) < 35184372088832 := by omega
    have Hj : Hid (l.length = j + 1) := hj
    clear hc hn W h ho hj hcap
    go_enter Tryz.func82, Tryz.ntmps82
    go_wp2
    go_loop [3, 4] (fun tn tt => ∃ k t : Nat, k ≤ 32 ∧ (t : Int) < 4294967296 ∧ tn = .int .i64 k ∧ tt = .int .u32 t ∧ Hid (t = x / 2 ^ k ∧ (1 ≤ k → 2 ^ (k - 1) ≤ x))) (fun _ tt => (intOf tt).toNat)
    case atStart => exact ⟨0, x, by omega, by omega, rfl, rfl, by simp, fun h => by omega⟩
    case round =>
      obtain ⟨k, t, hk, ht, rfl, rfl, Hk⟩ := hrel
      by_cases hz : t = 0
      · subst hz
        have R : Hid (Bits (val l) (j * 32 + k)) := by
          have h1 := Hk.out.1.symm
          have h2 : x < 2 ^ k := by
            rcases Nat.div_eq_zero_iff.1 h1 with h | h
            · have := Nat.two_pow_pos k; omega
            · exact h
          have hk1 : 1 ≤ k := by
            rcases Nat.eq_zero_or_pos k with rfl | h
            · simp at h2; omega
            · exact h
          exact HW.out k hk1 (Hk.out.2 hk1) h2
        clear Hk HW
        go_wp2
        go_ret
        exact ⟨⟨j * 32 + k, by go_num, R.out⟩, rfl⟩
      · have t1 : ((t : Int) != 0) = true := by simp; omega
        have hk32 : k < 32 := by
          apply Classical.byContradiction
          intro hn
          have h1 := Hk.out.1
          have hk' : k = 32 := by omega
          subst hk'
          rw [Nat.div_eq_of_lt (by omega)] at h1
          exact hz h1
        have R : Hid (t / 2 = x / 2 ^ (k + 1) ∧ (1 ≤ k + 1 → 2 ^ (k + 1 - 1) ≤ x)) := by
          refine ⟨half_step x k t Hk.out.1, fun _ => ?_⟩
          rw [Nat.add_sub_cancel]
          apply Classical.byContradiction
          intro hn
          exact hz (by rw [Hk.out.1]; exact Nat.div_eq_of_lt (by omega))
        have e2 : (t : Int) / 2 = ((t / 2 : Nat) : Int) := by omega
        have h5 : t / 2 < t := by omega
        have h6 : (t / 2 : Nat) < 4294967296 := by omega
        generalize hq : t / 2 = q at *
        clear Hk HW hq
        go_wp2
        go_round
        case rel => exact ⟨k + 1, q, by omega, by omega, by go_num, rfl, R⟩
        case measure => simp [intOf]; omega
end Go.Proofs.YtfkafjffjeipaaaGreatDoor

namespace Go.Proofs.YtfkafjffjeipaaaGreatDoor
set_option linter.unusedVariables false
open Go.RowKit Big

theorem or_word (x0 x1 : Nat) (h0 : x0 < 4294967296) (h1 : x1 < 4294967296) : bits .or .u64 (x0 : Int) ((x1 * 4294967296 : Nat) : Int) = ((x0 + 4294967296 * x1 : Nat) : Int) := by
  rw [bits_or_u64_nat _ _ (by omega) (by omega)]
  have := Nat.two_pow_add_eq_or_of_lt (i := 32) (b := x0) (by omega) x1
  rw [Nat.or_comm, Nat.mul_comm x1 4294967296, Nat.add_comm]
  exact congrArg _ this.symm

set_option maxHeartbeats 1000000 in
theorem uint64_any (p : Nat) (neg : Bool) (v : Value) (l : List Nat) (w : World) (h : IsBig w p neg v l) (hl : l.length ≤ 2) :
    Calls Tryz.prog 84 #[.pointer (some ⟨p, 0, none⟩)] w fun e w' => e = .returned (.int .u64 (val l : Nat)) ∧ w' = w := by
  have c1 := blk_cell1 h.blk
  have ho := h.wd.ok
  rcases h.wd.at_ with ⟨h0, a, cap, hv⟩ | ⟨h0, b, off, cap, hv, hb, hcap, hc⟩
  · subst h0; subst hv
    clear h ho
    go_enter Tryz.func84, Tryz.ntmps84
    go_wp2
    go_ret
    exact ⟨rfl, rfl⟩
  · subst hv
    match l, h0, hl with
    | [x0], _, _ =>
      have k0 : w.cell? ⟨b, off, none⟩ = some (.int .u32 (x0 : Nat)) := by first | (simp; done) | simpa using hc 0 (by simp)
      have b0 : x0 < 4294967296 := by simpa using ho 0 (by simp)
      have b0' : (x0 : Int) < 4294967296 := by omega
      have c1' : w.cell? ⟨p, 1, none⟩ = some (.slice (some ⟨b, off, none⟩) 1 cap) := c1
      have E : Hid (val [x0] = x0) := by simp [Hid, val]
      clear h ho hc c1 b0
      go_enter Tryz.func84, Tryz.ntmps84
      go_wp2
      go_ret
      exact ⟨by rw [E.out]; rfl, rfl⟩
    | [x0, x1], _, _ =>
      have k0 : w.cell? ⟨b, off, none⟩ = some (.int .u32 (x0 : Nat)) := by first | (simp; done) | simpa using hc 0 (by simp)
      have k1 : w.cell? ⟨b, off + 1, none⟩ = some (.int .u32 (x1 : Nat)) := by simpa using hc 1 (by simp)
      have b0 : x0 < 4294967296 := by simpa using ho 0 (by simp)
      have b1 : x1 < 4294967296 := by simpa using ho 1 (by simp)
      have c1' : w.cell? ⟨p, 1, none⟩ = some (.slice (some ⟨b, off, none⟩) 2 cap) := c1
      have e1 : (x1 : Int) * 4294967296 = ((x1 * 4294967296 : Nat) : Int) := by omega
      have e2 := or_word x0 x1 b0 b1
      have E : Hid (val [x0, x1] = x0 + 4294967296 * x1) := by simp [Hid, val]
      have b0' : (x0 : Int) < 4294967296 := by omega
      have b1' : (x1 : Int) < 4294967296 := by omega
      generalize x1 * 4294967296 = s at *
      generalize x0 + 4294967296 * x1 = t at *
      clear h ho hc c1 b0 b1
      go_enter Tryz.func84, Tryz.ntmps84
      go_wp2
      go_ret
      exact ⟨by rw [E.out]; rfl, rfl⟩

theorem int64_any (p : Nat) (neg : Bool) (v : Value) (l : List Nat) (w : World) (h : IsBig w p neg v l) (hl : l.length ≤ 2) (h1 : -9223372036854775808 ≤ sg neg (val l)) (h2 : sg neg (val l) ≤ 9223372036854775807) :
    Calls Tryz.prog 60 #[.pointer (some ⟨p, 0, none⟩)] w fun e w' => e = .returned (.int .i64 (sg neg (val l))) ∧ w' = w := by
  have c0 := blk_cell0 h.blk
  have H : Hid (IsBig w p neg v l) := h
  clear h
  generalize hn : val l = n at *
  have Hn : Hid (val l = n) := hn
  clear hn
  cases neg
  · go_enter Tryz.func60, Tryz.ntmps60
    go_wp2_with fail
    refine (uint64_any p _ v l w H.out hl).mono ?_
    rintro e w' ⟨rfl, hw⟩
    rw [hw, Hn.out]; clear hw w'
    have b1 : (n : Int) ≤ 9223372036854775807 := by simpa [sg] using h2
    clear h1 h2
    go_wp2
    go_ret
    exact ⟨rfl, rfl⟩
  · go_enter Tryz.func60, Tryz.ntmps60
    go_wp2_with fail
    refine (uint64_any p _ v l w H.out hl).mono ?_
    rintro e w' ⟨rfl, hw⟩
    rw [hw, Hn.out]; clear hw w'
    have b1 : (n : Int) ≤ 9223372036854775808 := by have : -9223372036854775808 ≤ -(n : Int) := by simpa [sg] using h1
                                                    omega
    have e1 : wrap64 (-wrap64 (n : Int)) = -(n : Int) := by unfold wrap64; omega
    clear h1 h2
    go_wp2
    go_ret
    refine ⟨?_, rfl⟩
    first | exact congrArg (fun z => Ending.returned (.int .i64 z)) e1 | rfl
end Go.Proofs.YtfkafjffjeipaaaGreatDoor

namespace Go.Proofs.YtfkafjffjeipaaaGreatDoor
set_option linter.unusedVariables false
open Go.RowKit Big

/-- A bit of a number is a bit of one of its words. -/
theorem word_bit {l : List Nat} (ho : Ok l) (k j : Nat) (hj : j < 32) (hk : k < l.length) : val l / 2 ^ (32 * k + j) % 2 = l.getD k 0 / 2 ^ j % 2 := by
  have e : val l = val (l.take k) + 4294967296 ^ k * (l.getD k 0 + 4294967296 * val (l.drop (k + 1))) := by
    have h1 := val_append (l.take k) (l.drop k)
    rw [List.take_append_drop, List.length_take, Nat.min_eq_left (Nat.le_of_lt hk)] at h1
    have h2 : l.drop k = l.getD k 0 :: l.drop (k + 1) := by rw [List.drop_eq_getElem_cons hk]; simp [hk]
    rw [h1, h2]; rfl
  have hlt := val_lt (ok_take ho k)
  rw [List.length_take, Nat.min_eq_left (Nat.le_of_lt hk)] at hlt
  have hB : 0 < 4294967296 ^ k := Nat.pow_pos (by omega)
  rw [Nat.pow_add, ← pow32, ← Nat.div_div_eq_div_mul, e, Nat.add_mul_div_left _ _ hB, Nat.div_eq_of_lt hlt, Nat.zero_add]
  have e2 : 4294967296 = 2 ^ j * (2 * 2 ^ (31 - j)) := by
    rw [show 2 * 2 ^ (31 - j) = 2 ^ (32 - j) by rw [← Nat.pow_succ']; congr 1; omega, ← Nat.pow_add, show j + (32 - j) = 32 by omega]
  have hJ := Nat.two_pow_pos j
  rw [show l.getD k 0 + 4294967296 * val (l.drop (k + 1)) = l.getD k 0 + 2 ^ j * (2 * (2 ^ (31 - j) * val (l.drop (k + 1)))) by
    rw [← Nat.mul_assoc 2, ← Nat.mul_assoc (2 ^ j), ← e2], Nat.add_mul_div_left _ _ hJ, Nat.add_mul_mod_self_left]

/-- Bit i of a number. -/
def bitOf (n i : Nat) : Nat := n / 2 ^ i % 2

theorem bit_any (v : Value) (l : List Nat) (k j : Nat) (w : World) (h : Wd w v l) (hj : j < 32) (hk : k < l.length) (hl : l.length < 35184372088832) :
    Calls Tryz.prog 97 #[v, .int .i64 ((32 * k + j : Nat) : Int)] w fun e w' => e = .returned (.int .u64 (bitOf (val l) (32 * k + j))) ∧ w' = w := by
  have ho := h.ok
  rcases h.at_ with ⟨h0, a, cap, hv⟩ | ⟨h0, b, off, cap, hv, hb, hcap, hc⟩
  · subst h0; simp at hk
  · subst hv
    have hck := hc k hk
    have hW : bitOf (val l) (32 * k + j) = l.getD k 0 / 2 ^ j % 2 := word_bit ho k j hj hk
    have hx := ho k hk
    generalize l.getD k 0 = x at *
    obtain ⟨i, hi⟩ : ∃ i, i = 32 * k + j := ⟨_, rfl⟩
    rw [← hi] at hW ⊢
    have e1 : (i : Int) / 32 = k := by omega
    have e2 : (i : Int) % 32 = j := by omega
    have e3 : (x : Int) / 2 ^ j = ((x / 2 ^ j : Nat) : Int) := by rw [Int.natCast_ediv, Int.natCast_pow]; rfl
    have hy : x / 2 ^ j ≤ x := Nat.div_le_self _ _
    generalize hyg : x / 2 ^ j = y at *
    have e4 : bits .and .u64 (y : Int) 1 = ((y % 2 : Nat) : Int) := by
      have := bits_and_u64_nat y 1 (by omega) (by omega)
      rw [Nat.and_one_is_mod] at this
      exact this
    have hr : y % 2 < 2 := Nat.mod_lt _ (by omega)
    generalize y % 2 = r at *
    have HW : Hid (bitOf (val l) i = r) := hW
    have i1 : (i : Int) < 2000000000000000 := by omega
    have i2 : ¬ ((i : Int) < 0) := by omega
    have i3 : (k : Int) < l.length := by omega
    have i4 : (j : Int) < 32 := by omega
    have i5 : (y : Int) < 4294967296 := by omega
    have i6 : (x : Int) < 4294967296 := by omega
    have i7 : ¬ ((l.length : Int) ≤ k) := by omega
    clear h ho hc hW hi hyg
    go_enter Tryz.func97, Tryz.ntmps97
    go_wp2
    go_ret
    exact ⟨by rw [HW.out]; rfl, rfl⟩

theorem first_bit (n i : Nat) (h : ∀ k, k < i → bitOf n k = 0) : n % 2 ^ i = 0 := by
  induction i with
  | zero => simp [Nat.mod_one]
  | succ i ih =>
    have h1 := ih (fun k hk => h k (by omega))
    have h2 := h i (by omega)
    unfold bitOf at h2
    have hp := Nat.two_pow_pos i
    obtain ⟨q, hq⟩ := Nat.dvd_of_mod_eq_zero h1
    rw [hq, Nat.mul_div_cancel_left _ hp] at h2
    obtain ⟨t, ht⟩ := Nat.dvd_of_mod_eq_zero h2
    rw [hq, ht, Nat.pow_succ, ← Nat.mul_assoc]
    exact Nat.mul_mod_right _ _

/-- Of a number of just 64 bits. -/
theorem tz_facts (n i : Nat) (h1 : 9223372036854775808 ≤ n) (h2 : n < 18446744073709551616) (hz : ∀ k, k < i → bitOf n k = 0) (hi : bitOf n i = 1) : i ≤ 63 ∧ (i = 63 ↔ n = 9223372036854775808) := by
  have top : bitOf n 63 = 1 := by
    unfold bitOf
    have : n / 2 ^ 63 = 1 := by
      apply Nat.div_eq_of_lt_le <;> omega
    rw [this]
  have hle : i ≤ 63 := by
    apply Classical.byContradiction
    intro hn
    have := hz 63 (by omega)
    omega
  refine ⟨hle, ?_, ?_⟩
  · rintro rfl
    have := first_bit n 63 hz
    omega
  · rintro rfl
    apply Classical.byContradiction
    intro hn
    have h3 : i < 63 := by omega
    have e : (9223372036854775808 : Nat) = 2 ^ i * (2 * 2 ^ (62 - i)) := by
      rw [show 2 * 2 ^ (62 - i) = 2 ^ (63 - i) by rw [← Nat.pow_succ']; congr 1; omega, ← Nat.pow_add, show i + (63 - i) = 63 by omega]
    unfold bitOf at hi
    rw [e, Nat.mul_div_cancel_left _ (Nat.two_pow_pos i)] at hi
    omega
end Go.Proofs.YtfkafjffjeipaaaGreatDoor
