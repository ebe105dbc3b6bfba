/-
  Numbers alone: two sorted rows merged in place.
-/
import Derived.Test.YtojmnfckijgofaaSrt4
namespace Go.Proofs.Ytojmnfckijgofaa
set_option linter.unusedVariables false
set_option linter.unusedSimpArgs false
set_option maxRecDepth 100000
open Go.RowKit Go.Lib

theorem adj_swap2 (B : List Nat) (x y : Nat) (R : List Nat) : ((toI (B ++ (x :: y :: R))).set B.length (y : Int)).set (B.length + 1) (x : Int) = toI (B ++ (y :: x :: R)) := by
  rw [List.set_comm _ _ (by omega)]
  exact adj_swap B x y R
/-- Two rows, sorted each; the numbers of the second are greater than those of the first. -/
structure MG (cut : List Int) (u v : List Nat) : Prop where
  su : u.Pairwise (LT cut)
  sv : v.Pairwise (LT cut)
  ap : ∀ x ∈ u, ∀ y ∈ v, x < y
  bu : ∀ z ∈ u, z < cut.length
  bv : ∀ z ∈ v, z < cut.length
/-- What merging leaves. -/
def MOut (cut : List Int) (w w' : World) (g : Nat) (A u v Z : List Nat) : Prop := ∃ s' : List Nat, s'.Perm (u ++ v) ∧ s'.Pairwise (LT cut) ∧ NRow w' g (toI (A ++ (s' ++ Z))) ∧ But g w w'
theorem MG.less {cut : List Int} {u v : List Nat} (h : MG cut u v) {x y : Nat} (hx : x ∈ u) (hy : y ∈ v) (hc : cutC cut y x < 0) : LT cut y x := Or.inl ((cutC_neg cut y x).1 hc)
theorem MG.more {cut : List Int} {u v : List Nat} (h : MG cut u v) {x y : Nat} (hx : x ∈ u) (hy : y ∈ v) (hc : ¬ cutC cut y x < 0) : LT cut x y := by
  have h1 : ¬ cut.getD x 0 < cut.getD y 0 := fun e => hc ((cutC_neg cut y x).2 e)
  have h2 := h.ap x hx y hy
  unfold LT
  omega
theorem getD_mem0 {l : List Nat} {i : Nat} (h : i < l.length) : l.getD i 0 ∈ l := by
  rw [List.getD_eq_getElem?_getD, List.getElem?_eq_getElem h]
  exact List.getElem_mem h
theorem getD_get0 {l : List Nat} {i : Nat} (h : i < l.length) : l.getD i 0 = l[i] := by
  rw [List.getD_eq_getElem?_getD, List.getElem?_eq_getElem h]; rfl
theorem take_one {l : List Nat} {i : Nat} (h : i < l.length) : l.take (i + 1) = l.take i ++ [l.getD i 0] := by
  rw [getD_get0 h, List.take_add_one, List.getElem?_eq_getElem h]; rfl
theorem drop_one {l : List Nat} {i : Nat} (h : i < l.length) : l.drop i = l.getD i 0 :: l.drop (i + 1) := by
  rw [getD_get0 h, List.drop_eq_getElem_cons h]
theorem take_lo {cut : List Int} {v : List Nat} {x i : Nat} (hv : v.Pairwise (LT cut)) (hi : i < v.length) (h : LT cut (v.getD i 0) x) : ∀ z ∈ v.take (i + 1), LT cut z x := by
  rw [take_one hi]
  exact all_ahead (by rw [← take_one hi]; exact hv.sublist (List.take_sublist _ _)) h
theorem drop_hi {cut : List Int} {v : List Nat} {x i : Nat} (hv : v.Pairwise (LT cut)) (hi : i < v.length) (h : LT cut x (v.getD i 0)) : ∀ z ∈ v.drop i, LT cut x z := by
  have hs : (v.drop i).Pairwise (LT cut) := hv.sublist (List.drop_sublist _ _)
  rw [drop_one hi] at hs ⊢
  intro z hz
  rcases List.mem_cons.1 hz with rfl | hz
  · exact h
  · exact h.trans ((List.pairwise_cons.1 hs).1 z hz)
theorem row_at (A u R : List Nat) {i : Nat} (h : i < u.length) : (toI (A ++ (u ++ R))).getD (A.length + i) 0 = ((u.getD i 0 : Nat) : Int) := by
  rw [toI_app, getD_app, toI_len, if_neg (by omega), show A.length + i - A.length = i by omega, toI_app, getD_app, toI_len, if_pos h]
  simp [toI, List.getD_eq_getElem?_getD, List.getElem?_map, List.getElem?_eq_getElem h]
/-- Whoever stands ahead of i in u comes ahead of whoever stands from j on in v. -/
theorem cross {cut : List Int} {u v : List Nat} (hu : u.Pairwise (LT cut)) (hv : v.Pairwise (LT cut)) {i j : Nat} (hi : i ≤ u.length) (h : 0 < i → j < v.length → LT cut (u.getD (i - 1) 0) (v.getD j 0)) : ∀ x ∈ u.take i, ∀ y ∈ v.drop j, LT cut x y := by
  intro x hx y hy
  have hi0 : 0 < i := by rcases i with _ | i; (· simp at hx); (· omega)
  have hj : j < v.length := by
    rcases Nat.lt_or_ge j v.length with h | h
    · exact h
    · rw [List.drop_eq_nil_of_le h] at hy; simp at hy
  have h0 := h hi0 hj
  have h1 := take_lo (x := v.getD j 0) hu (show i - 1 < u.length by omega) h0 x (by rw [show i - 1 + 1 = i by omega]; exact hx)
  have h2 : ∀ z ∈ v.drop j, LT cut x z := drop_hi hv hj h1
  exact h2 y hy
/-- Both halves sorted, and one ahead of the other. -/
theorem halves {cut : List Int} {u v s1 s2 : List Nat} {i j : Nat} (hu : u.Pairwise (LT cut)) (hv : v.Pairwise (LT cut)) (h1 : s1.Perm (u.take i ++ v.take j)) (h2 : s2.Perm (u.drop i ++ v.drop j)) (p1 : s1.Pairwise (LT cut)) (p2 : s2.Pairwise (LT cut))
    (hx : ∀ x ∈ u.take i, ∀ y ∈ v.drop j, LT cut x y) (hy : ∀ x ∈ v.take j, ∀ y ∈ u.drop i, LT cut x y) : (s1 ++ s2).Perm (u ++ v) ∧ (s1 ++ s2).Pairwise (LT cut) := by
  constructor
  · refine (h1.append h2).trans ?_
    have e : u ++ v = (u.take i ++ u.drop i) ++ (v.take j ++ v.drop j) := by rw [List.take_append_drop, List.take_append_drop]
    rw [e, List.append_assoc, List.append_assoc]
    refine List.Perm.append_left _ ?_
    rw [← List.append_assoc, ← List.append_assoc]
    exact List.Perm.append_right _ List.perm_append_comm
  · rw [List.pairwise_append]
    refine ⟨p1, p2, fun x hx1 y hy1 => ?_⟩
    have a1 := h1.mem_iff.1 hx1
    have a2 := h2.mem_iff.1 hy1
    have su := hu
    have sv := hv
    rw [← List.take_append_drop i u] at su
    rw [← List.take_append_drop j v] at sv
    rcases List.mem_append.1 a1 with a1 | a1 <;> rcases List.mem_append.1 a2 with a2 | a2
    · exact (List.pairwise_append.1 su).2.2 x a1 y a2
    · exact hx x a1 y a2
    · exact hy x a1 y a2
    · exact (List.pairwise_append.1 sv).2.2 x a1 y a2
theorem MG.parts {cut : List Int} {u v : List Nat} (h : MG cut u v) {u' v' : List Nat} (hu : u'.Sublist u) (hv : v'.Sublist v) : MG cut u' v' :=
  ⟨h.su.sublist hu, h.sv.sublist hv, fun x hx y hy => h.ap x (hu.subset hx) y (hv.subset hy), fun z hz => h.bu z (hu.subset hz), fun z hz => h.bv z (hv.subset hz)⟩
end Go.Proofs.Ytojmnfckijgofaa
