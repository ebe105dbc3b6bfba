/-
  The contract of math/bits.Div64 where the high word is not 0.
-/
import Derived.Test.YtiolkeipgpkbmaaGreatDoorZg2
import Derived.Test.YtiolkeipgpkbmaaGreatDoorRows
import Derived.WalkKit
import Derived.WalkSpells
import Derived.Laws.Bits64b
import Derived.Lib.Strings
import Derived.Lib.Slices
import Derived.Lib.Small
import Derived.Lib.Walk
import Derived.Lib.BitFns
import Derived.Lib.Tables
import Derived.Lib.ItoaNum
import Derived.Deep.QuietTactic
import Derived.BigQuiet
import Derived.Below
namespace Go.Proofs.YtiolkeipgpkbmaaGreatDoor
set_option linter.unusedVariables false
set_option linter.unusedSimpArgs false
open Go.RowKit Go.Lib

abbrev decLT (cut : List Int) (i j : Nat) : Decidable (LT cut i j) := by unfold LT; exact inferInstance
/-- How many were cut more. -/
def rank (cut : List Int) (i : Nat) : Nat := (List.range cut.length).countP fun j => @decide (LT cut j i) (decLT cut j i)
theorem LT.asymm {cut : List Int} {i j : Nat} (h : LT cut i j) : ¬ LT cut j i := by unfold LT at *; omega
theorem LT.irrefl (cut : List Int) (i : Nat) : ¬ LT cut i i := by unfold LT; omega
theorem rank_pos {cut : List Int} {l : List Nat} (hl : l.Pairwise (LT cut)) {p : Nat} (hp : p < l.length) : (l.countP fun j => @decide (LT cut j l[p]) (decLT cut j l[p])) = p := by
  have e : l = l.take p ++ (l[p] :: l.drop (p + 1)) := by rw [← List.drop_eq_getElem_cons hp, List.take_append_drop]
  have hs := hl
  rw [e] at hs
  obtain ⟨s1, s2, s3⟩ := List.pairwise_append.1 hs
  have s4 := (List.pairwise_cons.1 s2).1
  generalize hx : l[p] = x at *
  rw [e, List.countP_append, List.countP_cons]
  have c1 : (l.take p).countP (fun j => @decide (LT cut j x) (decLT cut j x)) = p := by
    rw [List.countP_eq_length.2 (fun a ha => by simpa using s3 a ha x (by simp)), List.length_take]
    omega
  have c2 : (l.drop (p + 1)).countP (fun j => @decide (LT cut j x) (decLT cut j x)) = 0 := by
    rw [List.countP_eq_zero]
    intro a ha
    simpa using (s4 a ha).asymm
  rw [c1, c2]
  simp [LT.irrefl]
theorem take_rank {cut : List Int} {l : List Nat} (h1 : l.Perm (List.range cut.length)) (h2 : l.Pairwise (LT cut)) {i : Nat} (hi : i < cut.length) (k : Nat) : i ∈ l.take k ↔ rank cut i < k := by
  have hr : ∀ p (hp : p < l.length), rank cut l[p] = p := fun p hp => by
    unfold rank
    rw [← h1.countP_eq]
    exact rank_pos h2 hp
  constructor
  · intro h
    obtain ⟨q, hq, e⟩ := List.getElem_of_mem h
    rw [List.length_take] at hq
    rw [List.getElem_take] at e
    rw [← e, hr q (by omega)]
    omega
  · intro h
    have hm : i ∈ l := h1.mem_iff.2 (List.mem_range.2 hi)
    obtain ⟨p, hp, e⟩ := List.getElem_of_mem hm
    have hpk : p < k := by rw [← hr p hp, e]; exact h
    have hq : p < (l.take k).length := by rw [List.length_take]; omega
    have := List.getElem_mem hq
    rwa [List.getElem_take, e] at this
/-- There is such an order. -/
theorem order_ex (cut : List Int) : ∃ l : List Nat, l.Perm (List.range cut.length) ∧ l.Pairwise (LT cut) := by
  let le : Nat → Nat → Bool := fun i j => @decide (¬ LT cut j i) (@instDecidableNot _ (decLT cut j i))
  refine ⟨(List.range cut.length).mergeSort le, List.mergeSort_perm _ _, ?_⟩
  have h1 := List.pairwise_mergeSort (le := le) (fun a b c => by
    simp only [le, decide_eq_true_eq]
    unfold LT
    omega) (fun a b => by
    simp only [le, Bool.or_eq_true, decide_eq_true_eq]
    unfold LT
    omega) (List.range cut.length)
  have h2 : ((List.range cut.length).mergeSort le).Pairwise (· ≠ ·) := (List.mergeSort_perm (List.range cut.length) le).symm.nodup List.nodup_range
  refine (h1.and h2).imp ?_
  rintro a b ⟨p1, p2⟩
  simp only [le, decide_eq_true_eq] at p1
  unfold LT at *
  omega

/-- What each is due, in whole ones. -/
def partL (T : Int) (ws : List Int) : List Int := ws.map fun x => T * x / ws.sum
/-- What was cut off, in parts of all weights. -/
def cutL (T : Int) (ws : List Int) : List Int := ws.map fun x => T * x % ws.sum
/-- What is left. -/
def leftI (T : Int) (ws : List Int) : Int := T - (partL T ws).sum
/-- Who gets one more. -/
def moreI (T : Int) (ws : List Int) (i : Nat) : Int := if (rank (cutL T ws) i : Int) < leftI T ws then 1 else 0
def sizeI (t : Int) : Int := if t < 0 then -t else t
/-- A share. -/
def shareI (t : Int) (ws : List Int) (i : Nat) : Int := if t < 0 then -((partL (sizeI t) ws).getD i 0 + moreI (sizeI t) ws i) else (partL (sizeI t) ws).getD i 0 + moreI (sizeI t) ws i
/-- What is wrong with weights. -/
def shBad (ws : List Int) : Int := if 40 < ws.length then 4 else if ws.any (fun x => decide (x < 0 ∨ 1000000000 < x)) = true then 1 else if ws.sum = 0 then 6 else 0

theorem partL_len (T : Int) (ws : List Int) : (partL T ws).length = ws.length := by simp [partL]
theorem cutL_len (T : Int) (ws : List Int) : (cutL T ws).length = ws.length := by simp [cutL]
theorem partL_at (T : Int) (ws : List Int) {i : Nat} (h : i < ws.length) : (partL T ws).getD i 0 = T * ws.getD i 0 / ws.sum := by
  simp [partL, List.getD_eq_getElem?_getD, List.getElem?_eq_getElem h]
theorem cutL_at (T : Int) (ws : List Int) {i : Nat} (h : i < ws.length) : (cutL T ws).getD i 0 = T * ws.getD i 0 % ws.sum := by
  simp [cutL, List.getD_eq_getElem?_getD, List.getElem?_eq_getElem h]
/-- All weights are right. -/
def GoodW (ws : List Int) : Prop := ws.length ≤ 40 ∧ (∀ x ∈ ws, 0 ≤ x ∧ x ≤ 1000000000) ∧ 0 < ws.sum
theorem sum_nonneg {l : List Int} (h : ∀ x ∈ l, 0 ≤ x) : 0 ≤ l.sum := by
  induction l with
  | nil => simp
  | cons y ys ih =>
    rw [List.sum_cons]
    have h1 := h y (by simp)
    have h2 := ih (fun x hx => h x (by simp [hx]))
    omega
theorem sum_le {l : List Int} {M : Int} (h : ∀ x ∈ l, x ≤ M) : l.sum ≤ M * l.length := by
  induction l with
  | nil => simp
  | cons y ys ih =>
    rw [List.sum_cons, List.length_cons]
    have h1 := h y (by simp)
    have h2 := ih (fun x hx => h x (by simp [hx]))
    have h3 : M * ((ys.length + 1 : Nat) : Int) = M * ys.length + M := by rw [Int.natCast_add, Int.mul_add]; simp
    omega
theorem mem_le_sum {l : List Int} (h : ∀ x ∈ l, 0 ≤ x) {x : Int} (hx : x ∈ l) : x ≤ l.sum := by
  induction l with
  | nil => simp at hx
  | cons y ys ih =>
    rw [List.sum_cons]
    have h1 := h y (by simp)
    have h2 := sum_nonneg (fun x hx => h x (List.mem_cons_of_mem y hx))
    rcases List.mem_cons.1 hx with rfl | hx
    · omega
    · have := ih (fun x hx => h x (List.mem_cons_of_mem y hx)) hx
      omega
theorem shBad_zero {ws : List Int} (h : shBad ws = 0) : GoodW ws := by
  unfold shBad at h
  by_cases h1 : 40 < ws.length
  · rw [if_pos h1] at h; exact absurd h (by decide)
  · rw [if_neg h1] at h
    by_cases h2 : ws.any (fun x => decide (x < 0 ∨ 1000000000 < x)) = true
    · rw [if_pos h2] at h; exact absurd h (by decide)
    · rw [if_neg h2] at h
      by_cases h3 : ws.sum = 0
      · rw [if_pos h3] at h; exact absurd h (by decide)
      · have h4 : ∀ x ∈ ws, 0 ≤ x ∧ x ≤ 1000000000 := fun x hx => by
          have : ¬ (x < 0 ∨ 1000000000 < x) := fun e => h2 (List.any_eq_true.2 ⟨x, hx, decide_eq_true e⟩)
          omega
        have h5 := sum_nonneg (fun x hx => (h4 x hx).1)
        exact ⟨by omega, h4, by omega⟩
theorem good_zero {ws : List Int} (h : GoodW ws) : shBad ws = 0 := by
  obtain ⟨h1, h2, h3⟩ := h
  unfold shBad
  rw [if_neg (by omega), if_neg, if_neg (by omega)]
  intro e
  obtain ⟨x, hx, e⟩ := List.any_eq_true.1 e
  have := h2 x hx
  simp only [decide_eq_true_eq] at e
  omega
/-- What was cut off is what is left, in parts of all weights. -/
theorem cut_sum (T S : Int) (ws : List Int) (hS : 0 < S) : (ws.map fun x => T * x % S).sum = T * ws.sum - S * (ws.map fun x => T * x / S).sum := by
  induction ws with
  | nil => simp
  | cons y ys ih =>
    simp only [List.map_cons, List.sum_cons]
    rw [ih, Int.emod_def, Int.mul_add, Int.mul_add]
    omega
theorem left_cut {T : Int} {ws : List Int} (h : GoodW ws) : (cutL T ws).sum = ws.sum * leftI T ws := by
  unfold cutL leftI partL
  rw [cut_sum T ws.sum ws h.2.2, Int.mul_sub, Int.mul_comm T]
theorem cut_bounds {T : Int} {ws : List Int} (h : GoodW ws) : ∀ x ∈ cutL T ws, 0 ≤ x ∧ x ≤ ws.sum - 1 := by
  intro x hx
  unfold cutL at hx
  obtain ⟨y, hy, rfl⟩ := List.mem_map.1 hx
  have := Int.emod_nonneg (T * y) (show ws.sum ≠ 0 by have := h.2.2; omega)
  have := Int.emod_lt_of_pos (T * y) h.2.2
  omega
theorem left_nonneg {T : Int} {ws : List Int} (h : GoodW ws) : 0 ≤ leftI T ws := by
  have h1 := sum_nonneg (fun x hx => (cut_bounds (T := T) h x hx).1)
  rw [left_cut h] at h1
  have h3 := h.2.2
  rcases Int.lt_or_le (leftI T ws) 0 with h2 | h2
  · have := Int.mul_neg_of_pos_of_neg h3 h2
    omega
  · exact h2
/-- How many were cut at all. -/
def someCut (cut : List Int) : Nat := cut.countP fun x => decide (0 < x)
theorem sum_cut_le (l : List Int) (M : Int) (hM : 0 ≤ M) (h : ∀ x ∈ l, 0 ≤ x ∧ x ≤ M) : l.sum ≤ M * (someCut l) := by
  induction l with
  | nil => simp [someCut]
  | cons y ys ih =>
    have h1 := h y (by simp)
    have h2 := ih (fun x hx => h x (by simp [hx]))
    unfold someCut at *
    rw [List.sum_cons, List.countP_cons]
    by_cases h3 : 0 < y
    · simp only [h3, decide_true, if_true]
      rw [Int.natCast_add, Int.mul_add]
      simp
      omega
    · simp only [h3, decide_false, Bool.false_eq_true, if_false, Nat.add_zero]
      omega
theorem left_le_cut {T : Int} {ws : List Int} (h : GoodW ws) : leftI T ws ≤ someCut (cutL T ws) := by
  have h1 := sum_cut_le (cutL T ws) (ws.sum - 1) (by have := h.2.2; omega) (cut_bounds h)
  rw [left_cut h] at h1
  have h3 := h.2.2
  have h4 := left_nonneg (T := T) h
  rcases Int.lt_or_le (someCut (cutL T ws) : Int) (leftI T ws) with h2 | h2
  · exfalso
    have h5 : ws.sum * leftI T ws ≥ ws.sum * ((someCut (cutL T ws) : Int) + 1) := Int.mul_le_mul_of_nonneg_left (by omega) (by omega)
    rw [Int.mul_add] at h5
    rw [Int.sub_mul] at h1
    omega
  · exact h2
theorem left_le {T : Int} {ws : List Int} (h : GoodW ws) : leftI T ws ≤ ws.length := by
  have h1 := left_le_cut (T := T) h
  have h2 : someCut (cutL T ws) ≤ (cutL T ws).length := List.countP_le_length
  rw [cutL_len] at h2
  omega
end Go.Proofs.YtiolkeipgpkbmaaGreatDoor

namespace Go.Proofs.YtiolkeipgpkbmaaGreatDoor
set_option linter.unusedVariables false
set_option linter.unusedSimpArgs false
open Go.RowKit Go.Lib

theorem rank_count (cut : List Int) (k : Nat) (hk : k ≤ cut.length) : ((List.range cut.length).countP fun i => decide (rank cut i < k)) = k := by
  obtain ⟨l, h1, h2⟩ := order_ex cut
  have hl : l.length = cut.length := by rw [h1.length_eq, List.length_range]
  rw [← h1.countP_eq]
  have hr : ∀ p (hp : p < l.length), rank cut l[p] = p := fun p hp => by
    unfold rank
    rw [← h1.countP_eq]
    exact rank_pos h2 hp
  rw [← List.take_append_drop k l, List.countP_append]
  have c1 : (l.take k).countP (fun i => decide (rank cut i < k)) = k := by
    rw [List.countP_eq_length.2, List.length_take]
    · omega
    · intro a ha
      obtain ⟨q, hq, e⟩ := List.getElem_of_mem ha
      rw [List.length_take] at hq
      rw [List.getElem_take] at e
      have := hr q (by omega)
      rw [e] at this
      simp only [decide_eq_true_eq]
      omega
  have c2 : (l.drop k).countP (fun i => decide (rank cut i < k)) = 0 := by
    rw [List.countP_eq_zero]
    intro a ha
    obtain ⟨q, hq, e⟩ := List.getElem_of_mem ha
    rw [List.length_drop] at hq
    rw [List.getElem_drop] at e
    have := hr (k + q) (by omega)
    rw [e] at this
    simp only [decide_eq_true_eq]
    omega
  rw [c1, c2, Nat.add_zero]
theorem sum_ones (p : Nat → Bool) (l : List Nat) : (l.map fun i => if p i = true then (1 : Int) else 0).sum = (l.countP p : Nat) := by
  induction l with
  | nil => simp
  | cons y ys ih =>
    rw [List.map_cons, List.sum_cons, ih, List.countP_cons]
    by_cases h : p y = true
    · simp only [h, if_true]; omega
    · simp only [h, Bool.false_eq_true, if_false]; omega
theorem sum_map_add (f g : Nat → Int) (l : List Nat) : (l.map fun i => f i + g i).sum = (l.map f).sum + (l.map g).sum := by
  induction l with
  | nil => simp
  | cons y ys ih => simp only [List.map_cons, List.sum_cons, ih]; omega
theorem sum_map_neg (f : Nat → Int) (l : List Nat) : (l.map fun i => -(f i)).sum = -(l.map f).sum := by
  induction l with
  | nil => simp
  | cons y ys ih => simp only [List.map_cons, List.sum_cons, ih]; omega
theorem range_getD (l : List Int) : (List.range l.length).map (fun i => l.getD i 0) = l := by
  apply List.ext_getElem
  · simp
  · intro i h1 h2
    simp [List.getD_eq_getElem?_getD, List.getElem?_eq_getElem h2]
/-- What is given out without a sign. -/
def grossI (T : Int) (ws : List Int) (i : Nat) : Int := (partL T ws).getD i 0 + moreI T ws i
theorem share_gross (t : Int) (ws : List Int) (i : Nat) : shareI t ws i = if t < 0 then -grossI (sizeI t) ws i else grossI (sizeI t) ws i := rfl
theorem gross_sum {T : Int} {ws : List Int} (h : GoodW ws) : ((List.range ws.length).map (grossI T ws)).sum = T := by
  have e : (List.range ws.length).map (grossI T ws) = (List.range ws.length).map (fun i => (partL T ws).getD i 0 + moreI T ws i) := rfl
  rw [e, sum_map_add]
  have e1 := range_getD (partL T ws)
  rw [partL_len] at e1
  rw [e1]
  have h0 := left_nonneg (T := T) h
  have h1 := left_le (T := T) h
  have e2 : (List.range ws.length).map (moreI T ws) = (List.range ws.length).map (fun i => if decide (rank (cutL T ws) i < (leftI T ws).toNat) = true then (1 : Int) else 0) := by
    apply List.map_congr_left
    intro i hi
    unfold moreI
    by_cases hc : (rank (cutL T ws) i : Int) < leftI T ws
    · rw [if_pos hc, if_pos (by simp only [decide_eq_true_eq]; omega)]
    · rw [if_neg hc, if_neg (by simp only [decide_eq_true_eq]; omega)]
  rw [e2, sum_ones]
  have e3 := rank_count (cutL T ws) (leftI T ws).toNat (by rw [cutL_len]; omega)
  rw [cutL_len] at e3
  rw [e3]
  unfold leftI at *
  omega
theorem more_bd (T : Int) (ws : List Int) (i : Nat) : 0 ≤ moreI T ws i ∧ moreI T ws i ≤ 1 := by unfold moreI; split <;> omega
theorem part_nonneg' {T : Int} {ws : List Int} (hT : 0 ≤ T) (h : GoodW ws) {i : Nat} (hi : i < ws.length) : 0 ≤ (partL T ws).getD i 0 := by
  rw [partL_at T ws hi]
  have hm : ws.getD i 0 ∈ ws := by rw [List.getD_eq_getElem?_getD, List.getElem?_eq_getElem hi]; exact List.getElem_mem hi
  exact Int.ediv_nonneg (Int.mul_nonneg hT (h.2.1 _ hm).1) (by have := h.2.2; omega)
theorem gross_nonneg {T : Int} {ws : List Int} (hT : 0 ≤ T) (h : GoodW ws) {i : Nat} (hi : i < ws.length) : 0 ≤ grossI T ws i := by
  have := part_nonneg' hT h hi
  have := more_bd T ws i
  unfold grossI
  omega
theorem gross_le {T : Int} {ws : List Int} (hT : 0 ≤ T) (h : GoodW ws) {i : Nat} (hi : i < ws.length) : grossI T ws i ≤ T := by
  have h1 := mem_le_sum (l := (List.range ws.length).map (grossI T ws)) (fun x hx => by
    obtain ⟨j, hj, rfl⟩ := List.mem_map.1 hx
    exact gross_nonneg hT h (List.mem_range.1 hj)) (List.mem_map.2 ⟨i, List.mem_range.2 hi, rfl⟩)
  rw [gross_sum h] at h1
  exact h1
theorem sizeI_nonneg (t : Int) : 0 ≤ sizeI t := by unfold sizeI; split <;> omega
theorem share_sum {t : Int} {ws : List Int} (h : GoodW ws) : ((List.range ws.length).map (shareI t ws)).sum = t := by
  by_cases ht : t < 0
  · have e : (List.range ws.length).map (shareI t ws) = (List.range ws.length).map (fun i => -(grossI (sizeI t) ws i)) := by
      apply List.map_congr_left
      intro i hi
      rw [share_gross, if_pos ht]
    rw [e, sum_map_neg, show (List.range ws.length).map (fun i => grossI (sizeI t) ws i) = (List.range ws.length).map (grossI (sizeI t) ws) from rfl, gross_sum h]
    unfold sizeI; rw [if_pos ht]; omega
  · have e : (List.range ws.length).map (shareI t ws) = (List.range ws.length).map (grossI (sizeI t) ws) := by
      apply List.map_congr_left
      intro i hi
      rw [share_gross, if_neg ht]
    rw [e, gross_sum h]
    unfold sizeI; rw [if_neg ht]
/-- Each share lies between nothing and all. -/
theorem share_bd {t : Int} {ws : List Int} (h : GoodW ws) {i : Nat} (hi : i < ws.length) : (0 ≤ t → 0 ≤ shareI t ws i ∧ shareI t ws i ≤ t) ∧ (t ≤ 0 → t ≤ shareI t ws i ∧ shareI t ws i ≤ 0) := by
  have h1 := gross_nonneg (sizeI_nonneg t) h hi
  have h2 := gross_le (sizeI_nonneg t) h hi
  rw [share_gross]
  unfold sizeI at *
  by_cases ht : t < 0
  · rw [if_pos ht] at *
    rw [if_pos ht]
    constructor <;> intro <;> omega
  · rw [if_neg ht] at *
    rw [if_neg ht]
    constructor <;> intro <;> omega
theorem rank_some {cut : List Int} {i : Nat} (h0 : cut.getD i 0 = 0) : someCut cut ≤ rank cut i := by
  have e := range_getD cut
  have e1 : someCut cut = (List.range cut.length).countP (fun j => decide (0 < cut.getD j 0)) := by
    unfold someCut
    conv => lhs; rw [← e]
    rw [List.countP_map]
    rfl
  rw [e1]
  unfold rank
  apply List.countP_mono_left
  intro j hj hp
  simp only [decide_eq_true_eq] at hp ⊢
  unfold LT
  rw [h0]
  omega
theorem gross_zero {T : Int} {ws : List Int} (h : GoodW ws) {i : Nat} (hi : i < ws.length) (h0 : ws.getD i 0 = 0) : grossI T ws i = 0 := by
  have c0 : (cutL T ws).getD i 0 = 0 := by rw [cutL_at T ws hi, h0]; simp
  have h1 := rank_some c0
  have h2 := left_le_cut (T := T) h
  unfold grossI moreI
  rw [partL_at T ws hi, h0, if_neg (by omega)]
  simp
theorem share_zero {t : Int} {ws : List Int} (h : GoodW ws) {i : Nat} (hi : i < ws.length) (h0 : ws.getD i 0 = 0) : shareI t ws i = 0 := by
  rw [share_gross, gross_zero h hi h0]
  split <;> rfl
theorem rank_mono {cut : List Int} {i k : Nat} (h : LT cut i k) : rank cut i ≤ rank cut k := by
  unfold rank
  apply List.countP_mono_left
  intro j hj hp
  simp only [decide_eq_true_eq] at hp ⊢
  exact hp.trans h
theorem gross_more {T : Int} {ws : List Int} (hT : 0 < T) (h : GoodW ws) {i k : Nat} (hi : i < ws.length) (hk : k < ws.length) (hw : ws.getD k 0 < ws.getD i 0) : grossI T ws k ≤ grossI T ws i := by
  have hS := h.2.2
  have h1 : T * ws.getD k 0 < T * ws.getD i 0 := Int.mul_lt_mul_of_pos_left hw hT
  have h2 : T * ws.getD k 0 / ws.sum ≤ T * ws.getD i 0 / ws.sum := Int.ediv_le_ediv hS (by omega)
  have b1 := more_bd T ws i
  have b2 := more_bd T ws k
  unfold grossI
  rw [partL_at T ws hi, partL_at T ws hk]
  by_cases h3 : T * ws.getD k 0 / ws.sum = T * ws.getD i 0 / ws.sum
  · have e1 := Int.mul_ediv_add_emod (T * ws.getD k 0) ws.sum
    have e2 := Int.mul_ediv_add_emod (T * ws.getD i 0) ws.sum
    rw [h3] at e1
    have h4 : LT (cutL T ws) i k := by
      unfold LT
      rw [cutL_at T ws hi, cutL_at T ws hk]
      omega
    have h5 := rank_mono h4
    have h6 : moreI T ws k ≤ moreI T ws i := by unfold moreI; split <;> split <;> omega
    omega
  · omega
theorem share_more {t : Int} {ws : List Int} (h : GoodW ws) {i k : Nat} (hi : i < ws.length) (hk : k < ws.length) (hw : ws.getD k 0 < ws.getD i 0) : (0 < t → shareI t ws k ≤ shareI t ws i) ∧ (t < 0 → shareI t ws i ≤ shareI t ws k) := by
  rw [share_gross, share_gross]
  constructor
  · intro ht
    rw [if_neg (by omega), if_neg (by omega)]
    exact gross_more (by unfold sizeI; rw [if_neg (by omega)]; omega) h hi hk hw
  · intro ht
    rw [if_pos ht, if_pos ht]
    have := gross_more (T := sizeI t) (by unfold sizeI; rw [if_pos ht]; omega) h hi hk hw
    omega
theorem sizeI_neg (t : Int) : sizeI (-t) = sizeI t := by unfold sizeI; split <;> split <;> omega
theorem share_neg {t : Int} {ws : List Int} (h : GoodW ws) {i : Nat} (hi : i < ws.length) : shareI (-t) ws i = -(shareI t ws i) := by
  by_cases h0 : t = 0
  · subst h0
    have := (share_bd (t := 0) h hi).1 (by omega)
    rw [Int.neg_zero]
    omega
  · rw [share_gross, share_gross, sizeI_neg]
    by_cases ht : t < 0
    · rw [if_pos ht, if_neg (by omega)]; omega
    · rw [if_neg ht, if_pos (by omega)]
/-- Weights that are all as many times as great. -/
def timesL (ws : List Int) (k : Int) : List Int := ws.map fun x => x * k
theorem times_sum (ws : List Int) (k : Int) : (timesL ws k).sum = ws.sum * k := by
  unfold timesL
  induction ws with
  | nil => simp
  | cons y ys ih => simp only [List.map_cons, List.sum_cons, ih, Int.add_mul]
theorem times_len (ws : List Int) (k : Int) : (timesL ws k).length = ws.length := by simp [timesL]
theorem times_part {T k : Int} {ws : List Int} (hk : 0 < k) : partL T (timesL ws k) = partL T ws := by
  unfold partL
  rw [times_sum]
  unfold timesL
  rw [List.map_map]
  apply List.map_congr_left
  intro x hx
  show T * (x * k) / (ws.sum * k) = _
  rw [← Int.mul_assoc, Int.mul_ediv_mul_of_pos_left _ _ hk]
theorem times_cut {T k : Int} {ws : List Int} (hk : 0 < k) : cutL T (timesL ws k) = (cutL T ws).map (· * k) := by
  unfold cutL
  rw [times_sum]
  unfold timesL
  rw [List.map_map, List.map_map]
  apply List.map_congr_left
  intro x hx
  show T * (x * k) % (ws.sum * k) = T * x % ws.sum * k
  rw [← Int.mul_assoc, Int.mul_comm (T * x) k, Int.mul_comm ws.sum k, Int.mul_emod_mul_of_pos _ _ hk, Int.mul_comm]
theorem times_LT {cut : List Int} {k : Int} (hk : 0 < k) (i j : Nat) : LT (cut.map (· * k)) i j ↔ LT cut i j := by
  have e : ∀ i, (cut.map (· * k)).getD i 0 = cut.getD i 0 * k := fun i => by
    rw [List.getD_eq_getElem?_getD, List.getD_eq_getElem?_getD, List.getElem?_map]
    cases cut[i]? <;> simp
  unfold LT
  rw [e i, e j]
  generalize cut.getD i 0 = a
  generalize cut.getD j 0 = b
  have h1 : b * k < a * k ↔ b < a := Int.mul_lt_mul_right hk
  have h2 : a * k = b * k ↔ a = b := Int.mul_eq_mul_right_iff (by omega)
  have h3 : a * k < b * k ↔ a < b := Int.mul_lt_mul_right hk
  constructor <;> intro h <;> omega
theorem times_rank {cut : List Int} {k : Int} (hk : 0 < k) (i : Nat) : rank (cut.map (· * k)) i = rank cut i := by
  unfold rank
  rw [List.length_map]
  congr 1
  funext j
  exact (@decide_eq_decide _ _ (decLT _ j i) (decLT _ j i)).2 (times_LT hk j i)
theorem times_share {t k : Int} {ws : List Int} (hk : 0 < k) (i : Nat) : shareI t (timesL ws k) i = shareI t ws i := by
  unfold shareI moreI leftI
  rw [times_part hk, times_cut hk, times_rank hk]
theorem times_bad {k : Int} {ws : List Int} (hk : 0 < k) (hk2 : k ≤ 1000) (h : ∀ x ∈ ws, 0 ≤ x ∧ x ≤ 1000000) : shBad (timesL ws k) = shBad ws := by
  unfold shBad
  rw [times_len, times_sum]
  have h1 : ws.any (fun x => decide (x < 0 ∨ 1000000000 < x)) = false := by
    rw [List.any_eq_false]
    intro x hx
    have := h x hx
    simp only [decide_eq_true_eq]
    omega
  have h2 : (timesL ws k).any (fun x => decide (x < 0 ∨ 1000000000 < x)) = false := by
    rw [List.any_eq_false]
    intro x hx
    unfold timesL at hx
    obtain ⟨y, hy, rfl⟩ := List.mem_map.1 hx
    have h3 := h y hy
    have h4 := Int.mul_nonneg h3.1 (Int.le_of_lt hk)
    have h5 : y * k ≤ 1000000 * 1000 := Int.mul_le_mul h3.2 hk2 (by omega) (by omega)
    simp only [decide_eq_true_eq]
    omega
  rw [h1, h2]
  have h3 : ws.sum * k = 0 ↔ ws.sum = 0 := by
    constructor
    · intro e
      rcases Int.mul_eq_zero.1 e with e | e
      · exact e
      · omega
    · intro e; rw [e]; simp
  simp only [h3]
theorem share_fact1 : shareI 10 [1, 1, 1] 0 = 4 ∧ shareI 10 [1, 1, 1] 1 = 3 ∧ shareI 10 [1, 1, 1] 2 = 3 ∧ shBad [1, 1, 1] = 0 := by decide
theorem share_fact2 : shareI 9 [1, 2] 0 = 3 ∧ shareI 9 [1, 2] 1 = 6 ∧ shBad [1, 2] = 0 := by decide
end Go.Proofs.YtiolkeipgpkbmaaGreatDoor

namespace Go.Proofs.YtiolkeipgpkbmaaGreatDoor.Math
set_option linter.unusedVariables false
/-- The invariant of one step of the long division: u < y, y = y1*b + y0. -/
structure DivSt (u u1 y1 y0 q r : Nat) : Prop where
  eq : u = q * y1 + r
  ge : (u * 4294967296 + u1) / (y1 * 4294967296 + y0) ≤ q

theorem div_start (u u1 y1 y0 : Nat) (h1 : 0 < y1) (hu1 : u1 < 4294967296) : DivSt u u1 y1 y0 (u / y1) (u % y1) := by
  refine ⟨?_, ?_⟩
  · have := Nat.div_add_mod u y1
    rw [Nat.mul_comm] at this; omega
  · have hy : 0 < y1 * 4294967296 + y0 := by omega
    rw [Nat.div_le_iff_le_mul_add_pred hy]
    have e := Nat.div_add_mod u y1
    have l := Nat.mod_lt u h1
    generalize u / y1 = q at *
    generalize u % y1 = r at *
    have e2 : (y1 * 4294967296 + y0) * q = y1 * q * 4294967296 + y0 * q := by
      rw [Nat.add_mul, Nat.mul_right_comm]
    rw [e2]
    generalize y1 * q = t at *
    generalize y0 * q = t0 at *
    omega

theorem quo_lt (u u1 y : Nat) (hu : u < y) (hu1 : u1 < 4294967296) : (u * 4294967296 + u1) / y < 4294967296 := by
  rw [Nat.div_lt_iff_lt_mul (by omega)]
  omega

/-- A round: the guess was too great, so one less is no less than the quotient. -/
theorem div_round (u u1 y1 y0 q r : Nat) (h : DivSt u u1 y1 y0 q r) (hu : u < y1 * 4294967296 + y0) (hu1 : u1 < 4294967296)
    (hc : 4294967296 ≤ q ∨ r * 4294967296 + u1 < q * y0) : 1 ≤ q ∧ DivSt u u1 y1 y0 (q - 1) (r + y1) := by
  have hq : (u * 4294967296 + u1) / (y1 * 4294967296 + y0) < q := by
    rcases hc with hc | hc
    · exact Nat.lt_of_lt_of_le (quo_lt u u1 _ hu hu1) hc
    · rw [Nat.div_lt_iff_lt_mul (by omega)]
      have e := h.eq
      have e2 : q * (y1 * 4294967296 + y0) = q * y1 * 4294967296 + q * y0 := by
        rw [Nat.mul_add, Nat.mul_assoc]
      rw [e2, e, Nat.add_mul, Nat.add_assoc]
      exact Nat.add_lt_add_left hc _
  have h1 : 1 ≤ q := Nat.lt_of_le_of_lt (Nat.zero_le _) hq
  refine ⟨h1, ?_, Nat.le_sub_one_of_lt hq⟩
  have e := h.eq
  obtain ⟨p, rfl⟩ : ∃ p, q = p + 1 := ⟨q - 1, by omega⟩
  simp only [Nat.add_sub_cancel]
  rw [Nat.add_mul] at e
  omega

theorem div_stop (u u1 y1 y0 q r : Nat) (h : DivSt u u1 y1 y0 q r) (hu : u < y1 * 4294967296 + y0)
    (hc : q * y0 ≤ r * 4294967296 + u1) : q = (u * 4294967296 + u1) / (y1 * 4294967296 + y0) := by
  refine Nat.le_antisymm ?_ h.ge
  rw [Nat.le_div_iff_mul_le (by omega)]
  have e := h.eq
  have e2 : q * (y1 * 4294967296 + y0) = q * y1 * 4294967296 + q * y0 := by
    rw [Nat.mul_add, Nat.mul_assoc]
  rw [e2]
  generalize q * y1 = t at *
  generalize q * y0 = t0 at *
  omega

theorem div_break (u u1 y1 y0 q r : Nat) (h : DivSt u u1 y1 y0 q r) (hu : u < y1 * 4294967296 + y0) (h0 : y0 < 4294967296)
    (hr : 4294967296 ≤ r) : q = (u * 4294967296 + u1) / (y1 * 4294967296 + y0) := by
  have hq : q < 4294967296 := by
    apply Classical.byContradiction
    intro hn
    have hn : 4294967296 ≤ q := by omega
    have e := h.eq
    have := Nat.mul_le_mul_right y1 hn
    generalize q * y1 = t at *
    omega
  refine div_stop u u1 y1 y0 q r h hu ?_
  have := Nat.mul_le_mul (Nat.le_of_lt hq) (Nat.le_of_lt h0)
  omega

theorem shift_split (lo P Q : Nat) (hPQ : P * Q = 18446744073709551616) : lo / Q * 18446744073709551616 + lo * P % 18446744073709551616 = lo * P := by
  have hP : 0 < P := by
    rcases Nat.eq_zero_or_pos P with h | h
    · rw [h, Nat.zero_mul] at hPQ; omega
    · exact h
  have e : lo * P / 18446744073709551616 = lo / Q := by
    rw [← hPQ, Nat.mul_comm P Q, Nat.mul_div_mul_right _ _ hP]
  have := Nat.div_add_mod (lo * P) 18446744073709551616
  rw [e] at this
  omega

theorem two_steps (U32 un1 un0 Y : Nat) (hY : 0 < Y) :
    (U32 * 18446744073709551616 + (un1 * 4294967296 + un0)) / Y = (U32 * 4294967296 + un1) / Y * 4294967296 + ((U32 * 4294967296 + un1) % Y * 4294967296 + un0) / Y ∧
    (U32 * 18446744073709551616 + (un1 * 4294967296 + un0)) % Y = ((U32 * 4294967296 + un1) % Y * 4294967296 + un0) % Y := by
  have e : U32 * 18446744073709551616 + (un1 * 4294967296 + un0) = ((U32 * 4294967296 + un1) % Y * 4294967296 + un0) + Y * ((U32 * 4294967296 + un1) / Y * 4294967296) := by
    have h := Nat.div_add_mod (U32 * 4294967296 + un1) Y
    rw [← Nat.mul_assoc]
    generalize Y * ((U32 * 4294967296 + un1) / Y) = t at *
    generalize (U32 * 4294967296 + un1) % Y = r at *
    omega
  rw [e, Nat.add_mul_div_left _ _ hY, Nat.add_mul_mod_self_left]
  exact ⟨Nat.add_comm _ _, rfl⟩

theorem div64_math (hi lo y P Q : Nat) (hPQ : P * Q = 18446744073709551616) (hy : 0 < y) :
    let U := hi * P + lo / Q
    let V := lo * P % 18446744073709551616
    let Y := y * P
    (U * 4294967296 + V / 4294967296) / Y * 4294967296 + ((U * 4294967296 + V / 4294967296) % Y * 4294967296 + V % 4294967296) / Y = (hi * 18446744073709551616 + lo) / y ∧
    ((U * 4294967296 + V / 4294967296) % Y * 4294967296 + V % 4294967296) % Y / P = (hi * 18446744073709551616 + lo) % y := by
  intro U V Y
  have hP : 0 < P := by
    rcases Nat.eq_zero_or_pos P with h | h
    · rw [h, Nat.zero_mul] at hPQ; omega
    · exact h
  have hY : 0 < Y := Nat.mul_pos hy hP
  have h2 := two_steps U (V / 4294967296) (V % 4294967296) Y hY
  have e : U * 18446744073709551616 + (V / 4294967296 * 4294967296 + V % 4294967296) = (hi * 18446744073709551616 + lo) * P := by
    have h1 := shift_split lo P Q hPQ
    have h3 : V / 4294967296 * 4294967296 + V % 4294967296 = V := Nat.div_add_mod' _ _
    rw [h3]
    show (hi * P + lo / Q) * 18446744073709551616 + lo * P % 18446744073709551616 = _
    rw [Nat.add_mul, Nat.add_mul, Nat.add_assoc, h1, Nat.mul_right_comm]
  rw [e] at h2
  rw [← h2.1, ← h2.2]
  refine ⟨Nat.mul_div_mul_right _ _ hP, ?_⟩
  rw [Nat.mul_mod_mul_right, Nat.mul_div_cancel _ hP]
/-- What 64 bits with a sign hold. -/
def I64 (x : Int) : Prop := -9223372036854775808 ≤ x ∧ x ≤ 9223372036854775807

/-- The two words of a sum. -/
def loW (s : Int) : Int := s % 18446744073709551616
def hiW (s : Int) : Int := s / 18446744073709551616 % 18446744073709551616
theorem loW_bd (s : Int) : 0 ≤ loW s ∧ loW s < 18446744073709551616 := by unfold loW; omega
theorem hiW_bd (s : Int) : 0 ≤ hiW s ∧ hiW s < 18446744073709551616 := by unfold hiW; omega
/-- a word of an int: itself, or 2^64 more. -/
theorem loW_add (s a : Int) : (loW s + loW a) % 18446744073709551616 = loW (s + a) := by unfold loW; omega
theorem hiW_add (s a : Int) (h : I64 a) : (hiW s + (loW (a / 9223372036854775808) + (loW s + loW a) / 18446744073709551616)) % 18446744073709551616 = hiW (s + a) := by
  unfold hiW loW; unfold I64 at h
  have key : (s + a) / 18446744073709551616 = s / 18446744073709551616 + a / 9223372036854775808 + (s % 18446744073709551616 + a % 18446744073709551616) / 18446744073709551616 := by
    by_cases h0 : a < 0
    · have e1 : a / 9223372036854775808 = -1 := by omega
      have e2 : a % 18446744073709551616 = a + 18446744073709551616 := by omega
      rw [e1, e2]; omega
    · have e1 : a / 9223372036854775808 = 0 := by omega
      have e2 : a % 18446744073709551616 = a := by omega
      rw [e1, e2]; omega
  rw [key]
  generalize (s % 18446744073709551616 + a % 18446744073709551616) / 18446744073709551616 = c
  generalize s / 18446744073709551616 = p
  generalize a / 9223372036854775808 = q
  omega
/-- The carry of two words. -/
def cW (s a : Int) : Int := (loW s + loW a) / 18446744073709551616
theorem cW_bd (s a : Int) : 0 ≤ cW s a ∧ cW s a ≤ 1 := by have := loW_bd s; have := loW_bd a; unfold cW; omega
theorem hiW_step (s a : Int) (h : I64 a) : (hiW s + (a / 9223372036854775808 % 18446744073709551616 + cW s a) % 18446744073709551616) % 18446744073709551616 = hiW (s + a) := by
  rw [← hiW_add s a h]
  unfold cW
  generalize (loW s + loW a) / 18446744073709551616 = c
  unfold loW
  generalize a / 9223372036854775808 = q
  generalize hiW s = p
  omega
theorem sum_fits (s : Int) (h : -170141183460469231731687303715884105728 ≤ s ∧ s < 170141183460469231731687303715884105728) (x : Int)
    (hx : x = if loW s < 9223372036854775808 then loW s else loW s - 18446744073709551616) :
    (hiW s = loW (x / 9223372036854775808) ↔ I64 s) ∧ (I64 s → x = s) := by
  unfold hiW loW at *; unfold I64
  split at hx <;> omega
/-- One more, where what was cut off is more than a half, or is it and the whole is odd. -/
def upOf (w r d : Int) : Int := if 2 * r > d ∨ (2 * r = d ∧ w % 2 = 1) then 1 else 0
/-- The size of a part, rounded. -/
def partOf (m n d : Int) : Int := m * n / d + upOf (m * n / d) (m * n % d) d
def absI (a : Int) : Int := if a < 0 then -a else a
def ratioOk (a n d : Int) : Prop := partOf (absI a) n d ≤ 9223372036854775807 + (if a < 0 then 1 else 0)
def ratioV (a n d : Int) : Int := if a < 0 then -(partOf (absI a) n d) else partOf (absI a) n d

theorem absI_nonneg (a : Int) : 0 ≤ absI a := by unfold absI; split <;> omega
theorem absI_neg (a : Int) : absI (-a) = absI a := by unfold absI; split <;> split <;> omega
theorem upOf_bd (w r d : Int) : 0 ≤ upOf w r d ∧ upOf w r d ≤ 1 := by unfold upOf; split <;> omega

theorem near (m n d : Int) (hd : 1 ≤ d) : let t := partOf m n d
    2 * (m * n - t * d) ≤ d ∧ -d ≤ 2 * (m * n - t * d) ∧ ((2 * (m * n - t * d) = d ∨ 2 * (m * n - t * d) = -d) → t % 2 = 0) := by
  intro t
  have e := Int.mul_ediv_add_emod (m * n) d
  have l0 := Int.emod_nonneg (m * n) (b := d) (by omega)
  have l1 := Int.emod_lt_of_pos (m * n) (b := d) (by omega)
  have ht : t = m * n / d + upOf (m * n / d) (m * n % d) d := rfl
  generalize m * n = p at *
  generalize p / d = w at *
  generalize p % d = r at *
  have hm : t * d = d * w + upOf w r d * d := by rw [ht, Int.add_mul, Int.mul_comm w d]
  rw [hm]
  clear_value t
  subst ht
  generalize d * w = dw at *
  unfold upOf
  split
  · rename_i h
    rw [Int.one_mul]
    omega
  · rename_i h
    rw [Int.zero_mul]
    omega

theorem part_all (m d : Int) (hd : 1 ≤ d) : partOf m d d = m := by
  have e1 : m * d / d = m := Int.mul_ediv_cancel m (by omega)
  have e2 : m * d % d = 0 := Int.mul_emod_left m d
  unfold partOf upOf
  rw [e1, e2, if_neg (by omega)]
  omega

theorem part_bd (m n d : Int) (h0 : 0 ≤ m) (h1 : m ≤ 1000000000) (h2 : 0 ≤ n) (h3 : n ≤ 1000000000) (hd : 1 ≤ d) : 0 ≤ partOf m n d ∧ partOf m n d ≤ 1000000000000000001 := by
  have a := Int.mul_nonneg h0 h2
  have b : m * n ≤ 1000000000 * 1000000000 := Int.mul_le_mul h1 h3 h2 (by omega)
  have c := Int.ediv_nonneg a (by omega : (0 : Int) ≤ d)
  have e : m * n / d ≤ m * n := Int.ediv_le_self _ a
  have u := upOf_bd (m * n / d) (m * n % d) d
  unfold partOf
  omega

theorem part_nonneg (m n d : Int) (h0 : 0 ≤ m) (h2 : 0 ≤ n) (hd : 1 ≤ d) : 0 ≤ partOf m n d := by
  have a := Int.mul_nonneg h0 h2
  have c := Int.ediv_nonneg a (by omega : (0 : Int) ≤ d)
  have u := upOf_bd (m * n / d) (m * n % d) d
  unfold partOf
  omega

/-- MoneyRounds' facts. -/
theorem rounds_facts (a n d : Int) (ha : -1000000000 ≤ a ∧ a ≤ 1000000000) (hn : 0 ≤ n ∧ n ≤ 1000000000) (hd : 1 ≤ d) :
    ratioOk a n d ∧ ratioOk (-a) n d ∧ ratioOk a d d ∧ ratioV (-a) n d = -ratioV a n d ∧ ratioV a d d = a ∧
    2 * (a * n - ratioV a n d * d) ≤ d ∧ -d ≤ 2 * (a * n - ratioV a n d * d) ∧ ((2 * (a * n - ratioV a n d * d) = d ∨ 2 * (a * n - ratioV a n d * d) = -d) → ratioV a n d % 2 = 0) := by
  have hm0 := absI_nonneg a
  have hm1 : absI a ≤ 1000000000 := by unfold absI; split <;> omega
  have b := part_bd (absI a) n d hm0 hm1 hn.1 hn.2 hd
  have p := part_all (absI a) d hd
  have nr := near (absI a) n d hd
  simp only at nr
  refine ⟨?_, ?_, ?_, ?_, ?_, ?_⟩
  · unfold ratioOk; split <;> omega
  · unfold ratioOk; rw [absI_neg]; split <;> omega
  · unfold ratioOk; rw [p]; split <;> omega
  · unfold ratioV; rw [absI_neg]
    by_cases h : a < 0
    · rw [if_pos h, if_neg (by omega)]; omega
    · rw [if_neg h]
      by_cases h' : -a < 0
      · rw [if_pos h']
      · have : a = 0 := by omega
        rw [if_neg h']
        subst this
        have : partOf (absI 0) n d = 0 := by
          unfold absI partOf upOf; rw [if_neg (by omega)]; simp; omega
        omega
  · unfold ratioV; rw [p]; unfold absI; split <;> omega
  · unfold ratioV
    have e : a * n = if a < 0 then -(absI a * n) else absI a * n := by
      unfold absI; split
      · rw [Int.neg_mul, Int.neg_neg]
      · rfl
    rw [e]
    generalize absI a * n = x at *
    generalize hpt : partOf (absI a) n d = t at *
    by_cases h : a < 0
    · simp only [if_pos h, Int.neg_mul]
      generalize t * d = y at *
      omega
    · simp only [if_neg h]
      generalize t * d = y at *
      omega
end Go.Proofs.YtiolkeipgpkbmaaGreatDoor.Math

namespace Go.Proofs.YtiolkeipgpkbmaaGreatDoor
set_option linter.unusedVariables false
open Go.RowKit Go.Lib Math

theorem tab_size : Lib.len8tab.size = 256 := by kernel_rfl

theorem len_tab (t : Nat) (h : t < Lib.len8tab.size) : ((Lib.len8tab[t]'h).toNat : Int) = Lib.bitLen t := by
  have h2 : t < 256 := by rw [tab_size] at h; exact h
  have e := Lib.len8_of (t : Int) (by omega) (by omega)
  unfold Lib.len8 at e
  rw [Int.toNat_natCast, getElem?_pos Lib.len8tab t h] at e
  exact e

theorem len_way (x y : Int) (k K : Nat) (hK : K = 2 ^ k) (hy : y = x / (K : Int)) (h1 : (K : Int) ≤ x) (h2 : x < K * 256) (h3 : x < 18446744073709551616) (h : y.toNat < Lib.len8tab.size) (hk : k ≤ 56) :
    wrap64 (k + wrap64 ((Lib.len8tab[y.toNat]'h).toNat : Int)) = (Lib.bitLen x.toNat : Int) := by
  rw [len_tab]
  have h' : y.toNat < 256 := by rw [tab_size] at h; exact h
  clear h
  have hKp : 0 < K := by rw [hK]; exact Nat.two_pow_pos k
  obtain ⟨x, rfl⟩ := Int.eq_ofNat_of_zero_le (by omega : 0 ≤ x)
  have e : y = ((x / K : Nat) : Int) := by rw [hy, Int.natCast_ediv]
  have hl := Lib.bitLen_le8' (y.toNat : Int) (by omega) (by omega)
  rw [Int.toNat_natCast] at hl
  have e3 : y.toNat = x / K := by rw [e, Int.toNat_natCast]
  rw [e3] at hl ⊢
  have h3' : x < 18446744073709551616 := by omega
  have h1' : K ≤ x := by omega
  have := Lib.bitLen_shift k x (by rw [← hK]; exact h1') h3'
  rw [← hK] at this
  rw [Int.toNat_natCast, this]
  generalize Lib.bitLen (x / K) = b at *
  clear this e3 e hy h1 h2 h3 h1' h3' hK hKp
  unfold wrap64
  omega

set_option maxHeartbeats 2000000 in
set_option maxRecDepth 100000 in
theorem len64_any (x : Int) (w : World) (h0 : 1 ≤ x) (h1 : x < 18446744073709551616) :
    Calls Tryz.prog 134 #[.int .u64 x] w fun e w' => e = .returned (.int .i64 (Lib.bitLen x.toNat)) ∧ w' = w := by
  have hs := tab_size
  go_enter Tryz.func134, Tryz.ntmps134
  go_wp2
  all_goals (go_ret; refine ⟨congrArg Ending.returned (congrArg (Value.int IntKind.i64) ?_), rfl⟩)
  · exact len_way x _ 56 72057594037927936 (by decide) (by omega) (by omega) (by omega) h1 _ (by omega)
  · exact len_way x _ 48 281474976710656 (by decide) (by omega) (by omega) (by omega) h1 _ (by omega)
  · exact len_way x _ 40 1099511627776 (by decide) (by omega) (by omega) (by omega) h1 _ (by omega)
  · exact len_way x _ 32 4294967296 (by decide) (by omega) (by omega) (by omega) h1 _ (by omega)
  · exact len_way x _ 24 16777216 (by decide) (by omega) (by omega) (by omega) h1 _ (by omega)
  · exact len_way x _ 16 65536 (by decide) (by omega) (by omega) (by omega) h1 _ (by omega)
  · exact len_way x _ 8 256 (by decide) (by omega) (by omega) (by omega) h1 _ (by omega)
  · have := len_way x x 0 1 (by decide) (by omega) (by omega) (by omega) h1 (by rw [hs]; omega) (by omega)
    simpa using this

theorem lead_any (x : Int) (w : World) (h0 : 1 ≤ x) (h1 : x < 18446744073709551616) :
    Calls Tryz.prog 129 #[.int .u64 x] w fun e w' => e = .returned (.int .i64 (64 - Lib.bitLen x.toNat)) ∧ w' = w := by
  have hl := Lib.bitLen_le x.toNat 64 (by omega) (by omega)
  generalize hb : Lib.bitLen x.toNat = b at *
  have Hb : Hid (Lib.bitLen x.toNat = b) := hb
  clear hb
  go_enter Tryz.func129, Tryz.ntmps129
  go_wp2_with fail
  refine (len64_any _ _ h0 h1).mono ?_
  rintro e w' ⟨rfl, hw⟩
  rw [hw, Hb.out]; clear hw w'
  go_wp2
  go_ret
  exact ⟨rfl, rfl⟩
end Go.Proofs.YtiolkeipgpkbmaaGreatDoor

namespace Go.Proofs.YtiolkeipgpkbmaaGreatDoor
set_option linter.unusedVariables false
open Go.RowKit Math

/-- One step of the long division, as the loops of math/bits.Div64 take it: the guess in the first slot, what is left in the second. -/
theorem step_yes {u v y1 y0 q r : Nat} (h : DivSt u v y1 y0 q r) (hu : u < y1 * 4294967296 + y0) (hv : v < 4294967296) (hc : 4294967296 ≤ q ∨ (r : Int) * 4294967296 + v < (q : Int) * y0) :
    1 ≤ q ∧ DivSt u v y1 y0 (q - 1) (r + y1) := div_round u v y1 y0 q r h hu hv (hc.imp id (fun h => by
      have e : ((r * 4294967296 + v : Nat) : Int) < ((q * y0 : Nat) : Int) := by rw [Int.natCast_add, Int.natCast_mul, Int.natCast_mul]; exact h
      exact Int.ofNat_lt.1 e))
theorem step_stop {u v y1 y0 q r : Nat} (h : DivSt u v y1 y0 q r) (hu : u < y1 * 4294967296 + y0) (hc : (q : Int) * y0 ≤ (r : Int) * 4294967296 + v) : q = (u * 4294967296 + v) / (y1 * 4294967296 + y0) := div_stop u v y1 y0 q r h hu (by
      have e : ((q * y0 : Nat) : Int) ≤ ((r * 4294967296 + v : Nat) : Int) := by rw [Int.natCast_add, Int.natCast_mul, Int.natCast_mul]; exact hc
      exact Int.ofNat_le.1 e)

set_option maxHeartbeats 4000000 in
set_option maxRecDepth 100000 in
theorem div64_core (hi lo y : Int) (b : Nat) (w : World) (h0 : 1 ≤ hi) (h1 : hi < y) (h2 : y < 18446744073709551616) (h3 : 0 ≤ lo) (h4 : lo < 18446744073709551616)
    (hl : b ≤ 64) (hl1 : 1 ≤ b) (Hb : Hid (Lib.bitLen y.toNat = b))
    (Y H Lq u V y1 y0 v1 v0 q r u2 q2 r2 R : Nat)
    (rY : IntKind.u64.wrap (y * 2 ^ (64 - b)) = Y) (rH : IntKind.u64.wrap (hi * 2 ^ (64 - b)) = H) (rL : lo / 2 ^ (64 - (64 - b)) = Lq) (rU : bits .or .u64 H Lq = u) (rV : IntKind.u64.wrap (lo * 2 ^ (64 - b)) = V)
    (rY1 : (Y : Int) / 4294967296 = y1) (rY0 : bits .and .u64 (Y : Int) 4294967295 = y0) (rV1 : (V : Int) / 4294967296 = v1) (rV0 : bits .and .u64 (V : Int) 4294967295 = v0)
    (b1 : (2147483648 : Int) ≤ y1) (b2 : (y1 : Int) < 4294967296) (b3 : (y0 : Int) < 4294967296) (b4 : (v1 : Int) < 4294967296) (b5 : (v0 : Int) < 4294967296) (b6 : (u : Int) < 18446744073709551616)
    (rq : IntKind.u64.wrap ((u : Int) / y1) = q) (rr : IntKind.u64.wrap (u - IntKind.u64.wrap (q * y1)) = r)
    (Hu : Hid (u < y1 * 4294967296 + y0)) (Hs : Hid (DivSt u v1 y1 y0 q r)) (hr : (r : Int) < 4294967296) (hq : (q : Int) < 18446744073709551616)
    (Q : Nat) (HQ : Hid (Q = (u * 4294967296 + v1) / (y1 * 4294967296 + y0))) (hQ : (Q : Int) < 4294967296)
    (rW : IntKind.u64.wrap (IntKind.u64.wrap (IntKind.u64.wrap ((u : Int) * 4294967296) + v1) - IntKind.u64.wrap ((Q : Int) * Y)) = u2) (b7 : (u2 : Int) < 18446744073709551616)
    (rq2 : IntKind.u64.wrap ((u2 : Int) / y1) = q2) (rr2 : IntKind.u64.wrap (u2 - IntKind.u64.wrap (q2 * y1)) = r2)
    (Hu2 : Hid (u2 < y1 * 4294967296 + y0)) (Hs2 : Hid (DivSt u2 v0 y1 y0 q2 r2)) (hr2 : (r2 : Int) < 4294967296) (hq2 : (q2 : Int) < 18446744073709551616)
    (Q2 : Nat) (HQ2 : Hid (Q2 = (u2 * 4294967296 + v0) / (y1 * 4294967296 + y0))) (hQ2 : (Q2 : Int) < 4294967296)
    (rR : IntKind.u64.wrap (IntKind.u64.wrap (IntKind.u64.wrap ((u2 : Int) * 4294967296) + v0) - IntKind.u64.wrap ((Q2 : Int) * Y)) = R) :
    Calls Tryz.prog 102 #[.int .u64 hi, .int .u64 lo, .int .u64 y] w fun e w' => e = .returned (.tuple #[.int .u64 ((Q : Int) * 4294967296 + Q2), .int .u64 ((R : Int) / 2 ^ (64 - b))]) ∧ w' = w := by
  have d0 : (y == 0) = false := by simp; omega
  have d1 : (hi == 0) = false := by simp; omega
  have d2 : ¬ y ≤ hi := by omega
  have d3 : ((y1 : Int) == 0) = false := by simp; omega
  go_enter Tryz.func102, Tryz.ntmps102
  go_wp2_with fail
  refine (lead_any _ _ (by omega) h2).mono ?_
  rintro e w' ⟨rfl, hw⟩
  rw [hw, Hb.out]; clear hw w'
  go_wp2
  clear rY rH rL rU rV rY1 rY0 rV1 rV0 rq rr
  go_loop [15, 16] (fun tq tr => ∃ q r : Nat, (r : Int) < 4294967296 ∧ (q : Int) < 18446744073709551616 ∧ tq = .int .u64 q ∧ tr = .int .u64 r ∧ Hid (DivSt u v1 y1 y0 q r)) (fun tq _ => (RowKit.intOf tq).toNat)
  case atStart => exact ⟨q, r, hr, hq, rfl, rfl, Hs⟩
  case round =>
    obtain ⟨p, s, hs, hp, rfl, rfl, Hp⟩ := hrel
    have hexit : Hid (∀ n : Nat, n = (u * 4294967296 + v1) / (y1 * 4294967296 + y0) → n = Q) := fun n h => h.trans HQ.out.symm
    by_cases c1 : (4294967296 : Int) ≤ p
    · have S := step_yes Hp.out Hu.out (by omega) (.inl (by omega))
      have S1 : (1 : Int) ≤ p := by omega
      have S2 : Hid (DivSt u v1 y1 y0 (p - 1) (s + y1)) := S.2
      clear S Hp
      by_cases c2 : (4294967296 : Int) ≤ s + y1
      · have E := hexit.out _ (div_break u v1 y1 y0 _ _ S2.out Hu.out (by omega) (by omega))
        have e1 : (p : Int) - 1 = Q := by omega
        clear E
        clear S2
        go_wp2
        clear rW rq2 rr2
        go_loop [18, 16] (fun tq tr => ∃ q r : Nat, (r : Int) < 4294967296 ∧ (q : Int) < 18446744073709551616 ∧ tq = .int .u64 q ∧ tr = .int .u64 r ∧ Hid (DivSt u2 v0 y1 y0 q r)) (fun tq _ => (RowKit.intOf tq).toNat)
        case atStart => exact ⟨q2, r2, hr2, hq2, rfl, rfl, Hs2⟩
        case round =>
          obtain ⟨m, t, ht, hm, rfl, rfl, Hm⟩ := hrel
          have hexit2 : Hid (∀ n : Nat, n = (u2 * 4294967296 + v0) / (y1 * 4294967296 + y0) → n = Q2) := fun n h => h.trans HQ2.out.symm
          by_cases c1' : (4294967296 : Int) ≤ m
          · have S := step_yes Hm.out Hu2.out (by omega) (.inl (by omega))
            have S1' : (1 : Int) ≤ m := by omega
            have S2' : Hid (DivSt u2 v0 y1 y0 (m - 1) (t + y1)) := S.2
            clear S Hm
            by_cases c2' : (4294967296 : Int) ≤ t + y1
            · have E := hexit2.out _ (div_break u2 v0 y1 y0 _ _ S2'.out Hu2.out (by omega) (by omega))
              have e1' : (m : Int) - 1 = Q2 := by omega
              clear E
              clear S2'
              go_wp2
              go_ret2
              exact ⟨rfl, rfl⟩
            · go_wp2
              go_round
              case rel => exact ⟨m - 1, t + y1, by omega, by omega, by go_num, by go_num, S2'⟩
              case measure => simp [RowKit.intOf]; omega
          · have m0 : (0 : Int) ≤ (m : Int) * y0 := Int.mul_nonneg (by omega) (by omega)
            have m1 : (m : Int) * y0 < 18446744073709551616 := by
              have := Int.mul_le_mul (by omega : (m : Int) ≤ 4294967295) (by omega : (y0 : Int) ≤ 4294967295) (by omega) (by omega)
              omega
            by_cases c3' : (t : Int) * 4294967296 + v0 < (m : Int) * y0
            · have S := step_yes Hm.out Hu2.out (by omega) (.inr c3')
              have S1' : (1 : Int) ≤ m := by omega
              have S2' : Hid (DivSt u2 v0 y1 y0 (m - 1) (t + y1)) := S.2
              clear S Hm
              have c4' : 4294967296 * (t : Int) + v0 < (m : Int) * y0 := by omega
              by_cases c2' : (4294967296 : Int) ≤ t + y1
              · have E := hexit2.out _ (div_break u2 v0 y1 y0 _ _ S2'.out Hu2.out (by omega) (by omega))
                have e1' : (m : Int) - 1 = Q2 := by omega
                clear E
                clear S2'
                go_wp2
                go_ret2
                exact ⟨rfl, rfl⟩
              · go_wp2
                go_round
                case rel => exact ⟨m - 1, t + y1, by omega, by omega, by go_num, by go_num, S2'⟩
                case measure => simp [RowKit.intOf]; omega
            · have E := hexit2.out _ (step_stop Hm.out Hu2.out (by omega))
              subst E
              have c5' : ¬ (4294967296 * (t : Int) + v0 < (m : Int) * y0) := by omega
              clear Hm c3'
              go_wp2
              go_ret2
              exact ⟨rfl, rfl⟩
      · go_wp2
        go_round
        case rel => exact ⟨p - 1, s + y1, by omega, by omega, by go_num, by go_num, S2⟩
        case measure => simp [RowKit.intOf]; omega
    · have p0 : (0 : Int) ≤ (p : Int) * y0 := Int.mul_nonneg (by omega) (by omega)
      have p1 : (p : Int) * y0 < 18446744073709551616 := by
        have := Int.mul_le_mul (by omega : (p : Int) ≤ 4294967295) (by omega : (y0 : Int) ≤ 4294967295) (by omega) (by omega)
        omega
      by_cases c3 : (s : Int) * 4294967296 + v1 < (p : Int) * y0
      · have S := step_yes Hp.out Hu.out (by omega) (.inr c3)
        have S1 : (1 : Int) ≤ p := by omega
        have S2 : Hid (DivSt u v1 y1 y0 (p - 1) (s + y1)) := S.2
        clear S Hp
        have c4 : 4294967296 * (s : Int) + v1 < (p : Int) * y0 := by omega
        by_cases c2 : (4294967296 : Int) ≤ s + y1
        · have E := hexit.out _ (div_break u v1 y1 y0 _ _ S2.out Hu.out (by omega) (by omega))
          have e1 : (p : Int) - 1 = Q := by omega
          clear E
          clear S2
          go_wp2
          clear rW rq2 rr2
          go_loop [18, 16] (fun tq tr => ∃ q r : Nat, (r : Int) < 4294967296 ∧ (q : Int) < 18446744073709551616 ∧ tq = .int .u64 q ∧ tr = .int .u64 r ∧ Hid (DivSt u2 v0 y1 y0 q r)) (fun tq _ => (RowKit.intOf tq).toNat)
          case atStart => exact ⟨q2, r2, hr2, hq2, rfl, rfl, Hs2⟩
          case round =>
            obtain ⟨m, t, ht, hm, rfl, rfl, Hm⟩ := hrel
            have hexit2 : Hid (∀ n : Nat, n = (u2 * 4294967296 + v0) / (y1 * 4294967296 + y0) → n = Q2) := fun n h => h.trans HQ2.out.symm
            by_cases c1' : (4294967296 : Int) ≤ m
            · have S := step_yes Hm.out Hu2.out (by omega) (.inl (by omega))
              have S1' : (1 : Int) ≤ m := by omega
              have S2' : Hid (DivSt u2 v0 y1 y0 (m - 1) (t + y1)) := S.2
              clear S Hm
              by_cases c2' : (4294967296 : Int) ≤ t + y1
              · have E := hexit2.out _ (div_break u2 v0 y1 y0 _ _ S2'.out Hu2.out (by omega) (by omega))
                have e1' : (m : Int) - 1 = Q2 := by omega
                clear E
                clear S2'
                go_wp2
                go_ret2
                exact ⟨rfl, rfl⟩
              · go_wp2
                go_round
                case rel => exact ⟨m - 1, t + y1, by omega, by omega, by go_num, by go_num, S2'⟩
                case measure => simp [RowKit.intOf]; omega
            · have m0 : (0 : Int) ≤ (m : Int) * y0 := Int.mul_nonneg (by omega) (by omega)
              have m1 : (m : Int) * y0 < 18446744073709551616 := by
                have := Int.mul_le_mul (by omega : (m : Int) ≤ 4294967295) (by omega : (y0 : Int) ≤ 4294967295) (by omega) (by omega)
                omega
              by_cases c3' : (t : Int) * 4294967296 + v0 < (m : Int) * y0
              · have S := step_yes Hm.out Hu2.out (by omega) (.inr c3')
                have S1' : (1 : Int) ≤ m := by omega
                have S2' : Hid (DivSt u2 v0 y1 y0 (m - 1) (t + y1)) := S.2
                clear S Hm
                have c4' : 4294967296 * (t : Int) + v0 < (m : Int) * y0 := by omega
                by_cases c2' : (4294967296 : Int) ≤ t + y1
                · have E := hexit2.out _ (div_break u2 v0 y1 y0 _ _ S2'.out Hu2.out (by omega) (by omega))
                  have e1' : (m : Int) - 1 = Q2 := by omega
                  clear E
                  clear S2'
                  go_wp2
                  go_ret2
                  exact ⟨rfl, rfl⟩
                · go_wp2
                  go_round
                  case rel => exact ⟨m - 1, t + y1, by omega, by omega, by go_num, by go_num, S2'⟩
                  case measure => simp [RowKit.intOf]; omega
              · have E := hexit2.out _ (step_stop Hm.out Hu2.out (by omega))
                subst E
                have c5' : ¬ (4294967296 * (t : Int) + v0 < (m : Int) * y0) := by omega
                clear Hm c3'
                go_wp2
                go_ret2
                exact ⟨rfl, rfl⟩
        · go_wp2
          go_round
          case rel => exact ⟨p - 1, s + y1, by omega, by omega, by go_num, by go_num, S2⟩
          case measure => simp [RowKit.intOf]; omega
      · have E := hexit.out _ (step_stop Hp.out Hu.out (by omega))
        subst E
        have c5 : ¬ (4294967296 * (s : Int) + v1 < (p : Int) * y0) := by omega
        clear Hp c3
        go_wp2
        clear rW rq2 rr2
        go_loop [18, 16] (fun tq tr => ∃ q r : Nat, (r : Int) < 4294967296 ∧ (q : Int) < 18446744073709551616 ∧ tq = .int .u64 q ∧ tr = .int .u64 r ∧ Hid (DivSt u2 v0 y1 y0 q r)) (fun tq _ => (RowKit.intOf tq).toNat)
        case atStart => exact ⟨q2, r2, hr2, hq2, rfl, rfl, Hs2⟩
        case round =>
          obtain ⟨m, t, ht, hm, rfl, rfl, Hm⟩ := hrel
          have hexit2 : Hid (∀ n : Nat, n = (u2 * 4294967296 + v0) / (y1 * 4294967296 + y0) → n = Q2) := fun n h => h.trans HQ2.out.symm
          by_cases c1' : (4294967296 : Int) ≤ m
          · have S := step_yes Hm.out Hu2.out (by omega) (.inl (by omega))
            have S1' : (1 : Int) ≤ m := by omega
            have S2' : Hid (DivSt u2 v0 y1 y0 (m - 1) (t + y1)) := S.2
            clear S Hm
            by_cases c2' : (4294967296 : Int) ≤ t + y1
            · have E := hexit2.out _ (div_break u2 v0 y1 y0 _ _ S2'.out Hu2.out (by omega) (by omega))
              have e1' : (m : Int) - 1 = Q2 := by omega
              clear E
              clear S2'
              go_wp2
              go_ret2
              exact ⟨rfl, rfl⟩
            · go_wp2
              go_round
              case rel => exact ⟨m - 1, t + y1, by omega, by omega, by go_num, by go_num, S2'⟩
              case measure => simp [RowKit.intOf]; omega
          · have m0 : (0 : Int) ≤ (m : Int) * y0 := Int.mul_nonneg (by omega) (by omega)
            have m1 : (m : Int) * y0 < 18446744073709551616 := by
              have := Int.mul_le_mul (by omega : (m : Int) ≤ 4294967295) (by omega : (y0 : Int) ≤ 4294967295) (by omega) (by omega)
              omega
            by_cases c3' : (t : Int) * 4294967296 + v0 < (m : Int) * y0
            · have S := step_yes Hm.out Hu2.out (by omega) (.inr c3')
              have S1' : (1 : Int) ≤ m := by omega
              have S2' : Hid (DivSt u2 v0 y1 y0 (m - 1) (t + y1)) := S.2
              clear S Hm
              have c4' : 4294967296 * (t : Int) + v0 < (m : Int) * y0 := by omega
              by_cases c2' : (4294967296 : Int) ≤ t + y1
              · have E := hexit2.out _ (div_break u2 v0 y1 y0 _ _ S2'.out Hu2.out (by omega) (by omega))
                have e1' : (m : Int) - 1 = Q2 := by omega
                clear E
                clear S2'
                go_wp2
                go_ret2
                exact ⟨rfl, rfl⟩
              · go_wp2
                go_round
                case rel => exact ⟨m - 1, t + y1, by omega, by omega, by go_num, by go_num, S2'⟩
                case measure => simp [RowKit.intOf]; omega
            · have E := hexit2.out _ (step_stop Hm.out Hu2.out (by omega))
              subst E
              have c5' : ¬ (4294967296 * (t : Int) + v0 < (m : Int) * y0) := by omega
              clear Hm c3'
              go_wp2
              go_ret2
              exact ⟨rfl, rfl⟩
end Go.Proofs.YtiolkeipgpkbmaaGreatDoor
