/-
  Numbers alone: what the shares of a total are together, and how they stand to each other.
-/
import Derived.Test.YtojmnfckijgofaaShr1
namespace Go.Proofs.Ytojmnfckijgofaa
set_option linter.unusedVariables false
set_option linter.unusedSimpArgs false
open Go.RowKit Go.Lib

theorem rank_count (cut : List Int) (k : Nat) (hk : k ≤ cut.length) : ((List.range cut.length).countP fun i => decide (rank cut i < k)) = k := by
  obtain ⟨l, h1, h2⟩ := order_ex cut
  have hl : l.length = cut.length := by rw [h1.length_eq, List.length_range]
  rw [← h1.countP_eq]
  have hr : ∀ p (hp : p < l.length), rank cut l[p] = p := fun p hp => by
    unfold rank
    rw [← h1.countP_eq]
    exact rank_pos h2 hp
  rw [← List.take_append_drop k l, List.countP_append]
  have c1 : (l.take k).countP (fun i => decide (rank cut i < k)) = k := by
    rw [List.countP_eq_length.2, List.length_take]
    · omega
    · intro a ha
      obtain ⟨q, hq, e⟩ := List.getElem_of_mem ha
      rw [List.length_take] at hq
      rw [List.getElem_take] at e
      have := hr q (by omega)
      rw [e] at this
      simp only [decide_eq_true_eq]
      omega
  have c2 : (l.drop k).countP (fun i => decide (rank cut i < k)) = 0 := by
    rw [List.countP_eq_zero]
    intro a ha
    obtain ⟨q, hq, e⟩ := List.getElem_of_mem ha
    rw [List.length_drop] at hq
    rw [List.getElem_drop] at e
    have := hr (k + q) (by omega)
    rw [e] at this
    simp only [decide_eq_true_eq]
    omega
  rw [c1, c2, Nat.add_zero]
theorem sum_ones (p : Nat → Bool) (l : List Nat) : (l.map fun i => if p i = true then (1 : Int) else 0).sum = (l.countP p : Nat) := by
  induction l with
  | nil => simp
  | cons y ys ih =>
    rw [List.map_cons, List.sum_cons, ih, List.countP_cons]
    by_cases h : p y = true
    · simp only [h, if_true]; omega
    · simp only [h, Bool.false_eq_true, if_false]; omega
theorem sum_map_add (f g : Nat → Int) (l : List Nat) : (l.map fun i => f i + g i).sum = (l.map f).sum + (l.map g).sum := by
  induction l with
  | nil => simp
  | cons y ys ih => simp only [List.map_cons, List.sum_cons, ih]; omega
theorem sum_map_neg (f : Nat → Int) (l : List Nat) : (l.map fun i => -(f i)).sum = -(l.map f).sum := by
  induction l with
  | nil => simp
  | cons y ys ih => simp only [List.map_cons, List.sum_cons, ih]; omega
theorem range_getD (l : List Int) : (List.range l.length).map (fun i => l.getD i 0) = l := by
  apply List.ext_getElem
  · simp
  · intro i h1 h2
    simp [List.getD_eq_getElem?_getD, List.getElem?_eq_getElem h2]
/-- What is given out without a sign. -/
def grossI (T : Int) (ws : List Int) (i : Nat) : Int := (partL T ws).getD i 0 + moreI T ws i
theorem share_gross (t : Int) (ws : List Int) (i : Nat) : shareI t ws i = if t < 0 then -grossI (sizeI t) ws i else grossI (sizeI t) ws i := rfl
theorem gross_sum {T : Int} {ws : List Int} (h : GoodW ws) : ((List.range ws.length).map (grossI T ws)).sum = T := by
  have e : (List.range ws.length).map (grossI T ws) = (List.range ws.length).map (fun i => (partL T ws).getD i 0 + moreI T ws i) := rfl
  rw [e, sum_map_add]
  have e1 := range_getD (partL T ws)
  rw [partL_len] at e1
  rw [e1]
  have h0 := left_nonneg (T := T) h
  have h1 := left_le (T := T) h
  have e2 : (List.range ws.length).map (moreI T ws) = (List.range ws.length).map (fun i => if decide (rank (cutL T ws) i < (leftI T ws).toNat) = true then (1 : Int) else 0) := by
    apply List.map_congr_left
    intro i hi
    unfold moreI
    by_cases hc : (rank (cutL T ws) i : Int) < leftI T ws
    · rw [if_pos hc, if_pos (by simp only [decide_eq_true_eq]; omega)]
    · rw [if_neg hc, if_neg (by simp only [decide_eq_true_eq]; omega)]
  rw [e2, sum_ones]
  have e3 := rank_count (cutL T ws) (leftI T ws).toNat (by rw [cutL_len]; omega)
  rw [cutL_len] at e3
  rw [e3]
  unfold leftI at *
  omega
theorem more_bd (T : Int) (ws : List Int) (i : Nat) : 0 ≤ moreI T ws i ∧ moreI T ws i ≤ 1 := by unfold moreI; split <;> omega
theorem part_nonneg' {T : Int} {ws : List Int} (hT : 0 ≤ T) (h : GoodW ws) {i : Nat} (hi : i < ws.length) : 0 ≤ (partL T ws).getD i 0 := by
  rw [partL_at T ws hi]
  have hm : ws.getD i 0 ∈ ws := by rw [List.getD_eq_getElem?_getD, List.getElem?_eq_getElem hi]; exact List.getElem_mem hi
  exact Int.ediv_nonneg (Int.mul_nonneg hT (h.2.1 _ hm).1) (by have := h.2.2; omega)
theorem gross_nonneg {T : Int} {ws : List Int} (hT : 0 ≤ T) (h : GoodW ws) {i : Nat} (hi : i < ws.length) : 0 ≤ grossI T ws i := by
  have := part_nonneg' hT h hi
  have := more_bd T ws i
  unfold grossI
  omega
theorem gross_le {T : Int} {ws : List Int} (hT : 0 ≤ T) (h : GoodW ws) {i : Nat} (hi : i < ws.length) : grossI T ws i ≤ T := by
  have h1 := mem_le_sum (l := (List.range ws.length).map (grossI T ws)) (fun x hx => by
    obtain ⟨j, hj, rfl⟩ := List.mem_map.1 hx
    exact gross_nonneg hT h (List.mem_range.1 hj)) (List.mem_map.2 ⟨i, List.mem_range.2 hi, rfl⟩)
  rw [gross_sum h] at h1
  exact h1
theorem sizeI_nonneg (t : Int) : 0 ≤ sizeI t := by unfold sizeI; split <;> omega
theorem share_sum {t : Int} {ws : List Int} (h : GoodW ws) : ((List.range ws.length).map (shareI t ws)).sum = t := by
  by_cases ht : t < 0
  · have e : (List.range ws.length).map (shareI t ws) = (List.range ws.length).map (fun i => -(grossI (sizeI t) ws i)) := by
      apply List.map_congr_left
      intro i hi
      rw [share_gross, if_pos ht]
    rw [e, sum_map_neg, show (List.range ws.length).map (fun i => grossI (sizeI t) ws i) = (List.range ws.length).map (grossI (sizeI t) ws) from rfl, gross_sum h]
    unfold sizeI; rw [if_pos ht]; omega
  · have e : (List.range ws.length).map (shareI t ws) = (List.range ws.length).map (grossI (sizeI t) ws) := by
      apply List.map_congr_left
      intro i hi
      rw [share_gross, if_neg ht]
    rw [e, gross_sum h]
    unfold sizeI; rw [if_neg ht]
/-- Each share lies between nothing and all. -/
theorem share_bd {t : Int} {ws : List Int} (h : GoodW ws) {i : Nat} (hi : i < ws.length) : (0 ≤ t → 0 ≤ shareI t ws i ∧ shareI t ws i ≤ t) ∧ (t ≤ 0 → t ≤ shareI t ws i ∧ shareI t ws i ≤ 0) := by
  have h1 := gross_nonneg (sizeI_nonneg t) h hi
  have h2 := gross_le (sizeI_nonneg t) h hi
  rw [share_gross]
  unfold sizeI at *
  by_cases ht : t < 0
  · rw [if_pos ht] at *
    rw [if_pos ht]
    constructor <;> intro <;> omega
  · rw [if_neg ht] at *
    rw [if_neg ht]
    constructor <;> intro <;> omega
theorem rank_some {cut : List Int} {i : Nat} (h0 : cut.getD i 0 = 0) : someCut cut ≤ rank cut i := by
  have e := range_getD cut
  have e1 : someCut cut = (List.range cut.length).countP (fun j => decide (0 < cut.getD j 0)) := by
    unfold someCut
    conv => lhs; rw [← e]
    rw [List.countP_map]
    rfl
  rw [e1]
  unfold rank
  apply List.countP_mono_left
  intro j hj hp
  simp only [decide_eq_true_eq] at hp ⊢
  unfold LT
  rw [h0]
  omega
theorem gross_zero {T : Int} {ws : List Int} (h : GoodW ws) {i : Nat} (hi : i < ws.length) (h0 : ws.getD i 0 = 0) : grossI T ws i = 0 := by
  have c0 : (cutL T ws).getD i 0 = 0 := by rw [cutL_at T ws hi, h0]; simp
  have h1 := rank_some c0
  have h2 := left_le_cut (T := T) h
  unfold grossI moreI
  rw [partL_at T ws hi, h0, if_neg (by omega)]
  simp
theorem share_zero {t : Int} {ws : List Int} (h : GoodW ws) {i : Nat} (hi : i < ws.length) (h0 : ws.getD i 0 = 0) : shareI t ws i = 0 := by
  rw [share_gross, gross_zero h hi h0]
  split <;> rfl
theorem rank_mono {cut : List Int} {i k : Nat} (h : LT cut i k) : rank cut i ≤ rank cut k := by
  unfold rank
  apply List.countP_mono_left
  intro j hj hp
  simp only [decide_eq_true_eq] at hp ⊢
  exact hp.trans h
theorem gross_more {T : Int} {ws : List Int} (hT : 0 < T) (h : GoodW ws) {i k : Nat} (hi : i < ws.length) (hk : k < ws.length) (hw : ws.getD k 0 < ws.getD i 0) : grossI T ws k ≤ grossI T ws i := by
  have hS := h.2.2
  have h1 : T * ws.getD k 0 < T * ws.getD i 0 := Int.mul_lt_mul_of_pos_left hw hT
  have h2 : T * ws.getD k 0 / ws.sum ≤ T * ws.getD i 0 / ws.sum := Int.ediv_le_ediv hS (by omega)
  have b1 := more_bd T ws i
  have b2 := more_bd T ws k
  unfold grossI
  rw [partL_at T ws hi, partL_at T ws hk]
  by_cases h3 : T * ws.getD k 0 / ws.sum = T * ws.getD i 0 / ws.sum
  · have e1 := Int.mul_ediv_add_emod (T * ws.getD k 0) ws.sum
    have e2 := Int.mul_ediv_add_emod (T * ws.getD i 0) ws.sum
    rw [h3] at e1
    have h4 : LT (cutL T ws) i k := by
      unfold LT
      rw [cutL_at T ws hi, cutL_at T ws hk]
      omega
    have h5 := rank_mono h4
    have h6 : moreI T ws k ≤ moreI T ws i := by unfold moreI; split <;> split <;> omega
    omega
  · omega
theorem share_more {t : Int} {ws : List Int} (h : GoodW ws) {i k : Nat} (hi : i < ws.length) (hk : k < ws.length) (hw : ws.getD k 0 < ws.getD i 0) : (0 < t → shareI t ws k ≤ shareI t ws i) ∧ (t < 0 → shareI t ws i ≤ shareI t ws k) := by
  rw [share_gross, share_gross]
  constructor
  · intro ht
    rw [if_neg (by omega), if_neg (by omega)]
    exact gross_more (by unfold sizeI; rw [if_neg (by omega)]; omega) h hi hk hw
  · intro ht
    rw [if_pos ht, if_pos ht]
    have := gross_more (T := sizeI t) (by unfold sizeI; rw [if_pos ht]; omega) h hi hk hw
    omega
theorem sizeI_neg (t : Int) : sizeI (-t) = sizeI t := by unfold sizeI; split <;> split <;> omega
theorem share_neg {t : Int} {ws : List Int} (h : GoodW ws) {i : Nat} (hi : i < ws.length) : shareI (-t) ws i = -(shareI t ws i) := by
  by_cases h0 : t = 0
  · subst h0
    have := (share_bd (t := 0) h hi).1 (by omega)
    rw [Int.neg_zero]
    omega
  · rw [share_gross, share_gross, sizeI_neg]
    by_cases ht : t < 0
    · rw [if_pos ht, if_neg (by omega)]; omega
    · rw [if_neg ht, if_pos (by omega)]
/-- Weights that are all as many times as great. -/
def timesL (ws : List Int) (k : Int) : List Int := ws.map fun x => x * k
theorem times_sum (ws : List Int) (k : Int) : (timesL ws k).sum = ws.sum * k := by
  unfold timesL
  induction ws with
  | nil => simp
  | cons y ys ih => simp only [List.map_cons, List.sum_cons, ih, Int.add_mul]
theorem times_len (ws : List Int) (k : Int) : (timesL ws k).length = ws.length := by simp [timesL]
theorem times_part {T k : Int} {ws : List Int} (hk : 0 < k) : partL T (timesL ws k) = partL T ws := by
  unfold partL
  rw [times_sum]
  unfold timesL
  rw [List.map_map]
  apply List.map_congr_left
  intro x hx
  show T * (x * k) / (ws.sum * k) = _
  rw [← Int.mul_assoc, Int.mul_ediv_mul_of_pos_left _ _ hk]
theorem times_cut {T k : Int} {ws : List Int} (hk : 0 < k) : cutL T (timesL ws k) = (cutL T ws).map (· * k) := by
  unfold cutL
  rw [times_sum]
  unfold timesL
  rw [List.map_map, List.map_map]
  apply List.map_congr_left
  intro x hx
  show T * (x * k) % (ws.sum * k) = T * x % ws.sum * k
  rw [← Int.mul_assoc, Int.mul_comm (T * x) k, Int.mul_comm ws.sum k, Int.mul_emod_mul_of_pos _ _ hk, Int.mul_comm]
theorem times_LT {cut : List Int} {k : Int} (hk : 0 < k) (i j : Nat) : LT (cut.map (· * k)) i j ↔ LT cut i j := by
  have e : ∀ i, (cut.map (· * k)).getD i 0 = cut.getD i 0 * k := fun i => by
    rw [List.getD_eq_getElem?_getD, List.getD_eq_getElem?_getD, List.getElem?_map]
    cases cut[i]? <;> simp
  unfold LT
  rw [e i, e j]
  generalize cut.getD i 0 = a
  generalize cut.getD j 0 = b
  have h1 : b * k < a * k ↔ b < a := Int.mul_lt_mul_right hk
  have h2 : a * k = b * k ↔ a = b := Int.mul_eq_mul_right_iff (by omega)
  have h3 : a * k < b * k ↔ a < b := Int.mul_lt_mul_right hk
  constructor <;> intro h <;> omega
theorem times_rank {cut : List Int} {k : Int} (hk : 0 < k) (i : Nat) : rank (cut.map (· * k)) i = rank cut i := by
  unfold rank
  rw [List.length_map]
  congr 1
  funext j
  exact (@decide_eq_decide _ _ (decLT _ j i) (decLT _ j i)).2 (times_LT hk j i)
theorem times_share {t k : Int} {ws : List Int} (hk : 0 < k) (i : Nat) : shareI t (timesL ws k) i = shareI t ws i := by
  unfold shareI moreI leftI
  rw [times_part hk, times_cut hk, times_rank hk]
theorem times_bad {k : Int} {ws : List Int} (hk : 0 < k) (hk2 : k ≤ 1000) (h : ∀ x ∈ ws, 0 ≤ x ∧ x ≤ 1000000) : shBad (timesL ws k) = shBad ws := by
  unfold shBad
  rw [times_len, times_sum]
  have h1 : ws.any (fun x => decide (x < 0 ∨ 1000000000 < x)) = false := by
    rw [List.any_eq_false]
    intro x hx
    have := h x hx
    simp only [decide_eq_true_eq]
    omega
  have h2 : (timesL ws k).any (fun x => decide (x < 0 ∨ 1000000000 < x)) = false := by
    rw [List.any_eq_false]
    intro x hx
    unfold timesL at hx
    obtain ⟨y, hy, rfl⟩ := List.mem_map.1 hx
    have h3 := h y hy
    have h4 := Int.mul_nonneg h3.1 (Int.le_of_lt hk)
    have h5 : y * k ≤ 1000000 * 1000 := Int.mul_le_mul h3.2 hk2 (by omega) (by omega)
    simp only [decide_eq_true_eq]
    omega
  rw [h1, h2]
  have h3 : ws.sum * k = 0 ↔ ws.sum = 0 := by
    constructor
    · intro e
      rcases Int.mul_eq_zero.1 e with e | e
      · exact e
      · omega
    · intro e; rw [e]; simp
  simp only [h3]
theorem share_fact1 : shareI 10 [1, 1, 1] 0 = 4 ∧ shareI 10 [1, 1, 1] 1 = 3 ∧ shareI 10 [1, 1, 1] 2 = 3 ∧ shBad [1, 1, 1] = 0 := by decide
theorem share_fact2 : shareI 9 [1, 2] 0 = 3 ∧ shareI 9 [1, 2] 1 = 6 ∧ shBad [1, 2] = 0 := by decide
end Go.Proofs.Ytojmnfckijgofaa
