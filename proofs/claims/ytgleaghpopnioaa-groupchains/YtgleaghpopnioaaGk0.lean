/-
  Three holdings: two in a chain, and one beside.
-/
import Derived.Test.YtgleaghpopnioaaGr9
namespace Go.Proofs.Ytgleaghpopnioaa
set_option linter.unusedVariables false
set_option linter.unusedSimpArgs false
set_option maxRecDepth 100000
open Go.RowKit Go.Lib

/-- Three holdings. -/
def cl3 (a b c : Int) : List Ho := [⟨1, 2, a⟩, ⟨2, 3, b⟩, ⟨4, 5, c⟩]
section
variable {a b c : Int}
theorem cl3_next (ha : 1 ≤ a ∧ a ≤ 1000) (hb : 1 ≤ b ∧ b ≤ 1000) (hc : 1 ≤ c ∧ c ≤ 1000) : nxGo [] (cl3 a b c) = 0 := by
  have e1 : nxBad [] ⟨1, 2, a⟩ = 0 := nxBad_ok.2 ⟨⟨by simp, by simp⟩, ⟨by simp, by simp⟩, ha, by simp, rfl⟩
  have e2 : nxBad [⟨1, 2, a⟩] ⟨2, 3, b⟩ = 0 := nxBad_ok.2 ⟨⟨by simp, by simp⟩, ⟨by simp, by simp⟩, hb, by simp, by simp [hSame]⟩
  have e3 : nxBad [⟨1, 2, a⟩, ⟨2, 3, b⟩] ⟨4, 5, c⟩ = 0 := nxBad_ok.2 ⟨⟨by simp, by simp⟩, ⟨by simp, by simp⟩, hc, by simp, by simp [hSame]⟩
  unfold cl3
  simp [nxGo, e1, e2, e3]
theorem cl3_had (n : Nat) : hadL (cl3 a b c) n = (if 2 = n then a else 0) + (if 3 = n then b else 0) + (if 5 = n then c else 0) := by
  unfold cl3 hadL
  have e2 : ((2 : Int) = (n : Int)) = (2 = n) := by apply propext; omega
  have e3 : ((3 : Int) = (n : Int)) = (3 = n) := by apply propext; omega
  have e5 : ((5 : Int) = (n : Int)) = (5 = n) := by apply propext; omega
  simp only [List.map_cons, List.map_nil, List.sum_cons, List.sum_nil, e2, e3, e5]
  omega
theorem cl3_over (ha : 1 ≤ a ∧ a ≤ 1000) (hb : 1 ≤ b ∧ b ≤ 1000) (hc : 1 ≤ c ∧ c ≤ 1000) : hadOver (cl3 a b c) = false := by
  refine over_false (n := 13) (fun m _ => ?_) rfl
  rw [cl3_had]
  repeat' split
  all_goals omega
theorem cl3_prn (ha : 1 ≤ a ∧ a ≤ 1000) : prn (cl3 a b c) = [⟨2, 3, b⟩] := by
  have h1 : outB (hadL (cl3 a b c)) ⟨1, 2, a⟩ = true := by show decide (hadL (cl3 a b c) 1 = 0) = true; rw [cl3_had]; simp
  have h2 : outB (hadL (cl3 a b c)) ⟨2, 3, b⟩ = false := by show decide (hadL (cl3 a b c) 2 = 0) = false; rw [cl3_had]; simp; omega
  have h3 : outB (hadL (cl3 a b c)) ⟨4, 5, c⟩ = true := by show decide (hadL (cl3 a b c) 4 = 0) = true; rw [cl3_had]; simp
  unfold prn
  generalize outB (hadL (cl3 a b c)) = f at *
  simp [cl3, h1, h2, h3]
theorem cl3_none (ha : 1 ≤ a ∧ a ≤ 1000) : prN 3 (cl3 a b c) = [] := by
  have h1 : prn [(⟨2, 3, b⟩ : Ho)] = [] := by
    have : outB (hadL [(⟨2, 3, b⟩ : Ho)]) ⟨2, 3, b⟩ = true := by show decide (hadL [(⟨2, 3, b⟩ : Ho)] 2 = 0) = true; simp [hadL]
    unfold prn
    rw [List.filter_cons_of_neg (by rw [this]; decide)]
    rfl
  have h2 : prn [] = [] := rfl
  show prn (prn (prn (cl3 a b c))) = []
  rw [cl3_prn ha, h1, h2]
theorem cl3_ok (ha : 1 ≤ a ∧ a ≤ 1000) (hb : 1 ≤ b ∧ b ≤ 1000) (hc : 1 ≤ c ∧ c ≤ 1000) : hBad (cl3 a b c) = 0 := by
  have hl : (cl3 a b c).length = 3 := rfl
  unfold hBad hBad2
  rw [cl3_next ha hb hc, cl3_over ha hb hc, hl, cl3_none ha]
  rfl
theorem cl3_S (e : Int) (v : Int → Int) : ptS (cl3 a b c) e v = (if 2 = e then v 1 * a else 0) + (if 3 = e then v 2 * b else 0) + (if 5 = e then v 4 * c else 0) := by
  unfold cl3 ptS
  simp only [List.map_cons, List.map_nil, List.sum_cons, List.sum_nil]
  omega
theorem pv_top (l : List Ho) (top : Int) (n : Nat) : pv l top n top = 1000 := by cases n <;> simp [pv]
theorem pv_next (l : List Ho) (top e : Int) (n : Nat) (h : e ≠ top) : pv l top (n + 1) e = ptS l e (pv l top n) / 1000 := by rw [pv, if_neg h]
theorem cl3_11 : pv (cl3 a b c) 1 4 1 = 1000 := pv_top _ _ _
theorem cl3_12 (n : Nat) : pv (cl3 a b c) 1 (n + 1) 2 = a := by
  rw [pv_next _ _ _ _ (by decide), cl3_S, pv_top]
  simp
theorem cl3_13 : pv (cl3 a b c) 1 4 3 = a * b / 1000 := by
  rw [pv_next _ _ _ _ (by decide), cl3_S, cl3_12]
  simp
theorem cl3_14 : pv (cl3 a b c) 1 4 4 = 0 := by
  rw [pv_next _ _ _ _ (by decide), cl3_S]
  simp
theorem cl3_15 : pv (cl3 a b c) 1 4 5 = 0 := by
  rw [pv_next _ _ _ _ (by decide), cl3_S, pv_next _ _ 4 _ (by decide), cl3_S]
  simp
theorem cl3_21 : pv (cl3 a b c) 2 4 1 = 0 := by
  rw [pv_next _ _ _ _ (by decide), cl3_S]
  simp
theorem cl3_23 : pv (cl3 a b c) 2 4 3 = b := by
  rw [pv_next _ _ _ _ (by decide), cl3_S, pv_top]
  simp
end
end Go.Proofs.Ytgleaghpopnioaa
