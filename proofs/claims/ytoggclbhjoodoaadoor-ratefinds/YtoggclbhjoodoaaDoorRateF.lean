/-
  What rate.Find finds is in its range, and found the other way round as well.
-/
import Derived.Test.YtoggclbhjoodoaaDoorRate6
namespace Go.Proofs.YtoggclbhjoodoaaDoor
set_option linter.unusedVariables false
open Go.RowKit Go.Lib Go.Maps

theorem chainN_pos {a b : Nat} (ha : 1 ≤ a) : 1 ≤ chainN a b := by
  unfold chainN
  exact Nat.div_pos (Nat.gcd_le_left _ ha) (Nat.gcd_pos_of_pos_left _ ha)

theorem chainS_range {n1 d1 n2 d2 : Nat} (h1 : 1 ≤ n1) (h2 : 1 ≤ d1) (h3 : 1 ≤ n2) (h4 : 1 ≤ d2) (h : (chainS n1 d1 n2 d2).2.2 = 0) :
    (1 ≤ (chainS n1 d1 n2 d2).1 ∧ (chainS n1 d1 n2 d2).1 ≤ 1000000000) ∧ 1 ≤ (chainS n1 d1 n2 d2).2.1 ∧ (chainS n1 d1 n2 d2).2.1 ≤ 1000000000 := by
  unfold chainS at h ⊢
  split at h
  · simp at h
  · rename_i hn
    rw [if_neg hn]
    have p1 := chainN_pos (b := d1 * d2) (Nat.mul_pos h1 h3)
    have p2 := chainN_pos (b := n1 * n2) (Nat.mul_pos h2 h4)
    simp only [not_or] at hn
    dsimp only
    omega

theorem findS_range {S : Int × DataW Unit} {base f t : ByteArray} {p : Int} (hg : TabGood S.2) (h : (findS S base f t p).2.2 = 0) :
    (1 ≤ (findS S base f t p).1 ∧ (findS S base f t p).1 ≤ 1000000000) ∧ 1 ≤ (findS S base f t p).2.1 ∧ (findS S base f t p).2.1 ≤ 1000000000 := by
  unfold findS at h ⊢
  by_cases c1 : S.1 ≠ 0
  · rw [if_pos c1] at h; exact absurd h c1
  rw [if_neg c1] at h ⊢
  by_cases c2 : isCur base = false ∨ isCur f = false ∨ isCur t = false
  · rw [if_pos c2] at h; simp at h
  rw [if_neg c2] at h ⊢
  by_cases c3 : upTo p 120 = false
  · rw [if_pos c3] at h; simp at h
  rw [if_neg c3] at h ⊢
  by_cases c4 : f = t
  · rw [if_pos c4]; simp
  rw [if_neg c4] at h ⊢
  by_cases c5 : has S.2 (keyL f t p) = true
  · rw [if_pos c5]; exact hg _ c5
  rw [if_neg c5] at h ⊢
  by_cases c6 : has S.2 (keyL f base p) = false ∨ has S.2 (keyL base t p) = false
  · rw [if_pos c6] at h; simp at h
  rw [if_neg c6] at h ⊢
  simp only [not_or, Bool.not_eq_false] at c6
  have g1 := hg _ c6.1
  have g2 := hg _ c6.2
  exact chainS_range (by omega) (by omega) (by omega) (by omega) h

theorem chainS_turn (n1 d1 n2 d2 : Nat) : chainS d2 n2 d1 n1 = ((chainS n1 d1 n2 d2).2.1, (chainS n1 d1 n2 d2).1, (chainS n1 d1 n2 d2).2.2) := by
  unfold chainS
  rw [Nat.mul_comm d2 d1, Nat.mul_comm n2 n1]
  by_cases h : 1000000000 < chainN (n1 * n2) (d1 * d2) ∨ 1000000000 < chainN (d1 * d2) (n1 * n2)
  · rw [if_pos h, if_pos h.symm]
  · rw [if_neg h, if_neg (fun h' => h h'.symm)]

/-- The other way round. -/
theorem findS_turn {S : Int × DataW Unit} {base f t : ByteArray} {p : Int} (hs : TabSym S.2) : findS S base t f p = ((findS S base f t p).2.1, (findS S base f t p).1, (findS S base f t p).2.2) := by
  unfold findS
  by_cases c1 : S.1 ≠ 0
  · rw [if_pos c1, if_pos c1]
  rw [if_neg c1, if_neg c1]
  by_cases c2 : isCur base = false ∨ isCur f = false ∨ isCur t = false
  · rw [if_pos c2, if_pos (by rcases c2 with h | h | h <;> simp [h])]
  rw [if_neg c2, if_neg (fun h => c2 (by rcases h with h | h | h <;> simp [h]))]
  by_cases c3 : upTo p 120 = false
  · rw [if_pos c3, if_pos c3]
  rw [if_neg c3, if_neg c3]
  by_cases c4 : f = t
  · rw [if_pos c4, if_pos c4.symm]
  rw [if_neg c4, if_neg (fun h => c4 h.symm)]
  simp only [not_or, Bool.not_eq_false] at c2 c3
  obtain ⟨b0, b1, b2⟩ := c2
  have s0 := hs f t p b1 b2 c3
  have s0' := hs t f p b2 b1 c3
  have s1 := hs t base p b2 b0 c3
  have s1' := hs base t p b0 b2 c3
  have s2 := hs base f p b0 b1 c3
  have s2' := hs f base p b1 b0 c3
  by_cases c5 : has S.2 (keyL f t p) = true
  · rw [if_pos c5, if_pos (s0.1 ▸ c5), s0.2, s0'.2]
  rw [if_neg c5, if_neg (s0.1 ▸ c5)]
  by_cases c6 : has S.2 (keyL f base p) = false ∨ has S.2 (keyL base t p) = false
  · rw [if_pos c6, if_pos (by rw [s1.1, s2.1]; exact c6.symm)]
  rw [if_neg c6, if_neg (by rw [s1.1, s2.1]; exact fun h => c6 h.symm)]
  rw [s1.2, ← s1'.2, s2.2, ← s2'.2]
  exact chainS_turn _ _ _ _

end Go.Proofs.YtoggclbhjoodoaaDoor
