/-
  The walk of daylaw1.RateTurns, over any list whose table is known.
-/
import Derived.Test.YtffndpojkhekkaaRate7
namespace Go.Proofs.Ytffndpojkhekkaa
set_option linter.unusedVariables false
open Go.RowKit Go.Lib Go.Maps Math

theorem near_ratio (a n d : Int) (hd : 1 ≤ d) : 2 * (a * n - ratioV a n d * d) ≤ d ∧ -d ≤ 2 * (a * n - ratioV a n d * d) := by
  obtain ⟨h1, h2, _⟩ := near (absI a) n d hd
  unfold ratioV
  unfold absI at *
  split
  · rename_i h
    rw [if_pos h] at h1 h2
    rw [Int.neg_mul] at h1 h2 ⊢
    omega
  · rename_i h
    rw [if_neg h] at h1 h2
    omega

theorem part_le (m n d : Int) (h0 : 0 ≤ m) (h1 : 0 ≤ n) (hd : 1 ≤ d) : partOf m n d ≤ m * n + 1 := by
  have := part_ge m n d
  have e : m * n / d ≤ m * n := Int.ediv_le_self _ (Int.mul_nonneg h0 h1)
  omega

theorem ratioV_bd {a n d B : Int} (h0 : 0 ≤ n) (hd : 1 ≤ d) (h : partOf (absI a) n d ≤ B) : -B ≤ ratioV a n d ∧ ratioV a n d ≤ B := by
  have := part_nonneg (absI a) n d (absI_nonneg a) h0 hd
  unfold ratioV
  split <;> omega

theorem rat_ok {a n d : Int} (h : partOf (absI a) n d ≤ 9223372036854775807) : ratV a n d = ratioV a n d ∧ ratE a n d = .nilIface := by
  unfold ratV ratE
  have : partOf (absI a) n d ≤ 9223372036854775807 + (if a < 0 then 1 else 0) := by split <;> omega
  rw [if_pos this, if_pos this]
  exact ⟨rfl, rfl⟩

theorem rat_self (a : Int) (h1 : -9223372036854775808 ≤ a) (h2 : a ≤ 9223372036854775807) : ratV a 1 1 = a ∧ ratE a 1 1 = .nilIface := by
  have e : partOf (absI a) 1 1 = absI a := part_all _ _ (by omega)
  have h : partOf (absI a) 1 1 ≤ 9223372036854775807 + (if a < 0 then 1 else 0) := by
    rw [e]; unfold absI; split <;> omega
  unfold ratV ratE
  rw [if_pos h, if_pos h]
  refine ⟨?_, rfl⟩
  unfold ratioV
  rw [e]
  unfold absI
  split <;> omega

theorem there_back (a n d : Int) (ha : -1000000 ≤ a ∧ a ≤ 1000000) (hn : 1 ≤ n ∧ n ≤ 1000000000) (hd : 1 ≤ d ∧ d ≤ 1000000000) :
    ∃ y z : Int, (ratV a d n = y ∧ ratE a d n = .nilIface) ∧ (ratV y n d = z ∧ ratE y n d = .nilIface) ∧ (-1000000000000001 ≤ y ∧ y ≤ 1000000000000001) ∧ (-3000000000 ≤ z - a ∧ z - a ≤ 3000000000) ∧ 2 * (z - a) * d ≤ n + d ∧ 2 * (-(z - a)) * d ≤ n + d := by
  have m0 := absI_nonneg a
  have m1 : absI a ≤ 1000000 := by unfold absI; split <;> omega
  have p1 : absI a * d ≤ 1000000 * 1000000000 := Int.mul_le_mul m1 hd.2 (by omega) (by omega)
  have q1 := part_le (absI a) d n m0 (by omega) hn.1
  have y1 := ratioV_bd (a := a) (n := d) (d := n) (B := 1000000000000001) (by omega) hn.1 (by omega)
  obtain ⟨v1, v2⟩ := rat_ok (a := a) (n := d) (d := n) (by omega)
  have r1 := near_ratio a d n hn.1
  generalize ratioV a d n = y at *
  have k0 := absI_nonneg y
  have k1 : absI y ≤ 1000000000000001 := by unfold absI; split <;> omega
  have r2 := near_ratio y n d hd.1
  have hyn : y * n ≤ a * d + n := by
    have e2 := r1.2; omega
  -- the other way's size
  have s1 : 2 * (ratioV y n d * d) ≤ 2 * (a * d) + n + d := by omega
  have s2 : 2 * (a * d) - n - d ≤ 2 * (ratioV y n d * d) := by omega
  have key : ∀ z : Int, 2 * (z * d) ≤ 2 * (a * d) + n + d → 2 * (a * d) - n - d ≤ 2 * (z * d) → 2 * (z - a) * d ≤ n + d ∧ 2 * (-(z - a)) * d ≤ n + d := fun z h1 h2 => by
    have e1 : 2 * (z - a) * d = 2 * (z * d) - 2 * (a * d) := by rw [Int.mul_assoc, Int.sub_mul]; omega
    have e2 : 2 * (-(z - a)) * d = 2 * (a * d) - 2 * (z * d) := by rw [Int.mul_assoc, Int.neg_mul, Int.sub_mul]; omega
    omega
  have far : ∀ z : Int, 2 * (z - a) * d ≤ n + d → 2 * (-(z - a)) * d ≤ n + d → -3000000000 ≤ z - a ∧ z - a ≤ 3000000000 := fun z h1 h2 => by
    constructor
    · apply Classical.byContradiction
      intro hc
      have := Int.mul_le_mul_of_nonneg_right (by omega : 6000000002 ≤ 2 * (-(z - a))) (by omega : 0 ≤ d)
      omega
    · apply Classical.byContradiction
      intro hc
      have := Int.mul_le_mul_of_nonneg_right (by omega : 6000000002 ≤ 2 * (z - a)) (by omega : 0 ≤ d)
      omega
  obtain ⟨b1, b2⟩ := key _ s1 s2
  have b3 := far _ b1 b2
  have ok : partOf (absI y) n d ≤ 9223372036854775807 := by
    have pn := part_nonneg (absI y) n d k0 (by omega) hd.1
    have : ratioV y n d = partOf (absI y) n d ∨ ratioV y n d = -(partOf (absI y) n d) := by unfold ratioV; split <;> simp
    omega
  obtain ⟨v3, v4⟩ := rat_ok ok
  exact ⟨y, ratioV y n d, ⟨v1, v2⟩, ⟨v3, v4⟩, y1, b3, b1, b2⟩
end Go.Proofs.Ytffndpojkhekkaa
