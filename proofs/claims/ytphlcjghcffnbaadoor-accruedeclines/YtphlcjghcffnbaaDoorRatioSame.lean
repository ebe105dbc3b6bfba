/-
  What money.Ratio hands back is what the document's answer is.
-/
import Derived.Test.YtphlcjghcffnbaaDoorBig22
import Derived.Test.YtphlcjghcffnbaaDoorRatio3
namespace Go.Proofs.YtphlcjghcffnbaaDoor
set_option linter.unusedVariables false
open Go.RowKit Big Math

theorem near_all (a n d : Int) (hd : 1 ≤ d) : 2 * (a * n - ratioV a n d * d) ≤ d ∧ -d ≤ 2 * (a * n - ratioV a n d * d) ∧ ((2 * (a * n - ratioV a n d * d) = d ∨ 2 * (a * n - ratioV a n d * d) = -d) → ratioV a n d % 2 = 0) := by
  obtain ⟨h1, h2, h3⟩ := near (absI a) n d hd
  unfold ratioV
  unfold absI at *
  split
  · rename_i h
    rw [if_pos h] at h1 h2 h3
    rw [Int.neg_mul] at h1 h2 h3 ⊢
    refine ⟨by omega, by omega, fun h' => ?_⟩
    have := h3 (by omega)
    omega
  · rename_i h
    rw [if_neg h] at h1 h2 h3
    exact ⟨h1, h2, h3⟩

/-- Of the nearest, a half being even, there is just one. -/
theorem nearest_one {p d t u : Int} (hd : 1 ≤ d) (t1 : 2 * (p - t * d) ≤ d) (t2 : -d ≤ 2 * (p - t * d)) (t3 : (2 * (p - t * d) = d ∨ 2 * (p - t * d) = -d) → t % 2 = 0)
    (u1 : 2 * (p - u * d) ≤ d) (u2 : -d ≤ 2 * (p - u * d)) (u3 : (2 * (p - u * d) = d ∨ 2 * (p - u * d) = -d) → u % 2 = 0) : t = u := by
  have e : (t - u) * d = t * d - u * d := Int.sub_mul t u d
  rcases (by omega : t - u ≤ -2 ∨ t - u = -1 ∨ t - u = 0 ∨ t - u = 1 ∨ 2 ≤ t - u) with h | h | h | h | h
  · have := Int.mul_le_mul_of_nonneg_right h (by omega : 0 ≤ d); omega
  · rw [h] at e
    have a1 := t3 (by omega)
    have a2 := u3 (by omega)
    omega
  · omega
  · rw [h] at e
    have a1 := t3 (by omega)
    have a2 := u3 (by omega)
    omega
  · have := Int.mul_le_mul_of_nonneg_right h (by omega : 0 ≤ d); omega

theorem refQ_eq (a n d : Int) (hd : 1 ≤ d) : refQ a n d = ratioV a n d := by
  obtain ⟨h1, h2, h3⟩ := near_all a n d hd
  have e0 : a * (2 * n) = 2 * (a * n) := by rw [Int.mul_left_comm]
  have e1 := Int.mul_ediv_add_emod (a * (2 * n) + d) (2 * d)
  have r0 := Int.emod_nonneg (a * (2 * n) + d) (b := 2 * d) (by omega)
  have r1 := Int.emod_lt_of_pos (a * (2 * n) + d) (b := 2 * d) (by omega)
  have hq : ∀ Q : Int, 2 * d * Q = 2 * (Q * d) := fun Q => by rw [Int.mul_assoc, Int.mul_comm d Q]
  refine nearest_one (p := a * n) hd ?_ ?_ ?_ h1 h2 h3
  all_goals
    unfold refQ
    generalize (a * (2 * n) + d) / (2 * d) = Q at *
    generalize (a * (2 * n) + d) % (2 * d) = R at *
    rw [e0] at e1
    have hq0 := hq Q
    have hq1 : (Q - 1) * d = Q * d - d := by rw [Int.sub_mul]; omega
    generalize a * n = p at *
    split
    · rename_i hc
      rw [hq1]
      generalize Q * d = s at *
      omega
    · rename_i hc
      generalize Q * d = s at *
      omega

/-- What is told of a part, either way. -/
theorem ratio_same (a n d : Int) (hn : 0 ≤ n) (hd : 1 ≤ d) : rV (refQ a n d) = ratV a n d ∧ ((rE (refQ a n d) = 0 ∧ ratE a n d = .nilIface) ∨ (rE (refQ a n d) = 10 ∧ ratE a n d = .iface 48 (.int .i64 10))) := by
  rw [refQ_eq a n d hd]
  have p0 := part_nonneg (absI a) n d (absI_nonneg a) hn hd
  have key : (-9223372036854775808 ≤ ratioV a n d ∧ ratioV a n d ≤ 9223372036854775807) ↔ partOf (absI a) n d ≤ 9223372036854775807 + (if a < 0 then 1 else 0) := by
    unfold ratioV
    split <;> omega
  unfold rV rE ratV ratE
  by_cases h : partOf (absI a) n d ≤ 9223372036854775807 + (if a < 0 then 1 else 0)
  · rw [if_pos (key.2 h), if_pos (key.2 h), if_pos h, if_pos h]
    exact ⟨rfl, .inl ⟨rfl, rfl⟩⟩
  · rw [if_neg (fun h' => h (key.1 h')), if_neg (fun h' => h (key.1 h')), if_neg h, if_neg h]
    exact ⟨rfl, .inr ⟨rfl, rfl⟩⟩

end Go.Proofs.YtphlcjghcffnbaaDoor
