/-
  The walk of daylaw1.MoneyRounds: for all three numbers it returns true, and nothing that was there is written.
-/
import Derived.Test.YthlpnieicppmcaaRatio2
import Derived.OpenShut
import Derived.RowKit3
namespace Go.Proofs.Ythlpnieicppmcaa
set_option linter.unusedVariables false
open Go.RowKit Go.Lib Math

/-- Out of the range that the law speaks of. -/
theorem rounds_out (a n d : Int) (w : World) (h : a < -1000000000 ∨ 1000000000 < a ∨ n < 0 ∨ 1000000000 < n ∨ d < 1 ∨ 1000000000 < d) :
    Calls Try.prog 4 #[.int .i64 a, .int .i64 n, .int .i64 d] w fun e w' => e = .returned (.bool true) ∧ Grown w w' := by
  have f5 : ratioV 5 1 2 = 2 := by decide
  have F5 : Hid (ratioV 5 1 2 = 2) := f5
  clear f5
  have h' : (a < -1000000000) ∨ (¬ a < -1000000000 ∧ 1000000000 < a) ∨ (¬ a < -1000000000 ∧ ¬ 1000000000 < a ∧ n < 0) ∨ (¬ a < -1000000000 ∧ ¬ 1000000000 < a ∧ ¬ n < 0 ∧ 1000000000 < n) ∨ (¬ a < -1000000000 ∧ ¬ 1000000000 < a ∧ ¬ n < 0 ∧ ¬ 1000000000 < n ∧ d < 1) ∨ (¬ a < -1000000000 ∧ ¬ 1000000000 < a ∧ ¬ n < 0 ∧ ¬ 1000000000 < n ∧ ¬ d < 1 ∧ 1000000000 < d) := by omega
  clear h
  rcases h' with h | ⟨h1, h⟩ | ⟨h1, h2, h⟩ | ⟨h1, h2, h3, h⟩ | ⟨h1, h2, h3, h4, h⟩ | ⟨h1, h2, h3, h4, h5, h⟩
  all_goals
    go_enter Try.func4, Try.ntmps4
    go_wp2_with fail
    refine (ratio_small 5 1 2 _ (by omega) (by omega) (by omega) (by omega) (by omega) (by omega)).mono ?_
    rintro e w' ⟨rfl, k, hw⟩
    rw [hw, F5.out]; clear hw w'
    go_wp2
    go_ret
    refine ⟨?_, Grown.refl w⟩
    first | rfl | (simp; omega)

set_option maxHeartbeats 1000000 in
theorem rounds_in (a n d : Int) (w : World) (ha : -1000000000 ≤ a) (ha2 : a ≤ 1000000000) (hn : 0 ≤ n) (hn2 : n ≤ 1000000000) (hd : 1 ≤ d) (hd2 : d ≤ 1000000000) :
    Calls Try.prog 4 #[.int .i64 a, .int .i64 n, .int .i64 d] w fun e w' => e = .returned (.bool true) ∧ Grown w w' := by
  have f5 : ratioV 5 1 2 = 2 := by decide
  have F5 : Hid (ratioV 5 1 2 = 2) := f5
  clear f5
  obtain ⟨_, _, _, fn, fa, f1, f2, f3⟩ := rounds_facts a n d ⟨ha, ha2⟩ ⟨hn, hn2⟩ hd
  generalize hq : ratioV a n d = q at *
  have Hq : Hid (ratioV a n d = q) := hq
  have Hn : Hid (ratioV (-a) n d = -q) := fn
  have Ha : Hid (ratioV a d d = a) := fa
  clear hq fn fa
  have e1 : -1000000000000000000 ≤ a * n ∧ a * n ≤ 1000000000000000000 := by
    have u := Int.mul_le_mul_of_nonneg_right ha2 hn
    have v := Int.mul_le_mul_of_nonneg_right ha hn
    omega
  obtain ⟨e1, e2⟩ := e1
  by_cases g1 : 2000000000 < q
  · go_enter Try.func4, Try.ntmps4
    go_wp2_with fail
    refine (ratio_small 5 1 2 _ (by omega) (by omega) (by omega) (by omega) (by omega) (by omega)).mono ?_
    rintro e w' ⟨rfl, k, hw⟩
    rw [hw, F5.out]; clear hw w'
    go_wp2_with fail
    refine (ratio_small a n d _ ha ha2 hn hn2 hd hd2).mono ?_
    rintro e w' ⟨rfl, k', hw⟩
    rw [hw, Hq.out]; clear hw w'
    go_wp2
    go_ret
    exact ⟨rfl, Grown.refl w⟩
  by_cases g2 : q < -2000000000
  · go_enter Try.func4, Try.ntmps4
    go_wp2_with fail
    refine (ratio_small 5 1 2 _ (by omega) (by omega) (by omega) (by omega) (by omega) (by omega)).mono ?_
    rintro e w' ⟨rfl, k, hw⟩
    rw [hw, F5.out]; clear hw w'
    go_wp2_with fail
    refine (ratio_small a n d _ ha ha2 hn hn2 hd hd2).mono ?_
    rintro e w' ⟨rfl, k', hw⟩
    rw [hw, Hq.out]; clear hw w'
    go_wp2
    go_ret
    exact ⟨rfl, Grown.refl w⟩
  have e3 : -2000000000000000000 ≤ q * d ∧ q * d ≤ 2000000000000000000 := by
    have u := Int.mul_le_mul_of_nonneg_right (by omega : q ≤ 2000000000) (by omega : 0 ≤ d)
    have v := Int.mul_le_mul_of_nonneg_right (by omega : -2000000000 ≤ q) (by omega : 0 ≤ d)
    omega
  obtain ⟨e3, e4⟩ := e3
  have t1 : ((2 * (a * n - q * d) == d) = true ∧ (q.tmod 2 != 0) = false) ∨ ((2 * (a * n - q * d) == d) = false ∧ (2 * (a * n - q * d) == -d) = true ∧ (q.tmod 2 != 0) = false) ∨ ((2 * (a * n - q * d) == d) = false ∧ (2 * (a * n - q * d) == -d) = false) := by
    have tm : q % 2 = 0 → q.tmod 2 = 0 := fun h => Int.tmod_eq_zero_of_dvd (Int.dvd_of_emod_eq_zero h)
    simp only [beq_iff_eq, beq_eq_false_iff_ne, bne_eq_false_iff_eq, ne_eq]
    omega
  clear f3
  rcases t1 with ⟨t1, t2⟩ | ⟨t1, t2, t3⟩ | ⟨t1, t2⟩
  all_goals
    go_enter Try.func4, Try.ntmps4
    go_wp2_with fail
    refine (ratio_small 5 1 2 _ (by omega) (by omega) (by omega) (by omega) (by omega) (by omega)).mono ?_
    rintro e w' ⟨rfl, k, hw⟩
    rw [hw, F5.out]; clear hw w'
    go_wp2_with fail
    refine (ratio_small a n d _ ha ha2 hn hn2 hd hd2).mono ?_
    rintro e w' ⟨rfl, k', hw⟩
    rw [hw, Hq.out]; clear hw w'
    go_wp2_with fail
    refine (ratio_small (-a) n d _ (by omega) (by omega) hn hn2 hd hd2).mono ?_
    rintro e w' ⟨rfl, k'', hw⟩
    rw [hw, Hn.out]; clear hw w'
    go_wp2_with fail
    refine (ratio_small a d d _ ha ha2 (by omega) (by omega) hd hd2).mono ?_
    rintro e w' ⟨rfl, k3, hw⟩
    rw [hw, Ha.out]; clear hw w'
    go_wp2
    go_ret
    refine ⟨?_, Grown.refl w⟩
    first | rfl | (simp; omega)

theorem rounds_walk (a n d : Int) (w : World) :
    Calls Try.prog 4 #[.int .i64 a, .int .i64 n, .int .i64 d] w fun e w' => e = .returned (.bool true) ∧ Grown w w' := by
  by_cases h : -1000000000 ≤ a ∧ a ≤ 1000000000 ∧ 0 ≤ n ∧ n ≤ 1000000000 ∧ 1 ≤ d ∧ d ≤ 1000000000
  · exact rounds_in a n d w h.1 h.2.1 h.2.2.1 h.2.2.2.1 h.2.2.2.2.1 h.2.2.2.2.2
  · exact rounds_out a n d w (by omega)
end Go.Proofs.Ythlpnieicppmcaa
