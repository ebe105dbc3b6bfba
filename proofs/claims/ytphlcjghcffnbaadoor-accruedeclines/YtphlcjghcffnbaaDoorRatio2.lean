/-
  The contract of money.Ratio where the product is of one word, and what a part of an amount is there.
-/
import Derived.Test.YtphlcjghcffnbaaDoorRatio1
import Derived.Below
namespace Go.Proofs.YtphlcjghcffnbaaDoor
set_option linter.unusedVariables false
open Go.RowKit Go.Lib Math

theorem isPart_yes (n : Int) (w : World) (h0 : 0 ≤ n) (h1 : n ≤ 1000000000) :
    Calls Tryd.prog 33 #[.int .i64 n] w fun e w' => e = .returned (.bool true) ∧ w' = w := by
  go_enter Tryd.func33, Tryd.ntmps33
  go_wp2
  go_ret
  exact ⟨rfl, rfl⟩
theorem isPart_no (n : Int) (w : World) (h : n < 0 ∨ 1000000000 < n) :
    Calls Tryd.prog 33 #[.int .i64 n] w fun e w' => e = .returned (.bool false) ∧ w' = w := by
  rcases h with h | h
  · go_enter Tryd.func33, Tryd.ntmps33
    go_wp2
    go_ret
    exact ⟨rfl, rfl⟩
  · have h' : ¬ n < 0 := by omega
    go_enter Tryd.func33, Tryd.ntmps33
    go_wp2
    go_ret
    refine ⟨?_, rfl⟩
    simp; omega

theorem ratio_small (a n d : Int) (w : World) (ha : -1000000000 ≤ a) (ha2 : a ≤ 1000000000) (hn : 0 ≤ n) (hn2 : n ≤ 1000000000) (hd : 1 ≤ d) (hd2 : d ≤ 1000000000) :
    Calls Tryd.prog 20 #[.int .i64 a, .int .i64 n, .int .i64 d] w fun e w' => e = .returned (.tuple #[.int .i64 (ratioV a n d), .nilIface]) ∧ ∃ n, w' = w.drewN n := by
  have d0 : (d == 0) = false := by simp; omega
  have m0 := absI_nonneg a
  have m1 : absI a ≤ 1000000000 := by unfold absI; split <;> omega
  have p0 := Int.mul_nonneg m0 hn
  have p1 : absI a * n ≤ 1000000000 * 1000000000 := Int.mul_le_mul m1 hn2 hn (by omega)
  have q0 := Int.ediv_nonneg p0 (by omega : (0 : Int) ≤ d)
  have q1 : absI a * n / d ≤ absI a * n := Int.ediv_le_self _ p0
  have r0 := Int.emod_nonneg (absI a * n) (b := d) (by omega)
  have r1 := Int.emod_lt_of_pos (absI a * n) (b := d) (by omega)
  have hz : absI a * n / 18446744073709551616 = 0 := by omega
  have hy : absI a * n % 18446744073709551616 = absI a * n := by omega
  have Hz : Hid (absI a * n / 18446744073709551616 = 0) := hz
  have Hy : Hid (absI a * n % 18446744073709551616 = absI a * n) := hy
  clear hz hy
  go_enter Tryd.func20, Tryd.ntmps20
  go_wp2_with fail
  refine (isPart_yes _ _ hn hn2).mono ?_
  rintro e w' ⟨rfl, hw⟩
  rw [hw]; clear hw w'
  go_wp2_with fail
  refine (isPart_yes _ _ (by omega) hd2).mono ?_
  rintro e w' ⟨rfl, hw⟩
  rw [hw]; clear hw w'
  go_wp2_with fail
  refine (size_any _ _ (by omega) (by omega)).mono ?_
  rintro e w' ⟨rfl, hw⟩
  rw [hw]; clear hw w'
  go_wp2_with fail
  refine (mul64_any _ _ _ (by omega) (by omega) (by omega) (by omega)).mono ?_
  rintro e w' ⟨rfl, hw⟩
  rw [hw, Hz.out, Hy.out]; clear hw w'
  go_wp2_with fail
  refine (div64_small _ _ _ (by omega) (by omega) (by omega) (by omega)).mono ?_
  rintro e w' ⟨rfl, k, hw⟩
  rw [hw]; clear hw w'
  go_wp2_with fail
  refine (roundsUp_any _ _ _ _ (by omega) (by omega) (by omega) (by omega)).mono ?_
  rintro e w' ⟨rfl, hw⟩
  rw [hw]; clear hw w'
  go_wp2_with fail
  by_cases h : a < 0
  · rw [decide_eq_true h]
    refine (signed_yes _ _ _ (by omega) (by omega) (upOf_bd _ _ _).1 (upOf_bd _ _ _).2 ?_).mono ?_
    · have u := (upOf_bd (absI a * n / d) (absI a * n % d) d).2; omega
    · rintro e w' ⟨rfl, hw⟩
      rw [hw]; clear hw w'
      go_wp2
      go_ret2
      refine ⟨?_, k, rfl⟩
      unfold ratioV partOf; rw [if_pos h]; rfl
  · rw [decide_eq_false h]
    refine (signed_no _ _ _ (by omega) (by omega) (upOf_bd _ _ _).1 (upOf_bd _ _ _).2 ?_).mono ?_
    · have u := (upOf_bd (absI a * n / d) (absI a * n % d) d).2; omega
    · rintro e w' ⟨rfl, hw⟩
      rw [hw]; clear hw w'
      go_wp2
      go_ret2
      refine ⟨?_, k, rfl⟩
      unfold ratioV partOf; rw [if_neg (by omega)]; rfl
end Go.Proofs.YtphlcjghcffnbaaDoor
