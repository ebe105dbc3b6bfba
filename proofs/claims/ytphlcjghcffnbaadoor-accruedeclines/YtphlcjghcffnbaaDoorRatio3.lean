/-
  The contract of money.Ratio for all numbers: what a part is, or that it is not of 64 bits, or that the numbers are out of range.
-/
import Derived.Test.YtphlcjghcffnbaaDoorDiv3
import Derived.Test.YtphlcjghcffnbaaDoorRatio2
namespace Go.Proofs.YtphlcjghcffnbaaDoor
set_option linter.unusedVariables false
open Go.RowKit Math

theorem div64_any (p d : Int) (w : World) (h0 : 0 ≤ p) (hd : 1 ≤ d) (hd2 : d < 18446744073709551616) (hp : p / 18446744073709551616 < d) :
    Calls Tryd.prog 36 #[.int .u64 (p / 18446744073709551616), .int .u64 (p % 18446744073709551616), .int .u64 d] w fun e w' => e = .returned (.tuple #[.int .u64 (p / d), .int .u64 (p % d)]) ∧ ∃ n, w' = w.drewN n := by
  obtain ⟨p, rfl⟩ := Int.eq_ofNat_of_zero_le h0
  obtain ⟨d, rfl⟩ := Int.eq_ofNat_of_zero_le (by omega : 0 ≤ d)
  obtain ⟨hi, hhi⟩ : ∃ hi, hi = p / 18446744073709551616 := ⟨_, rfl⟩
  obtain ⟨lo, hlo⟩ : ∃ lo, lo = p % 18446744073709551616 := ⟨_, rfl⟩
  have e1 : (p : Int) / 18446744073709551616 = hi := by omega
  have e2 : (p : Int) % 18446744073709551616 = lo := by omega
  have e3 : hi * 18446744073709551616 + lo = p := by rw [hhi, hlo]; exact Nat.div_add_mod' p 18446744073709551616
  have hlo2 : lo < 18446744073709551616 := by rw [hlo]; exact Nat.mod_lt _ (by omega)
  rw [e1, e2]
  rw [e1] at hp
  rcases Nat.eq_zero_or_pos hi with hz | hpos
  · have e4 : lo = p := by rw [hz, Nat.zero_mul, Nat.zero_add] at e3; exact e3
    rw [hz, e4]
    exact div64_small p d w (by omega) (by omega) hd hd2
  · refine (div64_nat hi lo d w hpos (by omega) (by omega) hlo2).mono ?_
    rintro e w' ⟨rfl, hw⟩
    rw [e3, Int.natCast_ediv, Int.natCast_emod]
    exact ⟨rfl, 0, hw⟩

/-- A part's size is the product over the divisor, or one more. -/
theorem part_ge (m n d : Int) : m * n / d ≤ partOf m n d ∧ partOf m n d ≤ m * n / d + 1 := by
  have u := upOf_bd (m * n / d) (m * n % d) d
  unfold partOf; omega

theorem ratio_range (a n d : Int) (w : World) (h : n < 0 ∨ 1000000000 < n ∨ d < 1 ∨ 1000000000 < d) :
    Calls Tryd.prog 20 #[.int .i64 a, .int .i64 n, .int .i64 d] w fun e w' => e = .returned (.tuple #[.int .i64 0, .iface 48 (.int .i64 1)]) ∧ w' = w := by
  by_cases hn : n < 0 ∨ 1000000000 < n
  · go_enter Tryd.func20, Tryd.ntmps20
    go_wp2_with fail
    refine (isPart_no _ _ hn).mono ?_
    rintro e w' ⟨rfl, hw⟩
    rw [hw]; clear hw w'
    go_wp2
    go_ret2
    exact ⟨rfl, rfl⟩
  · by_cases hd : d < 0 ∨ 1000000000 < d
    · go_enter Tryd.func20, Tryd.ntmps20
      go_wp2_with fail
      refine (isPart_yes _ _ (by omega) (by omega)).mono ?_
      rintro e w' ⟨rfl, hw⟩
      rw [hw]; clear hw w'
      go_wp2_with fail
      refine (isPart_no _ _ hd).mono ?_
      rintro e w' ⟨rfl, hw⟩
      rw [hw]; clear hw w'
      go_wp2
      go_ret2
      exact ⟨rfl, rfl⟩
    · obtain rfl : d = 0 := by omega
      go_enter Tryd.func20, Tryd.ntmps20
      go_wp2_with fail
      refine (isPart_yes _ _ (by omega) (by omega)).mono ?_
      rintro e w' ⟨rfl, hw⟩
      rw [hw]; clear hw w'
      go_wp2_with fail
      refine (isPart_yes _ _ (by omega) (by omega)).mono ?_
      rintro e w' ⟨rfl, hw⟩
      rw [hw]; clear hw w'
      go_wp2
      go_ret2
      exact ⟨rfl, rfl⟩

/-- What money.Ratio hands back of numbers in range. -/
def ratV (a n d : Int) : Int := if partOf (absI a) n d ≤ 9223372036854775807 + (if a < 0 then 1 else 0) then ratioV a n d else 0
def ratE (a n d : Int) : Value := if partOf (absI a) n d ≤ 9223372036854775807 + (if a < 0 then 1 else 0) then .nilIface else .iface 48 (.int .i64 10)

set_option maxHeartbeats 1000000 in
theorem ratio_any (a n d : Int) (w : World) (ha : -9223372036854775808 ≤ a) (ha2 : a ≤ 9223372036854775807) (hn : 0 ≤ n) (hn2 : n ≤ 1000000000) (hd : 1 ≤ d) (hd2 : d ≤ 1000000000) :
    Calls Tryd.prog 20 #[.int .i64 a, .int .i64 n, .int .i64 d] w fun e w' => e = .returned (.tuple #[.int .i64 (ratV a n d), ratE a n d]) ∧ ∃ n, w' = w.drewN n := by
  have d0 : (d == 0) = false := by simp; omega
  have m0 := absI_nonneg a
  have m1 : absI a ≤ 9223372036854775808 := by unfold absI; split <;> omega
  have p0 := Int.mul_nonneg m0 hn
  have q0 := Int.ediv_nonneg p0 (by omega : (0 : Int) ≤ d)
  have r0 := Int.emod_nonneg (absI a * n) (b := d) (by omega)
  have r1 := Int.emod_lt_of_pos (absI a * n) (b := d) (by omega)
  have pg := part_ge (absI a) n d
  have ub := upOf_bd (absI a * n / d) (absI a * n % d) d
  have z0 : 0 ≤ absI a * n / 18446744073709551616 := by omega
  have z1 : 0 ≤ absI a * n % 18446744073709551616 := by omega
  have z2 : absI a * n % 18446744073709551616 < 18446744073709551616 := by omega
  have eq1 : Hid (partOf (absI a) n d = absI a * n / d + upOf (absI a * n / d) (absI a * n % d) d) := rfl
  by_cases hover : d ≤ absI a * n / 18446744073709551616
  · have big : 18446744073709551616 ≤ absI a * n / d := by
      rw [Int.le_ediv_iff_mul_le (by omega)]
      have := Int.mul_le_mul_of_nonneg_left hover (by omega : (0 : Int) ≤ 18446744073709551616)
      omega
    have no : ¬ (partOf (absI a) n d ≤ 9223372036854775807 + (if a < 0 then 1 else 0)) := by split <;> omega
    have res : Hid (ratV a n d = 0 ∧ ratE a n d = .iface 48 (.int .i64 10)) := by
      unfold Hid ratV ratE; rw [if_neg no, if_neg no]; exact ⟨rfl, rfl⟩
    clear no big pg ub q0 r0 r1
    go_enter Tryd.func20, Tryd.ntmps20
    go_wp2_with fail
    refine (isPart_yes _ _ hn hn2).mono ?_
    rintro e w' ⟨rfl, hw⟩
    rw [hw]; clear hw w'
    go_wp2_with fail
    refine (isPart_yes _ _ (by omega) hd2).mono ?_
    rintro e w' ⟨rfl, hw⟩
    rw [hw]; clear hw w'
    go_wp2_with fail
    refine (size_any _ _ (by omega) (by omega)).mono ?_
    rintro e w' ⟨rfl, hw⟩
    rw [hw]; clear hw w'
    go_wp2_with fail
    refine (mul64_any _ _ _ (by omega) (by omega) (by omega) (by omega)).mono ?_
    rintro e w' ⟨rfl, hw⟩
    rw [hw]; clear hw w'
    go_wp2
    go_ret2
    refine ⟨?_, 0, rfl⟩
    rw [res.out.1, res.out.2]
    rfl
  · have hlt : absI a * n / d < 18446744073709551616 := by
      rw [Int.ediv_lt_iff_lt_mul (by omega)]
      have h5 : absI a * n < (absI a * n / 18446744073709551616 + 1) * 18446744073709551616 := by omega
      have h6 := Int.mul_le_mul_of_nonneg_right (by omega : absI a * n / 18446744073709551616 + 1 ≤ d) (by omega : (0 : Int) ≤ 18446744073709551616)
      omega
    by_cases ok : partOf (absI a) n d ≤ 9223372036854775807 + (if a < 0 then 1 else 0)
    · have res : Hid (ratV a n d = ratioV a n d ∧ ratE a n d = .nilIface) := by
        unfold Hid ratV ratE; rw [if_pos ok, if_pos ok]; exact ⟨rfl, rfl⟩
      have Ok : Hid (partOf (absI a) n d ≤ 9223372036854775807 + (if a < 0 then 1 else 0)) := ok
      clear ok pg
      go_enter Tryd.func20, Tryd.ntmps20
      go_wp2_with fail
      refine (isPart_yes _ _ hn hn2).mono ?_
      rintro e w' ⟨rfl, hw⟩
      rw [hw]; clear hw w'
      go_wp2_with fail
      refine (isPart_yes _ _ (by omega) hd2).mono ?_
      rintro e w' ⟨rfl, hw⟩
      rw [hw]; clear hw w'
      go_wp2_with fail
      refine (size_any _ _ (by omega) (by omega)).mono ?_
      rintro e w' ⟨rfl, hw⟩
      rw [hw]; clear hw w'
      go_wp2_with fail
      refine (mul64_any _ _ _ (by omega) (by omega) (by omega) (by omega)).mono ?_
      rintro e w' ⟨rfl, hw⟩
      rw [hw]; clear hw w'
      go_wp2_with fail
      refine (div64_any _ _ _ (by omega) (by omega) (by omega) (by omega)).mono ?_
      rintro e w' ⟨rfl, k, hw⟩
      rw [hw]; clear hw w'
      go_wp2_with fail
      refine (roundsUp_any _ _ _ _ (by omega) (by omega) (by omega) (by omega)).mono ?_
      rintro e w' ⟨rfl, hw⟩
      rw [hw]; clear hw w'
      go_wp2_with fail
      by_cases h : a < 0
      · rw [decide_eq_true h]
        have g := Ok.out
        rw [eq1.out, if_pos h] at g
        refine (signed_yes _ _ _ (by omega) (by omega) ub.1 ub.2 (by omega)).mono ?_
        rintro e w' ⟨rfl, hw⟩
        rw [hw]; clear hw w' g
        go_wp2
        go_ret2
        refine ⟨?_, k, rfl⟩
        rw [res.out.1, res.out.2]
        unfold ratioV partOf; rw [if_pos h]; rfl
      · rw [decide_eq_false h]
        have g := Ok.out
        rw [eq1.out, if_neg h] at g
        refine (signed_no _ _ _ (by omega) (by omega) ub.1 ub.2 (by omega)).mono ?_
        rintro e w' ⟨rfl, hw⟩
        rw [hw]; clear hw w' g
        go_wp2
        go_ret2
        refine ⟨?_, k, rfl⟩
        rw [res.out.1, res.out.2]
        unfold ratioV partOf; rw [if_neg (by omega)]; rfl
    · have res : Hid (ratV a n d = 0 ∧ ratE a n d = .iface 48 (.int .i64 10)) := by
        unfold Hid ratV ratE; rw [if_neg ok, if_neg ok]; exact ⟨rfl, rfl⟩
      have Ok : Hid (¬ partOf (absI a) n d ≤ 9223372036854775807 + (if a < 0 then 1 else 0)) := ok
      clear ok pg
      go_enter Tryd.func20, Tryd.ntmps20
      go_wp2_with fail
      refine (isPart_yes _ _ hn hn2).mono ?_
      rintro e w' ⟨rfl, hw⟩
      rw [hw]; clear hw w'
      go_wp2_with fail
      refine (isPart_yes _ _ (by omega) hd2).mono ?_
      rintro e w' ⟨rfl, hw⟩
      rw [hw]; clear hw w'
      go_wp2_with fail
      refine (size_any _ _ (by omega) (by omega)).mono ?_
      rintro e w' ⟨rfl, hw⟩
      rw [hw]; clear hw w'
      go_wp2_with fail
      refine (mul64_any _ _ _ (by omega) (by omega) (by omega) (by omega)).mono ?_
      rintro e w' ⟨rfl, hw⟩
      rw [hw]; clear hw w'
      go_wp2_with fail
      refine (div64_any _ _ _ (by omega) (by omega) (by omega) (by omega)).mono ?_
      rintro e w' ⟨rfl, k, hw⟩
      rw [hw]; clear hw w'
      go_wp2_with fail
      refine (roundsUp_any _ _ _ _ (by omega) (by omega) (by omega) (by omega)).mono ?_
      rintro e w' ⟨rfl, hw⟩
      rw [hw]; clear hw w'
      go_wp2_with fail
      by_cases h : a < 0
      · rw [decide_eq_true h]
        have g := Ok.out
        rw [eq1.out, if_pos h] at g
        refine (signed_yes_over _ _ _ (by omega) (by omega) ub.1 ub.2 (by omega)).mono ?_
        rintro e w' ⟨rfl, hw⟩
        rw [hw]; clear hw w' g
        go_wp2
        go_ret2
        refine ⟨?_, k, rfl⟩
        rw [res.out.1, res.out.2]
        rfl
      · rw [decide_eq_false h]
        have g := Ok.out
        rw [eq1.out, if_neg h] at g
        refine (signed_no_over _ _ _ (by omega) (by omega) ub.1 ub.2 (by omega)).mono ?_
        rintro e w' ⟨rfl, hw⟩
        rw [hw]; clear hw w' g
        go_wp2
        go_ret2
        refine ⟨?_, k, rfl⟩
        rw [res.out.1, res.out.2]
        rfl
end Go.Proofs.YtphlcjghcffnbaaDoor
