/-
  Contracts of money.size, math/bits.Mul64, money.withSign, money.signed, money.roundsUp and money.isPart, for every word.
-/
import Derived.Test.YtphlcjghcffnbaaDoorRows
import Derived.Test.YtphlcjghcffnbaaDoorMath
import Derived.WalkKit
import Derived.WalkSpells
import Derived.Lib.Mul64
import Derived.Laws.Bits64b
import Derived.Deep.QuietTactic
import Derived.BigQuiet
namespace Go.Proofs.YtphlcjghcffnbaaDoor
set_option linter.unusedVariables false
open Go.RowKit Go.Lib Math

theorem ret_int {k : IntKind} {a b : Int} (h : a = b) : Ending.returned (.int k a) = .returned (.int k b) := by rw [h]

theorem size_any (a : Int) (w : World) (h1 : -9223372036854775808 ≤ a) (h2 : a ≤ 9223372036854775807) :
    Calls Tryd.prog 35 #[.int .i64 a] w fun e w' => e = .returned (.int .u64 (absI a)) ∧ w' = w := by
  by_cases h : a < 0
  · go_enter Tryd.func35, Tryd.ntmps35
    go_wp2
    go_ret
    refine ⟨ret_int ?_, rfl⟩
    rw [IntKind.wrap_u64, IntKind.wrap_u64]; unfold absI; rw [if_pos h]; omega
  · go_enter Tryd.func35, Tryd.ntmps35
    go_wp2
    go_ret
    refine ⟨ret_int ?_, rfl⟩
    unfold absI; rw [if_neg (by omega)]

theorem maskN (a : Nat) (ha : a < 18446744073709551616) : bits .and .u64 (a : Int) 4294967295 = ((a % 4294967296 : Nat) : Int) := by
  have h := bits_and_u64_nat a 4294967295 ha (by omega)
  have e : a &&& 4294967295 = a % 4294967296 := Nat.and_two_pow_sub_one_eq_mod a 32
  rw [e] at h
  exact h
theorem divN (a : Nat) : (a : Int) / 4294967296 = ((a / 4294967296 : Nat) : Int) := by omega
theorem mulN (a b : Nat) : (a : Int) * (b : Int) = ((a * b : Nat) : Int) := (Int.natCast_mul a b).symm
theorem addN (a b : Nat) : (a : Int) + (b : Int) = ((a + b : Nat) : Int) := (Int.natCast_add a b).symm
theorem wrapN (a : Nat) (ha : a < 18446744073709551616) : IntKind.u64.wrap (a : Int) = (a : Int) := by rw [IntKind.wrap_u64]; omega
theorem wrapM (a : Nat) : IntKind.u64.wrap (a : Int) = ((a % 18446744073709551616 : Nat) : Int) := by rw [IntKind.wrap_u64]; omega

set_option maxHeartbeats 1000000 in
theorem mul64_nat (x y : Nat) (hx : x < 18446744073709551616) (hy : y < 18446744073709551616) (w : World) :
    Calls Tryd.prog 34 #[.int .u64 x, .int .u64 y] w fun e w' => e = .returned (.tuple #[.int .u64 ((x * y / 18446744073709551616 : Nat) : Int), .int .u64 ((x * y % 18446744073709551616 : Nat) : Int)]) ∧ w' = w := by
  obtain ⟨bd, bt, bw, hhi⟩ := Lib.mul64_hi x y hx hy
  have ba := Lib.half_mul_le (a := x / 4294967296) (b := y / 4294967296) (by omega) (by omega)
  have bb := Lib.half_mul_le (a := x / 4294967296) (b := y % 4294967296) (by omega) (by omega)
  have bc := Lib.half_mul_le (a := x % 4294967296) (b := y / 4294967296) (by omega) (by omega)
  have ba' : x / 4294967296 * (y / 4294967296) < 18446744073709551616 := by omega
  have bb' : x / 4294967296 * (y % 4294967296) < 18446744073709551616 := by omega
  have bc' : x % 4294967296 * (y / 4294967296) < 18446744073709551616 := by omega
  have bh1 : x / 4294967296 * (y / 4294967296) + (x / 4294967296 * (y % 4294967296) + x % 4294967296 * (y % 4294967296) / 4294967296) / 4294967296 < 18446744073709551616 := by omega
  have bh : x / 4294967296 * (y / 4294967296) + (x / 4294967296 * (y % 4294967296) + x % 4294967296 * (y % 4294967296) / 4294967296) / 4294967296 + ((x / 4294967296 * (y % 4294967296) + x % 4294967296 * (y % 4294967296) / 4294967296) % 4294967296 + x % 4294967296 * (y / 4294967296)) / 4294967296 < 18446744073709551616 := by omega
  go_enter Tryd.func34, Tryd.ntmps34
  go_wp2
  simp only [maskN x hx, maskN y hy, divN, mulN, addN, wrapN _ bd, wrapN _ bb', wrapN _ bt, maskN _ bt, wrapN _ bc', wrapN _ bw, wrapN _ ba', wrapN _ bh1, wrapN _ bh, wrapM (x * y)]
  rw [hhi]
  go_ret2
  exact ⟨rfl, rfl⟩

theorem mul64_any (x y : Int) (w : World) (hx0 : 0 ≤ x) (hx : x < 18446744073709551616) (hy0 : 0 ≤ y) (hy : y < 18446744073709551616) :
    Calls Tryd.prog 34 #[.int .u64 x, .int .u64 y] w fun e w' => e = .returned (.tuple #[.int .u64 (x * y / 18446744073709551616), .int .u64 (x * y % 18446744073709551616)]) ∧ w' = w := by
  obtain ⟨x, rfl⟩ := Int.eq_ofNat_of_zero_le hx0
  obtain ⟨y, rfl⟩ := Int.eq_ofNat_of_zero_le hy0
  refine (mul64_nat x y (by omega) (by omega) w).mono ?_
  rintro e w' ⟨rfl, rfl⟩
  refine ⟨?_, rfl⟩
  rw [Int.natCast_ediv, Int.natCast_emod, Int.natCast_mul]; rfl

theorem withSign_no (s : Int) (w : World) (h0 : 0 ≤ s) (h1 : s ≤ 9223372036854775807) :
    Calls Tryd.prog 50 #[.int .u64 s, .bool false] w fun e w' => e = .returned (.int .i64 s) ∧ w' = w := by
  go_enter Tryd.func50, Tryd.ntmps50
  go_wp2
  go_ret
  exact ⟨rfl, rfl⟩

theorem withSign_yes (s : Int) (w : World) (h0 : 0 ≤ s) (h1 : s ≤ 9223372036854775808) :
    Calls Tryd.prog 50 #[.int .u64 s, .bool true] w fun e w' => e = .returned (.int .i64 (-s)) ∧ w' = w := by
  go_enter Tryd.func50, Tryd.ntmps50
  go_wp2
  go_ret
  refine ⟨ret_int ?_, rfl⟩
  rw [IntKind.wrap_u64]; unfold wrap64; omega

theorem roundsUp_any (m r d : Int) (w : World) (h0 : 0 ≤ m) (h1 : 0 ≤ r) (h2 : r < d) (h3 : d ≤ 1000000000) :
    Calls Tryd.prog 38 #[.int .u64 m, .int .u64 r, .int .u64 d] w fun e w' => e = .returned (.int .u64 (upOf m r d)) ∧ w' = w := by
  go_enter Tryd.func38, Tryd.ntmps38
  go_wp2
  all_goals
    go_ret
    refine ⟨ret_int ?_, rfl⟩
    unfold upOf
    try simp only [beq_iff_eq, beq_eq_false_iff_ne] at *
    first | rw [if_pos (by omega)] | rw [if_neg (by omega)]
/-- What money.signed hands back where it does not fit. -/
abbrev errOver : Value := .iface 48 (.int .i64 10)

theorem signed_no (m u : Int) (w : World) (h0 : 0 ≤ m) (h1 : m < 18446744073709551616) (h2 : 0 ≤ u) (h3 : u ≤ 1) (h : m + u ≤ 9223372036854775807) :
    Calls Tryd.prog 37 #[.int .u64 m, .int .u64 u, .bool false] w fun e w' => e = .returned (.tuple #[.int .i64 (m + u), .nilIface]) ∧ w' = w := by
  have a1 : m ≤ 9223372036854775807 := by omega
  have a2 : u ≤ 9223372036854775807 - m := by omega
  go_enter Tryd.func37, Tryd.ntmps37
  go_wp2_with (first | (go_at_call 50; refine (withSign_no _ _ (by omega) (by omega)).mono ?_; rintro e w' ⟨rfl, rfl⟩))
  go_ret2
  exact ⟨rfl, rfl⟩

theorem signed_yes (m u : Int) (w : World) (h0 : 0 ≤ m) (h1 : m < 18446744073709551616) (h2 : 0 ≤ u) (h3 : u ≤ 1) (h : m + u ≤ 9223372036854775808) :
    Calls Tryd.prog 37 #[.int .u64 m, .int .u64 u, .bool true] w fun e w' => e = .returned (.tuple #[.int .i64 (-(m + u)), .nilIface]) ∧ w' = w := by
  have a1 : m ≤ 9223372036854775808 := by omega
  have a2 : u ≤ 9223372036854775808 - m := by omega
  go_enter Tryd.func37, Tryd.ntmps37
  go_wp2_with (first | (go_at_call 50; refine (withSign_yes _ _ (by omega) (by omega)).mono ?_; rintro e w' ⟨rfl, rfl⟩))
  go_ret2
  exact ⟨rfl, rfl⟩

theorem signed_no_over (m u : Int) (w : World) (h0 : 0 ≤ m) (h1 : m < 18446744073709551616) (h2 : 0 ≤ u) (h3 : u ≤ 1) (h : 9223372036854775807 < m + u) :
    Calls Tryd.prog 37 #[.int .u64 m, .int .u64 u, .bool false] w fun e w' => e = .returned (.tuple #[.int .i64 0, errOver]) ∧ w' = w := by
  by_cases a1 : m ≤ 9223372036854775807
  · have a2 : ¬ u ≤ 9223372036854775807 - m := by omega
    go_enter Tryd.func37, Tryd.ntmps37
    go_wp2
    go_ret2
    exact ⟨rfl, rfl⟩
  · go_enter Tryd.func37, Tryd.ntmps37
    go_wp2
    go_ret2
    exact ⟨rfl, rfl⟩

theorem signed_yes_over (m u : Int) (w : World) (h0 : 0 ≤ m) (h1 : m < 18446744073709551616) (h2 : 0 ≤ u) (h3 : u ≤ 1) (h : 9223372036854775808 < m + u) :
    Calls Tryd.prog 37 #[.int .u64 m, .int .u64 u, .bool true] w fun e w' => e = .returned (.tuple #[.int .i64 0, errOver]) ∧ w' = w := by
  by_cases a1 : m ≤ 9223372036854775808
  · have a2 : ¬ u ≤ 9223372036854775808 - m := by omega
    go_enter Tryd.func37, Tryd.ntmps37
    go_wp2
    go_ret2
    exact ⟨rfl, rfl⟩
  · go_enter Tryd.func37, Tryd.ntmps37
    go_wp2
    go_ret2
    exact ⟨rfl, rfl⟩
theorem div64_small (lo d : Int) (w : World) (h0 : 0 ≤ lo) (h1 : lo < 18446744073709551616) (hd : 1 ≤ d) (hd2 : d < 18446744073709551616) :
    Calls Tryd.prog 36 #[.int .u64 0, .int .u64 lo, .int .u64 d] w fun e w' => e = .returned (.tuple #[.int .u64 (lo / d), .int .u64 (lo % d)]) ∧ ∃ n, w' = w.drewN n := by
  have d0 : (d == 0) = false := by simp; omega
  go_enter Tryd.func36, Tryd.ntmps36
  go_wp2
  go_quiet (fail)
  go_wp2
  go_ret2
  exact ⟨rfl, _, rfl⟩
end Go.Proofs.YtphlcjghcffnbaaDoor
