/-
  Contracts of money.size, money.withSign and money.signed, for every word (of Ratio1, for seats without money.Ratio).
-/
import Derived.Test.YtikifooomeikgaaGreatDoorRows
import Derived.Test.YtikifooomeikgaaGreatDoorMath
import Derived.WalkKit
import Derived.WalkSpells
namespace Go.Proofs.YtikifooomeikgaaGreatDoor
set_option linter.unusedVariables false
open Go.RowKit Go.Lib Math

theorem ret_int {k : IntKind} {a b : Int} (h : a = b) : Ending.returned (.int k a) = .returned (.int k b) := by rw [h]

theorem size_any (a : Int) (w : World) (h1 : -9223372036854775808 ≤ a) (h2 : a ≤ 9223372036854775807) :
    Calls Tryz.prog 14 #[.int .i64 a] w fun e w' => e = .returned (.int .u64 (absI a)) ∧ w' = w := by
  by_cases h : a < 0
  · go_enter Tryz.func14, Tryz.ntmps14
    go_wp2
    go_ret
    refine ⟨ret_int ?_, rfl⟩
    rw [IntKind.wrap_u64, IntKind.wrap_u64]; unfold absI; rw [if_pos h]; omega
  · go_enter Tryz.func14, Tryz.ntmps14
    go_wp2
    go_ret
    refine ⟨ret_int ?_, rfl⟩
    unfold absI; rw [if_neg (by omega)]

theorem withSign_no (s : Int) (w : World) (h0 : 0 ≤ s) (h1 : s ≤ 9223372036854775807) :
    Calls Tryz.prog 49 #[.int .u64 s, .bool false] w fun e w' => e = .returned (.int .i64 s) ∧ w' = w := by
  go_enter Tryz.func49, Tryz.ntmps49
  go_wp2
  go_ret
  exact ⟨rfl, rfl⟩

theorem withSign_yes (s : Int) (w : World) (h0 : 0 ≤ s) (h1 : s ≤ 9223372036854775808) :
    Calls Tryz.prog 49 #[.int .u64 s, .bool true] w fun e w' => e = .returned (.int .i64 (-s)) ∧ w' = w := by
  go_enter Tryz.func49, Tryz.ntmps49
  go_wp2
  go_ret
  refine ⟨ret_int ?_, rfl⟩
  rw [IntKind.wrap_u64]; unfold wrap64; omega

/-- What money.signed hands back where it does not fit. -/
abbrev errOver : Value := .iface 38 (.int .i64 10)

theorem signed_no (m u : Int) (w : World) (h0 : 0 ≤ m) (h1 : m < 18446744073709551616) (h2 : 0 ≤ u) (h3 : u ≤ 1) (h : m + u ≤ 9223372036854775807) :
    Calls Tryz.prog 26 #[.int .u64 m, .int .u64 u, .bool false] w fun e w' => e = .returned (.tuple #[.int .i64 (m + u), .nilIface]) ∧ w' = w := by
  have a1 : m ≤ 9223372036854775807 := by omega
  have a2 : u ≤ 9223372036854775807 - m := by omega
  go_enter Tryz.func26, Tryz.ntmps26
  go_wp2_with (first | (go_at_call 49; refine (withSign_no _ _ (by omega) (by omega)).mono ?_; rintro e w' ⟨rfl, rfl⟩))
  go_ret2
  exact ⟨rfl, rfl⟩

theorem signed_yes (m u : Int) (w : World) (h0 : 0 ≤ m) (h1 : m < 18446744073709551616) (h2 : 0 ≤ u) (h3 : u ≤ 1) (h : m + u ≤ 9223372036854775808) :
    Calls Tryz.prog 26 #[.int .u64 m, .int .u64 u, .bool true] w fun e w' => e = .returned (.tuple #[.int .i64 (-(m + u)), .nilIface]) ∧ w' = w := by
  have a1 : m ≤ 9223372036854775808 := by omega
  have a2 : u ≤ 9223372036854775808 - m := by omega
  go_enter Tryz.func26, Tryz.ntmps26
  go_wp2_with (first | (go_at_call 49; refine (withSign_yes _ _ (by omega) (by omega)).mono ?_; rintro e w' ⟨rfl, rfl⟩))
  go_ret2
  exact ⟨rfl, rfl⟩

theorem signed_no_over (m u : Int) (w : World) (h0 : 0 ≤ m) (h1 : m < 18446744073709551616) (h2 : 0 ≤ u) (h3 : u ≤ 1) (h : 9223372036854775807 < m + u) :
    Calls Tryz.prog 26 #[.int .u64 m, .int .u64 u, .bool false] w fun e w' => e = .returned (.tuple #[.int .i64 0, errOver]) ∧ w' = w := by
  by_cases a1 : m ≤ 9223372036854775807
  · have a2 : ¬ u ≤ 9223372036854775807 - m := by omega
    go_enter Tryz.func26, Tryz.ntmps26
    go_wp2
    go_ret2
    exact ⟨rfl, rfl⟩
  · go_enter Tryz.func26, Tryz.ntmps26
    go_wp2
    go_ret2
    exact ⟨rfl, rfl⟩

theorem signed_yes_over (m u : Int) (w : World) (h0 : 0 ≤ m) (h1 : m < 18446744073709551616) (h2 : 0 ≤ u) (h3 : u ≤ 1) (h : 9223372036854775808 < m + u) :
    Calls Tryz.prog 26 #[.int .u64 m, .int .u64 u, .bool true] w fun e w' => e = .returned (.tuple #[.int .i64 0, errOver]) ∧ w' = w := by
  by_cases a1 : m ≤ 9223372036854775808
  · have a2 : ¬ u ≤ 9223372036854775808 - m := by omega
    go_enter Tryz.func26, Tryz.ntmps26
    go_wp2
    go_ret2
    exact ⟨rfl, rfl⟩
  · go_enter Tryz.func26, Tryz.ntmps26
    go_wp2
    go_ret2
    exact ⟨rfl, rfl⟩

end Go.Proofs.YtikifooomeikgaaGreatDoor
