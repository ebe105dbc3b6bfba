/-
  The walk of daylaw5.MoneyTurns for a list of no amounts.
-/
import Derived.Test.YthlpnieicppmcaaTurnsW
namespace Go.Proofs.Ythlpnieicppmcaa
set_option linter.unusedVariables false
open Go.RowKit Math

theorem sum_zero (x : Addr) (cap : Nat) (w : World) :
    Calls Try.prog 8 #[.slice (some x) 0 cap] w fun e w' => e = .returned (.tuple #[.int .i64 0, .nilIface]) ∧ w' = w := by
  go_enter Try.func8, Try.ntmps8
  go_wp2
  refine wp_loop_rounds 1 ?_
  rw [rounds_succ]
  go_wp2
  go_ret2
  exact ⟨rfl, rfl⟩

set_option maxHeartbeats 1000000 in
theorem turns_nil  (cut : Int) (w : World) (h1 : -9223372036854775808 ≤ cut) (h2 : cut ≤ 9223372036854775807) :
    Calls Try.prog 5 #[.slice none 0 0, .int .i64 cut] w fun e w' => e = .returned (.bool true) ∧ Below w.heap.size w w' := by
  have hI2 : Hid (∀ i, i < [(2 : Int), 3].length → I64 ([(2 : Int), 3].getD i 0)) := by
    intro i hi
    match i, hi with
    | 0, _ => unfold I64; simp
    | 1, _ => unfold I64; simp
  have f5 : Hid (sumV [(2 : Int), 3].sum = 5 ∧ sumE [(2 : Int), 3].sum = .nilIface) := ⟨by decide, rfl⟩
  have f0 : Hid (sumV (0 + 0) = 0 ∧ sumE (0 + 0) = .nilIface) := ⟨by decide, rfl⟩
  have hcut : cut < 0 ∨ (¬ cut < 0 ∧ (0 : Int) < cut) ∨ cut = 0 := by omega
  have Hcut := (show Hid (cut < 0 ∨ (¬ cut < 0 ∧ (0 : Int) < cut) ∨ cut = 0) from hcut)
  clear hcut
  go_enter Try.func5, Try.ntmps5
  go_wp2_with fail
  refine (sum_run w.heap.size 0 2 2 [2, 3] _ rfl (by simp) hI2 ?_).mono ?_
  · intro i hi
    match i, hi with
    | 0, _ => simp
    | 1, _ => simp
  rintro e w' ⟨rfl, hw⟩
  rw [hw, f5.out.1, f5.out.2]; clear hw w' hI2 f5
  go_wp2
  refine wp_loop_rounds 1 ?_
  rw [rounds_succ]
  go_wp2_with fail
  refine (sum_nil _).mono ?_
  rintro e w' ⟨rfl, hw⟩
  rw [hw]; clear hw w'
  go_wp2_with fail
  refine (sum_nil _).mono ?_
  rintro e w' ⟨rfl, hw⟩
  rw [hw]; clear hw w'
  go_wp2_with fail
  go_quiet (fail)
  rcases Hcut.out with hcut | ⟨hcut, hcut2⟩ | hcut
  · go_wp2
    go_ret
    exact ⟨rfl, below_drewN ((Below.refl _ _).alloc (Nat.le_refl _) _) _⟩
  · go_wp2
    go_ret
    exact ⟨rfl, below_drewN ((Below.refl _ _).alloc (Nat.le_refl _) _) _⟩
  · subst hcut
    go_wp2_with fail
    refine (sum_nil _).mono ?_
    rintro e w' ⟨rfl, hw⟩
    rw [hw]; clear hw w'
    go_wp2_with fail
    all_goals
      refine (sum_nil _).mono ?_
      rintro e w' ⟨rfl, hw⟩
      rw [hw]; clear hw w'
      go_wp2_with fail
      refine (add_any 0 0 _ (by unfold I64; omega) (by unfold I64; omega)).mono ?_
      rintro e w' ⟨rfl, o, hw⟩
      rw [hw, f0.out.1, f0.out.2]; clear hw w'
      go_wp2_with fail
      go_quiet (fail)
      go_wp2
      go_ret
      refine ⟨?_, below_drewN ((below_drewN ((Below.refl _ _).alloc (Nat.le_refl _) _) _).alloc (by simp) _) _⟩
      simp

set_option maxHeartbeats 1000000 in
theorem turns_zero (x : Addr) (cap : Nat) (cut : Int) (w : World) (h1 : -9223372036854775808 ≤ cut) (h2 : cut ≤ 9223372036854775807) :
    Calls Try.prog 5 #[.slice (some x) 0 cap, .int .i64 cut] w fun e w' => e = .returned (.bool true) ∧ Below w.heap.size w w' := by
  have hI2 : Hid (∀ i, i < [(2 : Int), 3].length → I64 ([(2 : Int), 3].getD i 0)) := by
    intro i hi
    match i, hi with
    | 0, _ => unfold I64; simp
    | 1, _ => unfold I64; simp
  have f5 : Hid (sumV [(2 : Int), 3].sum = 5 ∧ sumE [(2 : Int), 3].sum = .nilIface) := ⟨by decide, rfl⟩
  have f0 : Hid (sumV (0 + 0) = 0 ∧ sumE (0 + 0) = .nilIface) := ⟨by decide, rfl⟩
  have hcut : cut < 0 ∨ (¬ cut < 0 ∧ (0 : Int) < cut) ∨ cut = 0 := by omega
  have Hcut := (show Hid (cut < 0 ∨ (¬ cut < 0 ∧ (0 : Int) < cut) ∨ cut = 0) from hcut)
  clear hcut
  go_enter Try.func5, Try.ntmps5
  go_wp2_with fail
  refine (sum_run w.heap.size 0 2 2 [2, 3] _ rfl (by simp) hI2 ?_).mono ?_
  · intro i hi
    match i, hi with
    | 0, _ => simp
    | 1, _ => simp
  rintro e w' ⟨rfl, hw⟩
  rw [hw, f5.out.1, f5.out.2]; clear hw w' hI2 f5
  go_wp2
  refine wp_loop_rounds 1 ?_
  rw [rounds_succ]
  go_wp2_with fail
  refine (sum_zero _ _ _).mono ?_
  rintro e w' ⟨rfl, hw⟩
  rw [hw]; clear hw w'
  go_wp2_with fail
  refine (sum_nil _).mono ?_
  rintro e w' ⟨rfl, hw⟩
  rw [hw]; clear hw w'
  go_wp2_with fail
  go_quiet (fail)
  rcases Hcut.out with hcut | ⟨hcut, hcut2⟩ | hcut
  · go_wp2
    go_ret
    exact ⟨rfl, below_drewN ((Below.refl _ _).alloc (Nat.le_refl _) _) _⟩
  · go_wp2
    go_ret
    exact ⟨rfl, below_drewN ((Below.refl _ _).alloc (Nat.le_refl _) _) _⟩
  · subst hcut
    go_wp2_with fail
    refine (sum_zero _ _ _).mono ?_
    rintro e w' ⟨rfl, hw⟩
    rw [hw]; clear hw w'
    go_wp2_with fail
    all_goals
      refine (sum_zero _ _ _).mono ?_
      rintro e w' ⟨rfl, hw⟩
      rw [hw]; clear hw w'
      go_wp2_with fail
      refine (add_any 0 0 _ (by unfold I64; omega) (by unfold I64; omega)).mono ?_
      rintro e w' ⟨rfl, o, hw⟩
      rw [hw, f0.out.1, f0.out.2]; clear hw w'
      go_wp2_with fail
      go_quiet (fail)
      go_wp2
      go_ret
      refine ⟨?_, below_drewN ((below_drewN ((Below.refl _ _).alloc (Nat.le_refl _) _) _).alloc (by simp) _) _⟩
      simp
end Go.Proofs.Ythlpnieicppmcaa
