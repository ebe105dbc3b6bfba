/-
  The walk of daylaw3.AccrueDeclines.
-/
import Derived.Test.YtphlcjghcffnbaaDoorPn2
import Derived.Test.YtphlcjghcffnbaaDoorRatioSame
import Derived.Test.YtphlcjghcffnbaaDoorErrT
import Derived.Test.YtphlcjghcffnbaaDoorSum
import Derived.Deep.QuietTactic
import Derived.BigQuiet
import Derived.Deep.CutBlock
namespace Go.Proofs.YtphlcjghcffnbaaDoor
set_option linter.unusedVariables false
set_option linter.unusedSimpArgs false
set_option maxRecDepth 100000
open Go.RowKit Go.Lib Big Math

theorem adAmount_any (n : Int) (w : World) :
    Calls Tryd.prog 4 #[.int .i64 n] w fun e w' => e = .returned (.bool (isAmtB n)) ∧ w' = w := by
  by_cases h : -1000000000000000 ≤ n
  · have : isAmtB n = decide (n ≤ 1000000000000000) := by simp [isAmtB, h]
    rw [this]
    go_enter Tryd.func4, Tryd.ntmps4
    go_wp2
    go_ret
    exact ⟨rfl, rfl⟩
  · have : isAmtB n = false := by simp [isAmtB, h]
    rw [this]
    go_enter Tryd.func4, Tryd.ntmps4
    go_wp2
    go_ret
    exact ⟨rfl, rfl⟩
set_option maxHeartbeats 1000000 in
theorem adInts_any (a1 a2 : Option Addr) (c1 c2 : Nat) (xs : List Int) (w : World) (hlen : xs.length ≤ 1000) (h1 : IsW w a1 xs c1) (h2 : IsW w a2 xs c2) :
    Calls Tryd.prog 8 #[.slice a1 xs.length c1, .slice a2 xs.length c2] w fun e w' => e = .returned (.bool true) ∧ Below w.heap.size w w' := by
  have Hlen : (xs.length : Int) ≤ 1000 := by omega
  have H1 : Hid (IsW w a1 xs c1) := h1
  have H2 : Hid (IsW w a2 xs c2) := h2
  clear h1 h2
  go_enter Tryd.func8, Tryd.ntmps8
  go_wp2
  go_loopw [5] (fun i wr => ∃ k : Nat, k ≤ xs.length ∧ i = .int .i64 k ∧ ∃ n, wr = w.drewN n) (fun i _ => xs.length - (RowKit.intOf i).toNat)
  case atStart => exact ⟨0, Nat.zero_le _, rfl, 0, rfl⟩
  case round =>
    obtain ⟨k, hk, rfl, nd, rfl⟩ := hrel
    by_cases hlt : k < xs.length
    · obtain ⟨g1, o1, rfl, _, d1⟩ := H1.out.at hlt
      obtain ⟨g2, o2, rfl, _, d2⟩ := H2.out.at hlt
      clear H1 H2
      generalize xs.getD k 0 = x at *
      have i0 : (0 : Int) ≤ k := by omega
      have i1 : (k : Int) < xs.length := by omega
      go_wp2_with fail
      go_quiet (fail)
      go_wp2
      go_roundw
      case rel => exact ⟨k + 1, by omega, by go_num, _, rfl⟩
      case measure => simp [RowKit.intOf]; omega
    · have hk2 : k = xs.length := by omega
      subst hk2
      go_wp2
      go_ret
      exact ⟨rfl, dec_drew (Below.refl _ _) _⟩

set_option maxHeartbeats 8000000 in
theorem declines_bad (cost rest n d pr : Int) (w : World) (hg : ErrT w) (h : decBad cost rest n d pr = true) :
    Calls Tryd.prog 3 #[.int .i64 cost, .int .i64 rest, .int .i64 n, .int .i64 d, .int .i64 pr] w fun e w' => e = .returned (.bool true) ∧ Below w.heap.size w w' := by
  have HA : Hid (Calls Tryd.prog 4 #[.int .i64 cost] w fun e w' => e = .returned (.bool (isAmtB cost)) ∧ w' = w) := adAmount_any cost w
  have HD : Hid (Calls _ _ _ _ _) := declining_bad cost rest n d pr w h
  have HE : Hid (Calls _ _ _ _ _) := err_true (E := .iface 48 (.int .i64 1)) (c := 1) (.inr ⟨rfl, by decide, by decide⟩) w hg
  have HI : Hid (∀ W, Calls Tryd.prog 8 #[.slice none 0 0, .slice none 0 0] W fun e w' => e = .returned (.bool true) ∧ Below W.heap.size W w') := fun W => adInts_any none none 0 0 [] W (by simp) ⟨Nat.le_refl _, .inl rfl⟩ ⟨Nat.le_refl _, .inl rfl⟩
  have hw : (cost < 0) ∨ (¬ cost < 0 ∧ isAmtB cost = false) ∨ (¬ cost < 0 ∧ isAmtB cost = true ∧ rest < 0) ∨ (¬ cost < 0 ∧ isAmtB cost = true ∧ ¬ rest < 0 ∧ cost < rest) ∨ (¬ cost < 0 ∧ isAmtB cost = true ∧ ¬ rest < 0 ∧ ¬ cost < rest ∧ d < 1) ∨ (¬ cost < 0 ∧ isAmtB cost = true ∧ ¬ rest < 0 ∧ ¬ cost < rest ∧ ¬ d < 1 ∧ 1000000000 < d) ∨ (¬ cost < 0 ∧ isAmtB cost = true ∧ ¬ rest < 0 ∧ ¬ cost < rest ∧ ¬ d < 1 ∧ ¬ 1000000000 < d ∧ n < 0) ∨ (¬ cost < 0 ∧ isAmtB cost = true ∧ ¬ rest < 0 ∧ ¬ cost < rest ∧ ¬ d < 1 ∧ ¬ 1000000000 < d ∧ ¬ n < 0 ∧ d < n) ∨ (¬ cost < 0 ∧ isAmtB cost = true ∧ ¬ rest < 0 ∧ ¬ cost < rest ∧ ¬ d < 1 ∧ ¬ 1000000000 < d ∧ ¬ n < 0 ∧ ¬ d < n ∧ pr < 1) ∨ (¬ cost < 0 ∧ isAmtB cost = true ∧ ¬ rest < 0 ∧ ¬ cost < rest ∧ ¬ d < 1 ∧ ¬ 1000000000 < d ∧ ¬ n < 0 ∧ ¬ d < n ∧ ¬ pr < 1 ∧ 120 < pr) := by
    unfold decBad upTo mostA at h
    rw [Bool.not_eq_true'] at h
    by_cases i0 : cost < 0
    · exact .inl i0
    by_cases i1 : isAmtB cost = false
    · exact .inr (.inl ⟨i0, i1⟩)
    have i1' : isAmtB cost = true := by simpa using i1
    have i1'' := isAmtB_iff.1 i1'
    unfold mostA at i1''
    by_cases i2 : rest < 0
    · exact .inr (.inr (.inl ⟨i0, i1', i2⟩))
    by_cases i3 : cost < rest
    · exact .inr (.inr (.inr (.inl ⟨i0, i1', i2, i3⟩)))
    by_cases i4 : d < 1
    · exact .inr (.inr (.inr (.inr (.inl ⟨i0, i1', i2, i3, i4⟩))))
    by_cases i5 : 1000000000 < d
    · exact .inr (.inr (.inr (.inr (.inr (.inl ⟨i0, i1', i2, i3, i4, i5⟩)))))
    by_cases i6 : n < 0
    · exact .inr (.inr (.inr (.inr (.inr (.inr (.inl ⟨i0, i1', i2, i3, i4, i5, i6⟩))))))
    by_cases i7 : d < n
    · exact .inr (.inr (.inr (.inr (.inr (.inr (.inr (.inl ⟨i0, i1', i2, i3, i4, i5, i6, i7⟩)))))))
    by_cases i8 : pr < 1
    · exact .inr (.inr (.inr (.inr (.inr (.inr (.inr (.inr (.inl ⟨i0, i1', i2, i3, i4, i5, i6, i7, i8⟩))))))))
    have i9 : 120 < pr := by
      apply Classical.byContradiction
      intro i9
      have : (decide (0 ≤ cost ∧ cost ≤ 1000000000000000) && (decide (0 ≤ rest ∧ rest ≤ cost) && (decide (0 ≤ n ∧ n ≤ d) && (decide (1 ≤ d ∧ d ≤ 1000000000) && (decide (1 ≤ pr) && decide (pr ≤ 120)))))) = true := by
        simp only [Bool.and_eq_true, decide_eq_true_eq]; omega
      rw [this] at h
      cases h
    exact .inr (.inr (.inr (.inr (.inr (.inr (.inr (.inr (.inr (⟨i0, i1', i2, i3, i4, i5, i6, i7, i8, i9⟩)))))))))
  clear hg h
  rcases hw with i0 | ⟨i0, i1⟩ | ⟨i0, i1, i2⟩ | ⟨i0, i1, i2, i3⟩ | ⟨i0, i1, i2, i3, i4⟩ | ⟨i0, i1, i2, i3, i4, i5⟩ | ⟨i0, i1, i2, i3, i4, i5, i6⟩ | ⟨i0, i1, i2, i3, i4, i5, i6, i7⟩ | ⟨i0, i1, i2, i3, i4, i5, i6, i7, i8⟩ | ⟨i0, i1, i2, i3, i4, i5, i6, i7, i8, i9⟩
  · by_cases ip : (1 : Int) ≤ pr
    · go_enter Tryd.func3, Tryd.ntmps3
      go_wp2_with fail
      refine HA.out.mono ?_
      rintro e w' ⟨rfl, hw⟩
      rw [hw]; clear hw w' HA
      go_wp2
      refine wp_loop_rounds 1 ?_
      rw [rounds_succ]
      go_wp2_with fail
      refine HD.out.mono ?_
      rintro e w' ⟨rfl, hw⟩
      rw [hw]; clear hw w' HD
      go_wp2_with fail
      refine HE.out.mono ?_
      rintro e w1 ⟨rfl, hb1⟩
      go_wp2_with fail
      refine (HI.out w1).mono ?_
      rintro e w2 ⟨rfl, hb2⟩
      have HB : Hid (Below w.heap.size w w2) := hb1.trans (hb2.mono hb1.size)
      clear HE HI hb1 hb2
      go_wp2
      go_ret
      exact ⟨rfl, HB.out⟩
    · go_enter Tryd.func3, Tryd.ntmps3
      go_wp2_with fail
      refine HA.out.mono ?_
      rintro e w' ⟨rfl, hw⟩
      rw [hw]; clear hw w' HA
      go_wp2
      refine wp_loop_rounds 1 ?_
      rw [rounds_succ]
      go_wp2_with fail
      refine HD.out.mono ?_
      rintro e w' ⟨rfl, hw⟩
      rw [hw]; clear hw w' HD
      go_wp2_with fail
      refine HE.out.mono ?_
      rintro e w1 ⟨rfl, hb1⟩
      go_wp2_with fail
      refine (HI.out w1).mono ?_
      rintro e w2 ⟨rfl, hb2⟩
      have HB : Hid (Below w.heap.size w w2) := hb1.trans (hb2.mono hb1.size)
      clear HE HI hb1 hb2
      go_wp2
      go_ret
      exact ⟨rfl, HB.out⟩
  · rw [i1] at HA
    by_cases ip : (1 : Int) ≤ pr
    · go_enter Tryd.func3, Tryd.ntmps3
      go_wp2_with fail
      refine HA.out.mono ?_
      rintro e w' ⟨rfl, hw⟩
      rw [hw]; clear hw w' HA
      go_wp2
      refine wp_loop_rounds 1 ?_
      rw [rounds_succ]
      go_wp2_with fail
      refine HD.out.mono ?_
      rintro e w' ⟨rfl, hw⟩
      rw [hw]; clear hw w' HD
      go_wp2_with fail
      refine HE.out.mono ?_
      rintro e w1 ⟨rfl, hb1⟩
      go_wp2_with fail
      refine (HI.out w1).mono ?_
      rintro e w2 ⟨rfl, hb2⟩
      have HB : Hid (Below w.heap.size w w2) := hb1.trans (hb2.mono hb1.size)
      clear HE HI hb1 hb2
      go_wp2
      go_ret
      exact ⟨rfl, HB.out⟩
    · go_enter Tryd.func3, Tryd.ntmps3
      go_wp2_with fail
      refine HA.out.mono ?_
      rintro e w' ⟨rfl, hw⟩
      rw [hw]; clear hw w' HA
      go_wp2
      refine wp_loop_rounds 1 ?_
      rw [rounds_succ]
      go_wp2_with fail
      refine HD.out.mono ?_
      rintro e w' ⟨rfl, hw⟩
      rw [hw]; clear hw w' HD
      go_wp2_with fail
      refine HE.out.mono ?_
      rintro e w1 ⟨rfl, hb1⟩
      go_wp2_with fail
      refine (HI.out w1).mono ?_
      rintro e w2 ⟨rfl, hb2⟩
      have HB : Hid (Below w.heap.size w w2) := hb1.trans (hb2.mono hb1.size)
      clear HE HI hb1 hb2
      go_wp2
      go_ret
      exact ⟨rfl, HB.out⟩
  · rw [i1] at HA
    by_cases ip : (1 : Int) ≤ pr
    · go_enter Tryd.func3, Tryd.ntmps3
      go_wp2_with fail
      refine HA.out.mono ?_
      rintro e w' ⟨rfl, hw⟩
      rw [hw]; clear hw w' HA
      go_wp2
      refine wp_loop_rounds 1 ?_
      rw [rounds_succ]
      go_wp2_with fail
      refine HD.out.mono ?_
      rintro e w' ⟨rfl, hw⟩
      rw [hw]; clear hw w' HD
      go_wp2_with fail
      refine HE.out.mono ?_
      rintro e w1 ⟨rfl, hb1⟩
      go_wp2_with fail
      refine (HI.out w1).mono ?_
      rintro e w2 ⟨rfl, hb2⟩
      have HB : Hid (Below w.heap.size w w2) := hb1.trans (hb2.mono hb1.size)
      clear HE HI hb1 hb2
      go_wp2
      go_ret
      exact ⟨rfl, HB.out⟩
    · go_enter Tryd.func3, Tryd.ntmps3
      go_wp2_with fail
      refine HA.out.mono ?_
      rintro e w' ⟨rfl, hw⟩
      rw [hw]; clear hw w' HA
      go_wp2
      refine wp_loop_rounds 1 ?_
      rw [rounds_succ]
      go_wp2_with fail
      refine HD.out.mono ?_
      rintro e w' ⟨rfl, hw⟩
      rw [hw]; clear hw w' HD
      go_wp2_with fail
      refine HE.out.mono ?_
      rintro e w1 ⟨rfl, hb1⟩
      go_wp2_with fail
      refine (HI.out w1).mono ?_
      rintro e w2 ⟨rfl, hb2⟩
      have HB : Hid (Below w.heap.size w w2) := hb1.trans (hb2.mono hb1.size)
      clear HE HI hb1 hb2
      go_wp2
      go_ret
      exact ⟨rfl, HB.out⟩
  · rw [i1] at HA
    by_cases ip : (1 : Int) ≤ pr
    · go_enter Tryd.func3, Tryd.ntmps3
      go_wp2_with fail
      refine HA.out.mono ?_
      rintro e w' ⟨rfl, hw⟩
      rw [hw]; clear hw w' HA
      go_wp2
      refine wp_loop_rounds 1 ?_
      rw [rounds_succ]
      go_wp2_with fail
      refine HD.out.mono ?_
      rintro e w' ⟨rfl, hw⟩
      rw [hw]; clear hw w' HD
      go_wp2_with fail
      refine HE.out.mono ?_
      rintro e w1 ⟨rfl, hb1⟩
      go_wp2_with fail
      refine (HI.out w1).mono ?_
      rintro e w2 ⟨rfl, hb2⟩
      have HB : Hid (Below w.heap.size w w2) := hb1.trans (hb2.mono hb1.size)
      clear HE HI hb1 hb2
      go_wp2
      go_ret
      exact ⟨rfl, HB.out⟩
    · go_enter Tryd.func3, Tryd.ntmps3
      go_wp2_with fail
      refine HA.out.mono ?_
      rintro e w' ⟨rfl, hw⟩
      rw [hw]; clear hw w' HA
      go_wp2
      refine wp_loop_rounds 1 ?_
      rw [rounds_succ]
      go_wp2_with fail
      refine HD.out.mono ?_
      rintro e w' ⟨rfl, hw⟩
      rw [hw]; clear hw w' HD
      go_wp2_with fail
      refine HE.out.mono ?_
      rintro e w1 ⟨rfl, hb1⟩
      go_wp2_with fail
      refine (HI.out w1).mono ?_
      rintro e w2 ⟨rfl, hb2⟩
      have HB : Hid (Below w.heap.size w w2) := hb1.trans (hb2.mono hb1.size)
      clear HE HI hb1 hb2
      go_wp2
      go_ret
      exact ⟨rfl, HB.out⟩
  · rw [i1] at HA
    by_cases ip : (1 : Int) ≤ pr
    · go_enter Tryd.func3, Tryd.ntmps3
      go_wp2_with fail
      refine HA.out.mono ?_
      rintro e w' ⟨rfl, hw⟩
      rw [hw]; clear hw w' HA
      go_wp2
      refine wp_loop_rounds 1 ?_
      rw [rounds_succ]
      go_wp2_with fail
      refine HD.out.mono ?_
      rintro e w' ⟨rfl, hw⟩
      rw [hw]; clear hw w' HD
      go_wp2_with fail
      refine HE.out.mono ?_
      rintro e w1 ⟨rfl, hb1⟩
      go_wp2_with fail
      refine (HI.out w1).mono ?_
      rintro e w2 ⟨rfl, hb2⟩
      have HB : Hid (Below w.heap.size w w2) := hb1.trans (hb2.mono hb1.size)
      clear HE HI hb1 hb2
      go_wp2
      go_ret
      exact ⟨rfl, HB.out⟩
    · go_enter Tryd.func3, Tryd.ntmps3
      go_wp2_with fail
      refine HA.out.mono ?_
      rintro e w' ⟨rfl, hw⟩
      rw [hw]; clear hw w' HA
      go_wp2
      refine wp_loop_rounds 1 ?_
      rw [rounds_succ]
      go_wp2_with fail
      refine HD.out.mono ?_
      rintro e w' ⟨rfl, hw⟩
      rw [hw]; clear hw w' HD
      go_wp2_with fail
      refine HE.out.mono ?_
      rintro e w1 ⟨rfl, hb1⟩
      go_wp2_with fail
      refine (HI.out w1).mono ?_
      rintro e w2 ⟨rfl, hb2⟩
      have HB : Hid (Below w.heap.size w w2) := hb1.trans (hb2.mono hb1.size)
      clear HE HI hb1 hb2
      go_wp2
      go_ret
      exact ⟨rfl, HB.out⟩
  · rw [i1] at HA
    by_cases ip : (1 : Int) ≤ pr
    · go_enter Tryd.func3, Tryd.ntmps3
      go_wp2_with fail
      refine HA.out.mono ?_
      rintro e w' ⟨rfl, hw⟩
      rw [hw]; clear hw w' HA
      go_wp2
      refine wp_loop_rounds 1 ?_
      rw [rounds_succ]
      go_wp2_with fail
      refine HD.out.mono ?_
      rintro e w' ⟨rfl, hw⟩
      rw [hw]; clear hw w' HD
      go_wp2_with fail
      refine HE.out.mono ?_
      rintro e w1 ⟨rfl, hb1⟩
      go_wp2_with fail
      refine (HI.out w1).mono ?_
      rintro e w2 ⟨rfl, hb2⟩
      have HB : Hid (Below w.heap.size w w2) := hb1.trans (hb2.mono hb1.size)
      clear HE HI hb1 hb2
      go_wp2
      go_ret
      exact ⟨rfl, HB.out⟩
    · go_enter Tryd.func3, Tryd.ntmps3
      go_wp2_with fail
      refine HA.out.mono ?_
      rintro e w' ⟨rfl, hw⟩
      rw [hw]; clear hw w' HA
      go_wp2
      refine wp_loop_rounds 1 ?_
      rw [rounds_succ]
      go_wp2_with fail
      refine HD.out.mono ?_
      rintro e w' ⟨rfl, hw⟩
      rw [hw]; clear hw w' HD
      go_wp2_with fail
      refine HE.out.mono ?_
      rintro e w1 ⟨rfl, hb1⟩
      go_wp2_with fail
      refine (HI.out w1).mono ?_
      rintro e w2 ⟨rfl, hb2⟩
      have HB : Hid (Below w.heap.size w w2) := hb1.trans (hb2.mono hb1.size)
      clear HE HI hb1 hb2
      go_wp2
      go_ret
      exact ⟨rfl, HB.out⟩
  · rw [i1] at HA
    by_cases ip : (1 : Int) ≤ pr
    · go_enter Tryd.func3, Tryd.ntmps3
      go_wp2_with fail
      refine HA.out.mono ?_
      rintro e w' ⟨rfl, hw⟩
      rw [hw]; clear hw w' HA
      go_wp2
      refine wp_loop_rounds 1 ?_
      rw [rounds_succ]
      go_wp2_with fail
      refine HD.out.mono ?_
      rintro e w' ⟨rfl, hw⟩
      rw [hw]; clear hw w' HD
      go_wp2_with fail
      refine HE.out.mono ?_
      rintro e w1 ⟨rfl, hb1⟩
      go_wp2_with fail
      refine (HI.out w1).mono ?_
      rintro e w2 ⟨rfl, hb2⟩
      have HB : Hid (Below w.heap.size w w2) := hb1.trans (hb2.mono hb1.size)
      clear HE HI hb1 hb2
      go_wp2
      go_ret
      exact ⟨rfl, HB.out⟩
    · go_enter Tryd.func3, Tryd.ntmps3
      go_wp2_with fail
      refine HA.out.mono ?_
      rintro e w' ⟨rfl, hw⟩
      rw [hw]; clear hw w' HA
      go_wp2
      refine wp_loop_rounds 1 ?_
      rw [rounds_succ]
      go_wp2_with fail
      refine HD.out.mono ?_
      rintro e w' ⟨rfl, hw⟩
      rw [hw]; clear hw w' HD
      go_wp2_with fail
      refine HE.out.mono ?_
      rintro e w1 ⟨rfl, hb1⟩
      go_wp2_with fail
      refine (HI.out w1).mono ?_
      rintro e w2 ⟨rfl, hb2⟩
      have HB : Hid (Below w.heap.size w w2) := hb1.trans (hb2.mono hb1.size)
      clear HE HI hb1 hb2
      go_wp2
      go_ret
      exact ⟨rfl, HB.out⟩
  · rw [i1] at HA
    by_cases ip : (1 : Int) ≤ pr
    · go_enter Tryd.func3, Tryd.ntmps3
      go_wp2_with fail
      refine HA.out.mono ?_
      rintro e w' ⟨rfl, hw⟩
      rw [hw]; clear hw w' HA
      go_wp2
      refine wp_loop_rounds 1 ?_
      rw [rounds_succ]
      go_wp2_with fail
      refine HD.out.mono ?_
      rintro e w' ⟨rfl, hw⟩
      rw [hw]; clear hw w' HD
      go_wp2_with fail
      refine HE.out.mono ?_
      rintro e w1 ⟨rfl, hb1⟩
      go_wp2_with fail
      refine (HI.out w1).mono ?_
      rintro e w2 ⟨rfl, hb2⟩
      have HB : Hid (Below w.heap.size w w2) := hb1.trans (hb2.mono hb1.size)
      clear HE HI hb1 hb2
      go_wp2
      go_ret
      exact ⟨rfl, HB.out⟩
    · go_enter Tryd.func3, Tryd.ntmps3
      go_wp2_with fail
      refine HA.out.mono ?_
      rintro e w' ⟨rfl, hw⟩
      rw [hw]; clear hw w' HA
      go_wp2
      refine wp_loop_rounds 1 ?_
      rw [rounds_succ]
      go_wp2_with fail
      refine HD.out.mono ?_
      rintro e w' ⟨rfl, hw⟩
      rw [hw]; clear hw w' HD
      go_wp2_with fail
      refine HE.out.mono ?_
      rintro e w1 ⟨rfl, hb1⟩
      go_wp2_with fail
      refine (HI.out w1).mono ?_
      rintro e w2 ⟨rfl, hb2⟩
      have HB : Hid (Below w.heap.size w w2) := hb1.trans (hb2.mono hb1.size)
      clear HE HI hb1 hb2
      go_wp2
      go_ret
      exact ⟨rfl, HB.out⟩
  · rw [i1] at HA
    have ip : ¬ (1 : Int) ≤ pr := by omega
    go_enter Tryd.func3, Tryd.ntmps3
    go_wp2_with fail
    refine HA.out.mono ?_
    rintro e w' ⟨rfl, hw⟩
    rw [hw]; clear hw w' HA
    go_wp2
    refine wp_loop_rounds 1 ?_
    rw [rounds_succ]
    go_wp2_with fail
    refine HD.out.mono ?_
    rintro e w' ⟨rfl, hw⟩
    rw [hw]; clear hw w' HD
    go_wp2_with fail
    refine HE.out.mono ?_
    rintro e w1 ⟨rfl, hb1⟩
    go_wp2_with fail
    refine (HI.out w1).mono ?_
    rintro e w2 ⟨rfl, hb2⟩
    have HB : Hid (Below w.heap.size w w2) := hb1.trans (hb2.mono hb1.size)
    clear HE HI hb1 hb2
    go_wp2
    go_ret
    exact ⟨rfl, HB.out⟩
  · rw [i1] at HA
    have ip : (1 : Int) ≤ pr := by omega
    go_enter Tryd.func3, Tryd.ntmps3
    go_wp2_with fail
    refine HA.out.mono ?_
    rintro e w' ⟨rfl, hw⟩
    rw [hw]; clear hw w' HA
    go_wp2
    refine wp_loop_rounds 1 ?_
    rw [rounds_succ]
    go_wp2_with fail
    refine HD.out.mono ?_
    rintro e w' ⟨rfl, hw⟩
    rw [hw]; clear hw w' HD
    go_wp2_with fail
    refine HE.out.mono ?_
    rintro e w1 ⟨rfl, hb1⟩
    go_wp2_with fail
    refine (HI.out w1).mono ?_
    rintro e w2 ⟨rfl, hb2⟩
    have HB : Hid (Below w.heap.size w w2) := hb1.trans (hb2.mono hb1.size)
    clear HE HI hb1 hb2
    go_wp2
    go_ret
    exact ⟨rfl, HB.out⟩
end Go.Proofs.YtphlcjghcffnbaaDoor
