/-
  Texts that are read; the contract of slices.Contains over them; what is wrong with a code.
-/
import Derived.Test.YthaidbicimiljaaZn6
import Derived.Test.YthaidbicimiljaaRows
import Derived.Test.YthaidbicimiljaaZn3
import Derived.WalkKit
import Derived.WalkSpells
import Derived.Lib.Mul64
import Derived.Laws.Bits64b
import Derived.Deep.QuietTactic
import Derived.BigQuiet
import Derived.Below
namespace Go.Proofs.Ythaidbicimiljaa
set_option linter.unusedVariables false
open Go.RowKit Math

/-- One step of the long division, as the loops of math/bits.Div64 take it: the guess in the first slot, what is left in the second. -/
theorem step_yes {u v y1 y0 q r : Nat} (h : DivSt u v y1 y0 q r) (hu : u < y1 * 4294967296 + y0) (hv : v < 4294967296) (hc : 4294967296 ≤ q ∨ (r : Int) * 4294967296 + v < (q : Int) * y0) :
    1 ≤ q ∧ DivSt u v y1 y0 (q - 1) (r + y1) := div_round u v y1 y0 q r h hu hv (hc.imp id (fun h => by
      have e : ((r * 4294967296 + v : Nat) : Int) < ((q * y0 : Nat) : Int) := by rw [Int.natCast_add, Int.natCast_mul, Int.natCast_mul]; exact h
      exact Int.ofNat_lt.1 e))
theorem step_stop {u v y1 y0 q r : Nat} (h : DivSt u v y1 y0 q r) (hu : u < y1 * 4294967296 + y0) (hc : (q : Int) * y0 ≤ (r : Int) * 4294967296 + v) : q = (u * 4294967296 + v) / (y1 * 4294967296 + y0) := div_stop u v y1 y0 q r h hu (by
      have e : ((q * y0 : Nat) : Int) ≤ ((r * 4294967296 + v : Nat) : Int) := by rw [Int.natCast_add, Int.natCast_mul, Int.natCast_mul]; exact hc
      exact Int.ofNat_le.1 e)

set_option maxHeartbeats 4000000 in
set_option maxRecDepth 100000 in
theorem div64_core (hi lo y : Int) (b : Nat) (w : World) (h0 : 1 ≤ hi) (h1 : hi < y) (h2 : y < 18446744073709551616) (h3 : 0 ≤ lo) (h4 : lo < 18446744073709551616)
    (hl : b ≤ 64) (hl1 : 1 ≤ b) (Hb : Hid (Lib.bitLen y.toNat = b))
    (Y H Lq u V y1 y0 v1 v0 q r u2 q2 r2 R : Nat)
    (rY : IntKind.u64.wrap (y * 2 ^ (64 - b)) = Y) (rH : IntKind.u64.wrap (hi * 2 ^ (64 - b)) = H) (rL : lo / 2 ^ (64 - (64 - b)) = Lq) (rU : bits .or .u64 H Lq = u) (rV : IntKind.u64.wrap (lo * 2 ^ (64 - b)) = V)
    (rY1 : (Y : Int) / 4294967296 = y1) (rY0 : bits .and .u64 (Y : Int) 4294967295 = y0) (rV1 : (V : Int) / 4294967296 = v1) (rV0 : bits .and .u64 (V : Int) 4294967295 = v0)
    (b1 : (2147483648 : Int) ≤ y1) (b2 : (y1 : Int) < 4294967296) (b3 : (y0 : Int) < 4294967296) (b4 : (v1 : Int) < 4294967296) (b5 : (v0 : Int) < 4294967296) (b6 : (u : Int) < 18446744073709551616)
    (rq : IntKind.u64.wrap ((u : Int) / y1) = q) (rr : IntKind.u64.wrap (u - IntKind.u64.wrap (q * y1)) = r)
    (Hu : Hid (u < y1 * 4294967296 + y0)) (Hs : Hid (DivSt u v1 y1 y0 q r)) (hr : (r : Int) < 4294967296) (hq : (q : Int) < 18446744073709551616)
    (Q : Nat) (HQ : Hid (Q = (u * 4294967296 + v1) / (y1 * 4294967296 + y0))) (hQ : (Q : Int) < 4294967296)
    (rW : IntKind.u64.wrap (IntKind.u64.wrap (IntKind.u64.wrap ((u : Int) * 4294967296) + v1) - IntKind.u64.wrap ((Q : Int) * Y)) = u2) (b7 : (u2 : Int) < 18446744073709551616)
    (rq2 : IntKind.u64.wrap ((u2 : Int) / y1) = q2) (rr2 : IntKind.u64.wrap (u2 - IntKind.u64.wrap (q2 * y1)) = r2)
    (Hu2 : Hid (u2 < y1 * 4294967296 + y0)) (Hs2 : Hid (DivSt u2 v0 y1 y0 q2 r2)) (hr2 : (r2 : Int) < 4294967296) (hq2 : (q2 : Int) < 18446744073709551616)
    (Q2 : Nat) (HQ2 : Hid (Q2 = (u2 * 4294967296 + v0) / (y1 * 4294967296 + y0))) (hQ2 : (Q2 : Int) < 4294967296)
    (rR : IntKind.u64.wrap (IntKind.u64.wrap (IntKind.u64.wrap ((u2 : Int) * 4294967296) + v0) - IntKind.u64.wrap ((Q2 : Int) * Y)) = R) :
    Calls Try.prog 55 #[.int .u64 hi, .int .u64 lo, .int .u64 y] w fun e w' => e = .returned (.tuple #[.int .u64 ((Q : Int) * 4294967296 + Q2), .int .u64 ((R : Int) / 2 ^ (64 - b))]) ∧ w' = w := by
  have d0 : (y == 0) = false := by simp; omega
  have d1 : (hi == 0) = false := by simp; omega
  have d2 : ¬ y ≤ hi := by omega
  have d3 : ((y1 : Int) == 0) = false := by simp; omega
  go_enter Try.func55, Try.ntmps55
  go_wp2_with fail
  refine (lead_any _ _ (by omega) h2).mono ?_
  rintro e w' ⟨rfl, hw⟩
  rw [hw, Hb.out]; clear hw w'
  go_wp2
  clear rY rH rL rU rV rY1 rY0 rV1 rV0 rq rr
  go_loop [15, 16] (fun tq tr => ∃ q r : Nat, (r : Int) < 4294967296 ∧ (q : Int) < 18446744073709551616 ∧ tq = .int .u64 q ∧ tr = .int .u64 r ∧ Hid (DivSt u v1 y1 y0 q r)) (fun tq _ => (RowKit.intOf tq).toNat)
  case atStart => exact ⟨q, r, hr, hq, rfl, rfl, Hs⟩
  case round =>
    obtain ⟨p, s, hs, hp, rfl, rfl, Hp⟩ := hrel
    have hexit : Hid (∀ n : Nat, n = (u * 4294967296 + v1) / (y1 * 4294967296 + y0) → n = Q) := fun n h => h.trans HQ.out.symm
    by_cases c1 : (4294967296 : Int) ≤ p
    · have S := step_yes Hp.out Hu.out (by omega) (.inl (by omega))
      have S1 : (1 : Int) ≤ p := by omega
      have S2 : Hid (DivSt u v1 y1 y0 (p - 1) (s + y1)) := S.2
      clear S Hp
      by_cases c2 : (4294967296 : Int) ≤ s + y1
      · have E := hexit.out _ (div_break u v1 y1 y0 _ _ S2.out Hu.out (by omega) (by omega))
        have e1 : (p : Int) - 1 = Q := by omega
        clear E
        clear S2
        go_wp2
        clear rW rq2 rr2
        go_loop [18, 16] (fun tq tr => ∃ q r : Nat, (r : Int) < 4294967296 ∧ (q : Int) < 18446744073709551616 ∧ tq = .int .u64 q ∧ tr = .int .u64 r ∧ Hid (DivSt u2 v0 y1 y0 q r)) (fun tq _ => (RowKit.intOf tq).toNat)
        case atStart => exact ⟨q2, r2, hr2, hq2, rfl, rfl, Hs2⟩
        case round =>
          obtain ⟨m, t, ht, hm, rfl, rfl, Hm⟩ := hrel
          have hexit2 : Hid (∀ n : Nat, n = (u2 * 4294967296 + v0) / (y1 * 4294967296 + y0) → n = Q2) := fun n h => h.trans HQ2.out.symm
          by_cases c1' : (4294967296 : Int) ≤ m
          · have S := step_yes Hm.out Hu2.out (by omega) (.inl (by omega))
            have S1' : (1 : Int) ≤ m := by omega
            have S2' : Hid (DivSt u2 v0 y1 y0 (m - 1) (t + y1)) := S.2
            clear S Hm
            by_cases c2' : (4294967296 : Int) ≤ t + y1
            · have E := hexit2.out _ (div_break u2 v0 y1 y0 _ _ S2'.out Hu2.out (by omega) (by omega))
              have e1' : (m : Int) - 1 = Q2 := by omega
              clear E
              clear S2'
              go_wp2
              go_ret2
              exact ⟨rfl, rfl⟩
            · go_wp2
              go_round
              case rel => exact ⟨m - 1, t + y1, by omega, by omega, by go_num, by go_num, S2'⟩
              case measure => simp [RowKit.intOf]; omega
          · have m0 : (0 : Int) ≤ (m : Int) * y0 := Int.mul_nonneg (by omega) (by omega)
            have m1 : (m : Int) * y0 < 18446744073709551616 := by
              have := Int.mul_le_mul (by omega : (m : Int) ≤ 4294967295) (by omega : (y0 : Int) ≤ 4294967295) (by omega) (by omega)
              omega
            by_cases c3' : (t : Int) * 4294967296 + v0 < (m : Int) * y0
            · have S := step_yes Hm.out Hu2.out (by omega) (.inr c3')
              have S1' : (1 : Int) ≤ m := by omega
              have S2' : Hid (DivSt u2 v0 y1 y0 (m - 1) (t + y1)) := S.2
              clear S Hm
              have c4' : 4294967296 * (t : Int) + v0 < (m : Int) * y0 := by omega
              by_cases c2' : (4294967296 : Int) ≤ t + y1
              · have E := hexit2.out _ (div_break u2 v0 y1 y0 _ _ S2'.out Hu2.out (by omega) (by omega))
                have e1' : (m : Int) - 1 = Q2 := by omega
                clear E
                clear S2'
                go_wp2
                go_ret2
                exact ⟨rfl, rfl⟩
              · go_wp2
                go_round
                case rel => exact ⟨m - 1, t + y1, by omega, by omega, by go_num, by go_num, S2'⟩
                case measure => simp [RowKit.intOf]; omega
            · have E := hexit2.out _ (step_stop Hm.out Hu2.out (by omega))
              subst E
              have c5' : ¬ (4294967296 * (t : Int) + v0 < (m : Int) * y0) := by omega
              clear Hm c3'
              go_wp2
              go_ret2
              exact ⟨rfl, rfl⟩
      · go_wp2
        go_round
        case rel => exact ⟨p - 1, s + y1, by omega, by omega, by go_num, by go_num, S2⟩
        case measure => simp [RowKit.intOf]; omega
    · have p0 : (0 : Int) ≤ (p : Int) * y0 := Int.mul_nonneg (by omega) (by omega)
      have p1 : (p : Int) * y0 < 18446744073709551616 := by
        have := Int.mul_le_mul (by omega : (p : Int) ≤ 4294967295) (by omega : (y0 : Int) ≤ 4294967295) (by omega) (by omega)
        omega
      by_cases c3 : (s : Int) * 4294967296 + v1 < (p : Int) * y0
      · have S := step_yes Hp.out Hu.out (by omega) (.inr c3)
        have S1 : (1 : Int) ≤ p := by omega
        have S2 : Hid (DivSt u v1 y1 y0 (p - 1) (s + y1)) := S.2
        clear S Hp
        have c4 : 4294967296 * (s : Int) + v1 < (p : Int) * y0 := by omega
        by_cases c2 : (4294967296 : Int) ≤ s + y1
        · have E := hexit.out _ (div_break u v1 y1 y0 _ _ S2.out Hu.out (by omega) (by omega))
          have e1 : (p : Int) - 1 = Q := by omega
          clear E
          clear S2
          go_wp2
          clear rW rq2 rr2
          go_loop [18, 16] (fun tq tr => ∃ q r : Nat, (r : Int) < 4294967296 ∧ (q : Int) < 18446744073709551616 ∧ tq = .int .u64 q ∧ tr = .int .u64 r ∧ Hid (DivSt u2 v0 y1 y0 q r)) (fun tq _ => (RowKit.intOf tq).toNat)
          case atStart => exact ⟨q2, r2, hr2, hq2, rfl, rfl, Hs2⟩
          case round =>
            obtain ⟨m, t, ht, hm, rfl, rfl, Hm⟩ := hrel
            have hexit2 : Hid (∀ n : Nat, n = (u2 * 4294967296 + v0) / (y1 * 4294967296 + y0) → n = Q2) := fun n h => h.trans HQ2.out.symm
            by_cases c1' : (4294967296 : Int) ≤ m
            · have S := step_yes Hm.out Hu2.out (by omega) (.inl (by omega))
              have S1' : (1 : Int) ≤ m := by omega
              have S2' : Hid (DivSt u2 v0 y1 y0 (m - 1) (t + y1)) := S.2
              clear S Hm
              by_cases c2' : (4294967296 : Int) ≤ t + y1
              · have E := hexit2.out _ (div_break u2 v0 y1 y0 _ _ S2'.out Hu2.out (by omega) (by omega))
                have e1' : (m : Int) - 1 = Q2 := by omega
                clear E
                clear S2'
                go_wp2
                go_ret2
                exact ⟨rfl, rfl⟩
              · go_wp2
                go_round
                case rel => exact ⟨m - 1, t + y1, by omega, by omega, by go_num, by go_num, S2'⟩
                case measure => simp [RowKit.intOf]; omega
            · have m0 : (0 : Int) ≤ (m : Int) * y0 := Int.mul_nonneg (by omega) (by omega)
              have m1 : (m : Int) * y0 < 18446744073709551616 := by
                have := Int.mul_le_mul (by omega : (m : Int) ≤ 4294967295) (by omega : (y0 : Int) ≤ 4294967295) (by omega) (by omega)
                omega
              by_cases c3' : (t : Int) * 4294967296 + v0 < (m : Int) * y0
              · have S := step_yes Hm.out Hu2.out (by omega) (.inr c3')
                have S1' : (1 : Int) ≤ m := by omega
                have S2' : Hid (DivSt u2 v0 y1 y0 (m - 1) (t + y1)) := S.2
                clear S Hm
                have c4' : 4294967296 * (t : Int) + v0 < (m : Int) * y0 := by omega
                by_cases c2' : (4294967296 : Int) ≤ t + y1
                · have E := hexit2.out _ (div_break u2 v0 y1 y0 _ _ S2'.out Hu2.out (by omega) (by omega))
                  have e1' : (m : Int) - 1 = Q2 := by omega
                  clear E
                  clear S2'
                  go_wp2
                  go_ret2
                  exact ⟨rfl, rfl⟩
                · go_wp2
                  go_round
                  case rel => exact ⟨m - 1, t + y1, by omega, by omega, by go_num, by go_num, S2'⟩
                  case measure => simp [RowKit.intOf]; omega
              · have E := hexit2.out _ (step_stop Hm.out Hu2.out (by omega))
                subst E
                have c5' : ¬ (4294967296 * (t : Int) + v0 < (m : Int) * y0) := by omega
                clear Hm c3'
                go_wp2
                go_ret2
                exact ⟨rfl, rfl⟩
        · go_wp2
          go_round
          case rel => exact ⟨p - 1, s + y1, by omega, by omega, by go_num, by go_num, S2⟩
          case measure => simp [RowKit.intOf]; omega
      · have E := hexit.out _ (step_stop Hp.out Hu.out (by omega))
        subst E
        have c5 : ¬ (4294967296 * (s : Int) + v1 < (p : Int) * y0) := by omega
        clear Hp c3
        go_wp2
        clear rW rq2 rr2
        go_loop [18, 16] (fun tq tr => ∃ q r : Nat, (r : Int) < 4294967296 ∧ (q : Int) < 18446744073709551616 ∧ tq = .int .u64 q ∧ tr = .int .u64 r ∧ Hid (DivSt u2 v0 y1 y0 q r)) (fun tq _ => (RowKit.intOf tq).toNat)
        case atStart => exact ⟨q2, r2, hr2, hq2, rfl, rfl, Hs2⟩
        case round =>
          obtain ⟨m, t, ht, hm, rfl, rfl, Hm⟩ := hrel
          have hexit2 : Hid (∀ n : Nat, n = (u2 * 4294967296 + v0) / (y1 * 4294967296 + y0) → n = Q2) := fun n h => h.trans HQ2.out.symm
          by_cases c1' : (4294967296 : Int) ≤ m
          · have S := step_yes Hm.out Hu2.out (by omega) (.inl (by omega))
            have S1' : (1 : Int) ≤ m := by omega
            have S2' : Hid (DivSt u2 v0 y1 y0 (m - 1) (t + y1)) := S.2
            clear S Hm
            by_cases c2' : (4294967296 : Int) ≤ t + y1
            · have E := hexit2.out _ (div_break u2 v0 y1 y0 _ _ S2'.out Hu2.out (by omega) (by omega))
              have e1' : (m : Int) - 1 = Q2 := by omega
              clear E
              clear S2'
              go_wp2
              go_ret2
              exact ⟨rfl, rfl⟩
            · go_wp2
              go_round
              case rel => exact ⟨m - 1, t + y1, by omega, by omega, by go_num, by go_num, S2'⟩
              case measure => simp [RowKit.intOf]; omega
          · have m0 : (0 : Int) ≤ (m : Int) * y0 := Int.mul_nonneg (by omega) (by omega)
            have m1 : (m : Int) * y0 < 18446744073709551616 := by
              have := Int.mul_le_mul (by omega : (m : Int) ≤ 4294967295) (by omega : (y0 : Int) ≤ 4294967295) (by omega) (by omega)
              omega
            by_cases c3' : (t : Int) * 4294967296 + v0 < (m : Int) * y0
            · have S := step_yes Hm.out Hu2.out (by omega) (.inr c3')
              have S1' : (1 : Int) ≤ m := by omega
              have S2' : Hid (DivSt u2 v0 y1 y0 (m - 1) (t + y1)) := S.2
              clear S Hm
              have c4' : 4294967296 * (t : Int) + v0 < (m : Int) * y0 := by omega
              by_cases c2' : (4294967296 : Int) ≤ t + y1
              · have E := hexit2.out _ (div_break u2 v0 y1 y0 _ _ S2'.out Hu2.out (by omega) (by omega))
                have e1' : (m : Int) - 1 = Q2 := by omega
                clear E
                clear S2'
                go_wp2
                go_ret2
                exact ⟨rfl, rfl⟩
              · go_wp2
                go_round
                case rel => exact ⟨m - 1, t + y1, by omega, by omega, by go_num, by go_num, S2'⟩
                case measure => simp [RowKit.intOf]; omega
            · have E := hexit2.out _ (step_stop Hm.out Hu2.out (by omega))
              subst E
              have c5' : ¬ (4294967296 * (t : Int) + v0 < (m : Int) * y0) := by omega
              clear Hm c3'
              go_wp2
              go_ret2
              exact ⟨rfl, rfl⟩
end Go.Proofs.Ythaidbicimiljaa

namespace Go.Proofs.Ythaidbicimiljaa
set_option linter.unusedVariables false
open Go.RowKit Go.Lib Math

theorem ret_int {k : IntKind} {a b : Int} (h : a = b) : Ending.returned (.int k a) = .returned (.int k b) := by rw [h]

theorem size_any (a : Int) (w : World) (h1 : -9223372036854775808 ≤ a) (h2 : a ≤ 9223372036854775807) :
    Calls Try.prog 54 #[.int .i64 a] w fun e w' => e = .returned (.int .u64 (absI a)) ∧ w' = w := by
  by_cases h : a < 0
  · go_enter Try.func54, Try.ntmps54
    go_wp2
    go_ret
    refine ⟨ret_int ?_, rfl⟩
    rw [IntKind.wrap_u64, IntKind.wrap_u64]; unfold absI; rw [if_pos h]; omega
  · go_enter Try.func54, Try.ntmps54
    go_wp2
    go_ret
    refine ⟨ret_int ?_, rfl⟩
    unfold absI; rw [if_neg (by omega)]

theorem maskN (a : Nat) (ha : a < 18446744073709551616) : bits .and .u64 (a : Int) 4294967295 = ((a % 4294967296 : Nat) : Int) := by
  have h := bits_and_u64_nat a 4294967295 ha (by omega)
  have e : a &&& 4294967295 = a % 4294967296 := Nat.and_two_pow_sub_one_eq_mod a 32
  rw [e] at h
  exact h
theorem divN (a : Nat) : (a : Int) / 4294967296 = ((a / 4294967296 : Nat) : Int) := by omega
theorem mulN (a b : Nat) : (a : Int) * (b : Int) = ((a * b : Nat) : Int) := (Int.natCast_mul a b).symm
theorem addN (a b : Nat) : (a : Int) + (b : Int) = ((a + b : Nat) : Int) := (Int.natCast_add a b).symm
theorem wrapN (a : Nat) (ha : a < 18446744073709551616) : IntKind.u64.wrap (a : Int) = (a : Int) := by rw [IntKind.wrap_u64]; omega
theorem wrapM (a : Nat) : IntKind.u64.wrap (a : Int) = ((a % 18446744073709551616 : Nat) : Int) := by rw [IntKind.wrap_u64]; omega

set_option maxHeartbeats 1000000 in
theorem mul64_nat (x y : Nat) (hx : x < 18446744073709551616) (hy : y < 18446744073709551616) (w : World) :
    Calls Try.prog 53 #[.int .u64 x, .int .u64 y] w fun e w' => e = .returned (.tuple #[.int .u64 ((x * y / 18446744073709551616 : Nat) : Int), .int .u64 ((x * y % 18446744073709551616 : Nat) : Int)]) ∧ w' = w := by
  obtain ⟨bd, bt, bw, hhi⟩ := Lib.mul64_hi x y hx hy
  have ba := Lib.half_mul_le (a := x / 4294967296) (b := y / 4294967296) (by omega) (by omega)
  have bb := Lib.half_mul_le (a := x / 4294967296) (b := y % 4294967296) (by omega) (by omega)
  have bc := Lib.half_mul_le (a := x % 4294967296) (b := y / 4294967296) (by omega) (by omega)
  have ba' : x / 4294967296 * (y / 4294967296) < 18446744073709551616 := by omega
  have bb' : x / 4294967296 * (y % 4294967296) < 18446744073709551616 := by omega
  have bc' : x % 4294967296 * (y / 4294967296) < 18446744073709551616 := by omega
  have bh1 : x / 4294967296 * (y / 4294967296) + (x / 4294967296 * (y % 4294967296) + x % 4294967296 * (y % 4294967296) / 4294967296) / 4294967296 < 18446744073709551616 := by omega
  have bh : x / 4294967296 * (y / 4294967296) + (x / 4294967296 * (y % 4294967296) + x % 4294967296 * (y % 4294967296) / 4294967296) / 4294967296 + ((x / 4294967296 * (y % 4294967296) + x % 4294967296 * (y % 4294967296) / 4294967296) % 4294967296 + x % 4294967296 * (y / 4294967296)) / 4294967296 < 18446744073709551616 := by omega
  go_enter Try.func53, Try.ntmps53
  go_wp2
  simp only [maskN x hx, maskN y hy, divN, mulN, addN, wrapN _ bd, wrapN _ bb', wrapN _ bt, maskN _ bt, wrapN _ bc', wrapN _ bw, wrapN _ ba', wrapN _ bh1, wrapN _ bh, wrapM (x * y)]
  rw [hhi]
  go_ret2
  exact ⟨rfl, rfl⟩

theorem mul64_any (x y : Int) (w : World) (hx0 : 0 ≤ x) (hx : x < 18446744073709551616) (hy0 : 0 ≤ y) (hy : y < 18446744073709551616) :
    Calls Try.prog 53 #[.int .u64 x, .int .u64 y] w fun e w' => e = .returned (.tuple #[.int .u64 (x * y / 18446744073709551616), .int .u64 (x * y % 18446744073709551616)]) ∧ w' = w := by
  obtain ⟨x, rfl⟩ := Int.eq_ofNat_of_zero_le hx0
  obtain ⟨y, rfl⟩ := Int.eq_ofNat_of_zero_le hy0
  refine (mul64_nat x y (by omega) (by omega) w).mono ?_
  rintro e w' ⟨rfl, rfl⟩
  refine ⟨?_, rfl⟩
  rw [Int.natCast_ediv, Int.natCast_emod, Int.natCast_mul]; rfl

theorem withSign_no (s : Int) (w : World) (h0 : 0 ≤ s) (h1 : s ≤ 9223372036854775807) :
    Calls Try.prog 74 #[.int .u64 s, .bool false] w fun e w' => e = .returned (.int .i64 s) ∧ w' = w := by
  go_enter Try.func74, Try.ntmps74
  go_wp2
  go_ret
  exact ⟨rfl, rfl⟩

theorem withSign_yes (s : Int) (w : World) (h0 : 0 ≤ s) (h1 : s ≤ 9223372036854775808) :
    Calls Try.prog 74 #[.int .u64 s, .bool true] w fun e w' => e = .returned (.int .i64 (-s)) ∧ w' = w := by
  go_enter Try.func74, Try.ntmps74
  go_wp2
  go_ret
  refine ⟨ret_int ?_, rfl⟩
  rw [IntKind.wrap_u64]; unfold wrap64; omega

theorem roundsUp_any (m r d : Int) (w : World) (h0 : 0 ≤ m) (h1 : 0 ≤ r) (h2 : r < d) (h3 : d ≤ 1000000000) :
    Calls Try.prog 57 #[.int .u64 m, .int .u64 r, .int .u64 d] w fun e w' => e = .returned (.int .u64 (upOf m r d)) ∧ w' = w := by
  go_enter Try.func57, Try.ntmps57
  go_wp2
  all_goals
    go_ret
    refine ⟨ret_int ?_, rfl⟩
    unfold upOf
    try simp only [beq_iff_eq, beq_eq_false_iff_ne] at *
    first | rw [if_pos (by omega)] | rw [if_neg (by omega)]
/-- What money.signed hands back where it does not fit. -/
abbrev errOver : Value := .iface 41 (.int .i64 10)

theorem signed_no (m u : Int) (w : World) (h0 : 0 ≤ m) (h1 : m < 18446744073709551616) (h2 : 0 ≤ u) (h3 : u ≤ 1) (h : m + u ≤ 9223372036854775807) :
    Calls Try.prog 56 #[.int .u64 m, .int .u64 u, .bool false] w fun e w' => e = .returned (.tuple #[.int .i64 (m + u), .nilIface]) ∧ w' = w := by
  have a1 : m ≤ 9223372036854775807 := by omega
  have a2 : u ≤ 9223372036854775807 - m := by omega
  go_enter Try.func56, Try.ntmps56
  go_wp2_with (first | (go_at_call 74; refine (withSign_no _ _ (by omega) (by omega)).mono ?_; rintro e w' ⟨rfl, rfl⟩))
  go_ret2
  exact ⟨rfl, rfl⟩

theorem signed_yes (m u : Int) (w : World) (h0 : 0 ≤ m) (h1 : m < 18446744073709551616) (h2 : 0 ≤ u) (h3 : u ≤ 1) (h : m + u ≤ 9223372036854775808) :
    Calls Try.prog 56 #[.int .u64 m, .int .u64 u, .bool true] w fun e w' => e = .returned (.tuple #[.int .i64 (-(m + u)), .nilIface]) ∧ w' = w := by
  have a1 : m ≤ 9223372036854775808 := by omega
  have a2 : u ≤ 9223372036854775808 - m := by omega
  go_enter Try.func56, Try.ntmps56
  go_wp2_with (first | (go_at_call 74; refine (withSign_yes _ _ (by omega) (by omega)).mono ?_; rintro e w' ⟨rfl, rfl⟩))
  go_ret2
  exact ⟨rfl, rfl⟩

theorem signed_no_over (m u : Int) (w : World) (h0 : 0 ≤ m) (h1 : m < 18446744073709551616) (h2 : 0 ≤ u) (h3 : u ≤ 1) (h : 9223372036854775807 < m + u) :
    Calls Try.prog 56 #[.int .u64 m, .int .u64 u, .bool false] w fun e w' => e = .returned (.tuple #[.int .i64 0, errOver]) ∧ w' = w := by
  by_cases a1 : m ≤ 9223372036854775807
  · have a2 : ¬ u ≤ 9223372036854775807 - m := by omega
    go_enter Try.func56, Try.ntmps56
    go_wp2
    go_ret2
    exact ⟨rfl, rfl⟩
  · go_enter Try.func56, Try.ntmps56
    go_wp2
    go_ret2
    exact ⟨rfl, rfl⟩

theorem signed_yes_over (m u : Int) (w : World) (h0 : 0 ≤ m) (h1 : m < 18446744073709551616) (h2 : 0 ≤ u) (h3 : u ≤ 1) (h : 9223372036854775808 < m + u) :
    Calls Try.prog 56 #[.int .u64 m, .int .u64 u, .bool true] w fun e w' => e = .returned (.tuple #[.int .i64 0, errOver]) ∧ w' = w := by
  by_cases a1 : m ≤ 9223372036854775808
  · have a2 : ¬ u ≤ 9223372036854775808 - m := by omega
    go_enter Try.func56, Try.ntmps56
    go_wp2
    go_ret2
    exact ⟨rfl, rfl⟩
  · go_enter Try.func56, Try.ntmps56
    go_wp2
    go_ret2
    exact ⟨rfl, rfl⟩
theorem div64_small (lo d : Int) (w : World) (h0 : 0 ≤ lo) (h1 : lo < 18446744073709551616) (hd : 1 ≤ d) (hd2 : d < 18446744073709551616) :
    Calls Try.prog 55 #[.int .u64 0, .int .u64 lo, .int .u64 d] w fun e w' => e = .returned (.tuple #[.int .u64 (lo / d), .int .u64 (lo % d)]) ∧ ∃ n, w' = w.drewN n := by
  have d0 : (d == 0) = false := by simp; omega
  go_enter Try.func55, Try.ntmps55
  go_wp2
  go_quiet (fail)
  go_wp2
  go_ret2
  exact ⟨rfl, _, rfl⟩
end Go.Proofs.Ythaidbicimiljaa

namespace Go.Proofs.Ythaidbicimiljaa
set_option linter.unusedVariables false
open Go.RowKit Math

theorem wrap_rest (u v Q Y R : Nat) (h : u * 4294967296 + v = Q * Y + R) (hR : R < 18446744073709551616) :
    IntKind.u64.wrap (IntKind.u64.wrap (IntKind.u64.wrap ((u : Int) * 4294967296) + v) - IntKind.u64.wrap ((Q : Int) * Y)) = R := by
  have e : (u : Int) * 4294967296 + v = (Q : Int) * Y + R := by
    have := congrArg (Nat.cast : Nat → Int) h
    rw [Int.natCast_add, Int.natCast_mul, Int.natCast_add, Int.natCast_mul] at this
    exact this
  rw [IntKind.wrap_u64, IntKind.wrap_u64, IntKind.wrap_u64, IntKind.wrap_u64]
  generalize (Q : Int) * Y = t at *
  omega
theorem wrap_quo (u y1 : Nat) (hu : u < 18446744073709551616) : IntKind.u64.wrap ((u : Int) / y1) = (u / y1 : Nat) := by
  rw [← Int.natCast_ediv]
  exact wrapN _ (Nat.lt_of_le_of_lt (Nat.div_le_self _ _) hu)
theorem wrap_rem (u y1 : Nat) (hu : u < 18446744073709551616) : IntKind.u64.wrap (u - IntKind.u64.wrap ((u / y1 : Nat) * y1)) = (u % y1 : Nat) := by
  have e := Nat.div_add_mod' u y1
  rw [mulN]
  generalize u / y1 * y1 = t at *
  generalize u % y1 = r at *
  rw [wrapN t (by omega), IntKind.wrap_u64]
  omega

theorem pow_split (b : Nat) (h : b ≤ 64) : 2 ^ (64 - b) * 2 ^ b = 18446744073709551616 := by
  rw [← Nat.pow_add, Nat.sub_add_cancel h]

theorem div64_nat (hi lo y : Nat) (w : World) (h0 : 1 ≤ hi) (h1 : hi < y) (h2 : y < 18446744073709551616) (h4 : lo < 18446744073709551616) :
    Calls Try.prog 55 #[.int .u64 hi, .int .u64 lo, .int .u64 y] w fun e w' => e = .returned (.tuple #[.int .u64 ((hi * 18446744073709551616 + lo) / y : Nat), .int .u64 ((hi * 18446744073709551616 + lo) % y : Nat)]) ∧ w' = w := by
  have hb0 := Lib.bitLenAux_bounds 64 y h2 (by omega)
  have hb : 1 ≤ Lib.bitLen y ∧ 2 ^ (Lib.bitLen y - 1) ≤ y ∧ y < 2 ^ Lib.bitLen y := hb0
  have hl := Lib.bitLen_le y 64 (by omega) h2
  clear hb0
  generalize hbe : Lib.bitLen y = b at *
  obtain ⟨hb1, hb2, hb3⟩ := hb
  have hPQ := pow_split b hl
  have hP2 : 2 ^ (64 - b) * 2 ^ (b - 1) = 9223372036854775808 := by
    rw [← Nat.pow_add, show 64 - b + (b - 1) = 63 by omega]
  have hPe : (2 : Int) ^ (64 - b) = ((2 ^ (64 - b) : Nat) : Int) := by rw [Int.natCast_pow]; rfl
  have hQe : (2 : Int) ^ (64 - (64 - b)) = ((2 ^ b : Nat) : Int) := by rw [show 64 - (64 - b) = b by omega, Int.natCast_pow]; rfl
  have hPpos : 0 < 2 ^ (64 - b) := Nat.two_pow_pos _
  have hQpos : 0 < 2 ^ b := Nat.two_pow_pos _
  have hor : ∀ x z : Nat, z < 2 ^ (64 - b) → x * 2 ^ (64 - b) ||| z = x * 2 ^ (64 - b) + z := fun x z hz => by
    rw [Nat.mul_comm, Nat.two_pow_add_eq_or_of_lt hz]
  generalize hPg : 2 ^ (64 - b) = P at *
  generalize hQg : 2 ^ b = Qp at *
  have hY1 : 9223372036854775808 ≤ y * P := by rw [← hP2, Nat.mul_comm y P]; exact Nat.mul_le_mul_left P hb2
  have hY2 : y * P < 18446744073709551616 := by rw [← hPQ, Nat.mul_comm y P]; exact Nat.mul_lt_mul_of_pos_left hb3 hPpos
  have hH : hi * P < 18446744073709551616 := Nat.lt_of_le_of_lt (Nat.mul_le_mul_right P (Nat.le_of_lt h1)) hY2
  have hLq : lo / Qp < P := by rw [Nat.div_lt_iff_lt_mul hQpos, hPQ]; exact h4
  have hLq2 : lo / Qp < 18446744073709551616 := Nat.lt_of_le_of_lt (Nat.div_le_self _ _) h4
  have hsp := shift_split lo P Qp hPQ
  have hu : hi * P + lo / Qp < y * P := by
    have e1 : (hi + 1) * P ≤ y * P := Nat.mul_le_mul_right P h1
    rw [Nat.add_mul] at e1
    omega
  have hm := div64_math hi lo y P Qp hPQ (by omega)
  simp only at hm
  have hV : lo * P % 18446744073709551616 < 18446744073709551616 := Nat.mod_lt _ (by omega)
  obtain ⟨V, hVg⟩ : ∃ V, V = lo * P % 18446744073709551616 := ⟨_, rfl⟩
  obtain ⟨u, hug⟩ : ∃ u, u = hi * P + lo / Qp := ⟨_, rfl⟩
  obtain ⟨Y, hYg⟩ : ∃ Y, Y = y * P := ⟨_, rfl⟩
  rw [← hVg] at hV hsp
  rw [← hug, ← hYg] at hu
  rw [← hYg] at hY1 hY2
  rw [← hug, ← hYg, ← hVg] at hm
  obtain ⟨v1, hv1⟩ : ∃ v1, v1 = V / 4294967296 := ⟨_, rfl⟩
  obtain ⟨v0, hv0⟩ : ∃ v0, v0 = V % 4294967296 := ⟨_, rfl⟩
  obtain ⟨y1, hy1⟩ : ∃ y1, y1 = Y / 4294967296 := ⟨_, rfl⟩
  obtain ⟨y0, hy0⟩ : ∃ y0, y0 = Y % 4294967296 := ⟨_, rfl⟩
  rw [← hv1, ← hv0] at hm
  have hYd : y1 * 4294967296 + y0 = Y := by rw [hy1, hy0]; exact Nat.div_add_mod' Y 4294967296
  have hv1b : v1 < 4294967296 := by omega
  have hv0b : v0 < 4294967296 := by omega
  have hY0 : 0 < Y := by omega
  obtain ⟨Q, hQe2⟩ : ∃ Q, Q = (u * 4294967296 + v1) / Y := ⟨_, rfl⟩
  obtain ⟨u2, hu2e⟩ : ∃ u2, u2 = (u * 4294967296 + v1) % Y := ⟨_, rfl⟩
  have hu2 : u2 < Y := by rw [hu2e]; exact Nat.mod_lt _ hY0
  have e1 : u * 4294967296 + v1 = Q * Y + u2 := by rw [hQe2, hu2e]; exact (Nat.div_add_mod' (u * 4294967296 + v1) Y).symm
  have hQ : Q < 4294967296 := by rw [hQe2]; exact quo_lt u v1 Y hu hv1b
  rw [← hQe2, ← hu2e] at hm
  obtain ⟨Q2, hQ2e⟩ : ∃ Q2, Q2 = (u2 * 4294967296 + v0) / Y := ⟨_, rfl⟩
  obtain ⟨R, hRe⟩ : ∃ R, R = (u2 * 4294967296 + v0) % Y := ⟨_, rfl⟩
  have hR : R < Y := by rw [hRe]; exact Nat.mod_lt _ hY0
  have e2 : u2 * 4294967296 + v0 = Q2 * Y + R := by rw [hQ2e, hRe]; exact (Nat.div_add_mod' (u2 * 4294967296 + v0) Y).symm
  have hQ2 : Q2 < 4294967296 := by rw [hQ2e]; exact quo_lt u2 v0 Y hu2 hv0b
  rw [← hQ2e, ← hRe] at hm
  have r1 := wrap_rest u v1 Q Y u2 e1 (by omega)
  have r2 := wrap_rest u2 v0 Q2 Y R e2 (by omega)
  have hy1p : 0 < y1 := by omega
  have hst1 := div_start u v1 y1 y0 hy1p hv1b
  have hst2 := div_start u2 v0 y1 y0 hy1p hv0b
  have hmod1 : u % y1 < y1 := Nat.mod_lt _ hy1p
  have hmod2 : u2 % y1 < y1 := Nat.mod_lt _ hy1p
  have hq1 : u / y1 ≤ u := Nat.div_le_self _ _
  have hq2 : u2 / y1 ≤ u2 := Nat.div_le_self _ _
  have eV1 : ((V : Int) / 4294967296) = (v1 : Int) := by rw [hv1]; exact divN V
  have eY1 : ((Y : Int) / 4294967296) = (y1 : Int) := by rw [hy1]; exact divN Y
  have eV0 : bits .and .u64 (V : Int) 4294967295 = (v0 : Int) := by rw [hv0]; exact maskN V hV
  have eY0 : bits .and .u64 (Y : Int) 4294967295 = (y0 : Int) := by rw [hy0]; exact maskN Y (by omega)
  have eY : IntKind.u64.wrap ((y : Int) * 2 ^ (64 - b)) = Y := by rw [hPe, mulN, ← hYg]; exact wrapN Y (by omega)
  have eH : IntKind.u64.wrap ((hi : Int) * 2 ^ (64 - b)) = (hi * P : Nat) := by rw [hPe, mulN]; exact wrapN _ hH
  have eL : (lo : Int) / 2 ^ (64 - (64 - b)) = (lo / Qp : Nat) := by rw [hQe, ← Int.natCast_ediv]
  have eU : bits .or .u64 ((hi * P : Nat) : Int) ((lo / Qp : Nat) : Int) = (u : Int) := by rw [bits_or_u64_nat _ _ hH hLq2, hor _ _ hLq, ← hug]
  have eV : IntKind.u64.wrap ((lo : Int) * 2 ^ (64 - b)) = V := by rw [hPe, mulN, wrapM, ← hVg]
  have key := div64_core hi lo y b w (by omega) (by omega) (by omega) (by omega) (by omega) hl hb1 (show Lib.bitLen (y : Int).toNat = b by rw [Int.toNat_natCast]; exact hbe)
    Y (hi * P) (lo / Qp) u V y1 y0 v1 v0 (u / y1) (u % y1) u2 (u2 / y1) (u2 % y1) R
    eY eH eL eU eV eY1 eY0 eV1 eV0 (by omega) (by omega) (by omega) (by omega) (by omega) (by omega) (wrap_quo u _ (by omega)) (wrap_rem u _ (by omega))
    (show u < y1 * 4294967296 + y0 by rw [hYd]; exact hu) hst1 (by omega) (by omega)
    Q (show Q = (u * 4294967296 + v1) / (y1 * 4294967296 + y0) by rw [hYd]; exact hQe2) (by omega) r1 (by omega) (wrap_quo u2 _ (by omega)) (wrap_rem u2 _ (by omega))
    (show u2 < y1 * 4294967296 + y0 by rw [hYd]; exact hu2) hst2 (by omega) (by omega)
    Q2 (show Q2 = (u2 * 4294967296 + v0) / (y1 * 4294967296 + y0) by rw [hYd]; exact hQ2e) (by omega) r2
  refine key.mono ?_
  rintro e w' ⟨rfl, hw⟩
  refine ⟨?_, hw⟩
  rw [← hm.1, ← hm.2, hPe, Int.natCast_add, Int.natCast_mul, Int.natCast_ediv]
  rfl
end Go.Proofs.Ythaidbicimiljaa

namespace Go.Proofs.Ythaidbicimiljaa
set_option linter.unusedVariables false
open Go.RowKit Go.Lib Math

theorem isPart_yes (n : Int) (w : World) (h0 : 0 ≤ n) (h1 : n ≤ 1000000000) :
    Calls Try.prog 52 #[.int .i64 n] w fun e w' => e = .returned (.bool true) ∧ w' = w := by
  go_enter Try.func52, Try.ntmps52
  go_wp2
  go_ret
  exact ⟨rfl, rfl⟩
theorem isPart_no (n : Int) (w : World) (h : n < 0 ∨ 1000000000 < n) :
    Calls Try.prog 52 #[.int .i64 n] w fun e w' => e = .returned (.bool false) ∧ w' = w := by
  rcases h with h | h
  · go_enter Try.func52, Try.ntmps52
    go_wp2
    go_ret
    exact ⟨rfl, rfl⟩
  · have h' : ¬ n < 0 := by omega
    go_enter Try.func52, Try.ntmps52
    go_wp2
    go_ret
    refine ⟨?_, rfl⟩
    simp; omega

theorem ratio_small (a n d : Int) (w : World) (ha : -1000000000 ≤ a) (ha2 : a ≤ 1000000000) (hn : 0 ≤ n) (hn2 : n ≤ 1000000000) (hd : 1 ≤ d) (hd2 : d ≤ 1000000000) :
    Calls Try.prog 31 #[.int .i64 a, .int .i64 n, .int .i64 d] w fun e w' => e = .returned (.tuple #[.int .i64 (ratioV a n d), .nilIface]) ∧ ∃ n, w' = w.drewN n := by
  have d0 : (d == 0) = false := by simp; omega
  have m0 := absI_nonneg a
  have m1 : absI a ≤ 1000000000 := by unfold absI; split <;> omega
  have p0 := Int.mul_nonneg m0 hn
  have p1 : absI a * n ≤ 1000000000 * 1000000000 := Int.mul_le_mul m1 hn2 hn (by omega)
  have q0 := Int.ediv_nonneg p0 (by omega : (0 : Int) ≤ d)
  have q1 : absI a * n / d ≤ absI a * n := Int.ediv_le_self _ p0
  have r0 := Int.emod_nonneg (absI a * n) (b := d) (by omega)
  have r1 := Int.emod_lt_of_pos (absI a * n) (b := d) (by omega)
  have hz : absI a * n / 18446744073709551616 = 0 := by omega
  have hy : absI a * n % 18446744073709551616 = absI a * n := by omega
  have Hz : Hid (absI a * n / 18446744073709551616 = 0) := hz
  have Hy : Hid (absI a * n % 18446744073709551616 = absI a * n) := hy
  clear hz hy
  go_enter Try.func31, Try.ntmps31
  go_wp2_with fail
  refine (isPart_yes _ _ hn hn2).mono ?_
  rintro e w' ⟨rfl, hw⟩
  rw [hw]; clear hw w'
  go_wp2_with fail
  refine (isPart_yes _ _ (by omega) hd2).mono ?_
  rintro e w' ⟨rfl, hw⟩
  rw [hw]; clear hw w'
  go_wp2_with fail
  refine (size_any _ _ (by omega) (by omega)).mono ?_
  rintro e w' ⟨rfl, hw⟩
  rw [hw]; clear hw w'
  go_wp2_with fail
  refine (mul64_any _ _ _ (by omega) (by omega) (by omega) (by omega)).mono ?_
  rintro e w' ⟨rfl, hw⟩
  rw [hw, Hz.out, Hy.out]; clear hw w'
  go_wp2_with fail
  refine (div64_small _ _ _ (by omega) (by omega) (by omega) (by omega)).mono ?_
  rintro e w' ⟨rfl, k, hw⟩
  rw [hw]; clear hw w'
  go_wp2_with fail
  refine (roundsUp_any _ _ _ _ (by omega) (by omega) (by omega) (by omega)).mono ?_
  rintro e w' ⟨rfl, hw⟩
  rw [hw]; clear hw w'
  go_wp2_with fail
  by_cases h : a < 0
  · rw [decide_eq_true h]
    refine (signed_yes _ _ _ (by omega) (by omega) (upOf_bd _ _ _).1 (upOf_bd _ _ _).2 ?_).mono ?_
    · have u := (upOf_bd (absI a * n / d) (absI a * n % d) d).2; omega
    · rintro e w' ⟨rfl, hw⟩
      rw [hw]; clear hw w'
      go_wp2
      go_ret2
      refine ⟨?_, k, rfl⟩
      unfold ratioV partOf; rw [if_pos h]; rfl
  · rw [decide_eq_false h]
    refine (signed_no _ _ _ (by omega) (by omega) (upOf_bd _ _ _).1 (upOf_bd _ _ _).2 ?_).mono ?_
    · have u := (upOf_bd (absI a * n / d) (absI a * n % d) d).2; omega
    · rintro e w' ⟨rfl, hw⟩
      rw [hw]; clear hw w'
      go_wp2
      go_ret2
      refine ⟨?_, k, rfl⟩
      unfold ratioV partOf; rw [if_neg (by omega)]; rfl
end Go.Proofs.Ythaidbicimiljaa

namespace Go.Proofs.Ythaidbicimiljaa
set_option linter.unusedVariables false
open Go.RowKit Math

theorem div64_any (p d : Int) (w : World) (h0 : 0 ≤ p) (hd : 1 ≤ d) (hd2 : d < 18446744073709551616) (hp : p / 18446744073709551616 < d) :
    Calls Try.prog 55 #[.int .u64 (p / 18446744073709551616), .int .u64 (p % 18446744073709551616), .int .u64 d] w fun e w' => e = .returned (.tuple #[.int .u64 (p / d), .int .u64 (p % d)]) ∧ ∃ n, w' = w.drewN n := by
  obtain ⟨p, rfl⟩ := Int.eq_ofNat_of_zero_le h0
  obtain ⟨d, rfl⟩ := Int.eq_ofNat_of_zero_le (by omega : 0 ≤ d)
  obtain ⟨hi, hhi⟩ : ∃ hi, hi = p / 18446744073709551616 := ⟨_, rfl⟩
  obtain ⟨lo, hlo⟩ : ∃ lo, lo = p % 18446744073709551616 := ⟨_, rfl⟩
  have e1 : (p : Int) / 18446744073709551616 = hi := by omega
  have e2 : (p : Int) % 18446744073709551616 = lo := by omega
  have e3 : hi * 18446744073709551616 + lo = p := by rw [hhi, hlo]; exact Nat.div_add_mod' p 18446744073709551616
  have hlo2 : lo < 18446744073709551616 := by rw [hlo]; exact Nat.mod_lt _ (by omega)
  rw [e1, e2]
  rw [e1] at hp
  rcases Nat.eq_zero_or_pos hi with hz | hpos
  · have e4 : lo = p := by rw [hz, Nat.zero_mul, Nat.zero_add] at e3; exact e3
    rw [hz, e4]
    exact div64_small p d w (by omega) (by omega) hd hd2
  · refine (div64_nat hi lo d w hpos (by omega) (by omega) hlo2).mono ?_
    rintro e w' ⟨rfl, hw⟩
    rw [e3, Int.natCast_ediv, Int.natCast_emod]
    exact ⟨rfl, 0, hw⟩

/-- A part's size is the product over the divisor, or one more. -/
theorem part_ge (m n d : Int) : m * n / d ≤ partOf m n d ∧ partOf m n d ≤ m * n / d + 1 := by
  have u := upOf_bd (m * n / d) (m * n % d) d
  unfold partOf; omega

theorem ratio_range (a n d : Int) (w : World) (h : n < 0 ∨ 1000000000 < n ∨ d < 1 ∨ 1000000000 < d) :
    Calls Try.prog 31 #[.int .i64 a, .int .i64 n, .int .i64 d] w fun e w' => e = .returned (.tuple #[.int .i64 0, .iface 41 (.int .i64 1)]) ∧ w' = w := by
  by_cases hn : n < 0 ∨ 1000000000 < n
  · go_enter Try.func31, Try.ntmps31
    go_wp2_with fail
    refine (isPart_no _ _ hn).mono ?_
    rintro e w' ⟨rfl, hw⟩
    rw [hw]; clear hw w'
    go_wp2
    go_ret2
    exact ⟨rfl, rfl⟩
  · by_cases hd : d < 0 ∨ 1000000000 < d
    · go_enter Try.func31, Try.ntmps31
      go_wp2_with fail
      refine (isPart_yes _ _ (by omega) (by omega)).mono ?_
      rintro e w' ⟨rfl, hw⟩
      rw [hw]; clear hw w'
      go_wp2_with fail
      refine (isPart_no _ _ hd).mono ?_
      rintro e w' ⟨rfl, hw⟩
      rw [hw]; clear hw w'
      go_wp2
      go_ret2
      exact ⟨rfl, rfl⟩
    · obtain rfl : d = 0 := by omega
      go_enter Try.func31, Try.ntmps31
      go_wp2_with fail
      refine (isPart_yes _ _ (by omega) (by omega)).mono ?_
      rintro e w' ⟨rfl, hw⟩
      rw [hw]; clear hw w'
      go_wp2_with fail
      refine (isPart_yes _ _ (by omega) (by omega)).mono ?_
      rintro e w' ⟨rfl, hw⟩
      rw [hw]; clear hw w'
      go_wp2
      go_ret2
      exact ⟨rfl, rfl⟩

/-- What money.Ratio hands back of numbers in range. -/
def ratV (a n d : Int) : Int := if partOf (absI a) n d ≤ 9223372036854775807 + (if a < 0 then 1 else 0) then ratioV a n d else 0
def ratE (a n d : Int) : Value := if partOf (absI a) n d ≤ 9223372036854775807 + (if a < 0 then 1 else 0) then .nilIface else .iface 41 (.int .i64 10)

set_option maxHeartbeats 1000000 in
theorem ratio_any (a n d : Int) (w : World) (ha : -9223372036854775808 ≤ a) (ha2 : a ≤ 9223372036854775807) (hn : 0 ≤ n) (hn2 : n ≤ 1000000000) (hd : 1 ≤ d) (hd2 : d ≤ 1000000000) :
    Calls Try.prog 31 #[.int .i64 a, .int .i64 n, .int .i64 d] w fun e w' => e = .returned (.tuple #[.int .i64 (ratV a n d), ratE a n d]) ∧ ∃ n, w' = w.drewN n := by
  have d0 : (d == 0) = false := by simp; omega
  have m0 := absI_nonneg a
  have m1 : absI a ≤ 9223372036854775808 := by unfold absI; split <;> omega
  have p0 := Int.mul_nonneg m0 hn
  have q0 := Int.ediv_nonneg p0 (by omega : (0 : Int) ≤ d)
  have r0 := Int.emod_nonneg (absI a * n) (b := d) (by omega)
  have r1 := Int.emod_lt_of_pos (absI a * n) (b := d) (by omega)
  have pg := part_ge (absI a) n d
  have ub := upOf_bd (absI a * n / d) (absI a * n % d) d
  have z0 : 0 ≤ absI a * n / 18446744073709551616 := by omega
  have z1 : 0 ≤ absI a * n % 18446744073709551616 := by omega
  have z2 : absI a * n % 18446744073709551616 < 18446744073709551616 := by omega
  have eq1 : Hid (partOf (absI a) n d = absI a * n / d + upOf (absI a * n / d) (absI a * n % d) d) := rfl
  by_cases hover : d ≤ absI a * n / 18446744073709551616
  · have big : 18446744073709551616 ≤ absI a * n / d := by
      rw [Int.le_ediv_iff_mul_le (by omega)]
      have := Int.mul_le_mul_of_nonneg_left hover (by omega : (0 : Int) ≤ 18446744073709551616)
      omega
    have no : ¬ (partOf (absI a) n d ≤ 9223372036854775807 + (if a < 0 then 1 else 0)) := by split <;> omega
    have res : Hid (ratV a n d = 0 ∧ ratE a n d = .iface 41 (.int .i64 10)) := by
      unfold Hid ratV ratE; rw [if_neg no, if_neg no]; exact ⟨rfl, rfl⟩
    clear no big pg ub q0 r0 r1
    go_enter Try.func31, Try.ntmps31
    go_wp2_with fail
    refine (isPart_yes _ _ hn hn2).mono ?_
    rintro e w' ⟨rfl, hw⟩
    rw [hw]; clear hw w'
    go_wp2_with fail
    refine (isPart_yes _ _ (by omega) hd2).mono ?_
    rintro e w' ⟨rfl, hw⟩
    rw [hw]; clear hw w'
    go_wp2_with fail
    refine (size_any _ _ (by omega) (by omega)).mono ?_
    rintro e w' ⟨rfl, hw⟩
    rw [hw]; clear hw w'
    go_wp2_with fail
    refine (mul64_any _ _ _ (by omega) (by omega) (by omega) (by omega)).mono ?_
    rintro e w' ⟨rfl, hw⟩
    rw [hw]; clear hw w'
    go_wp2
    go_ret2
    refine ⟨?_, 0, rfl⟩
    rw [res.out.1, res.out.2]
    rfl
  · have hlt : absI a * n / d < 18446744073709551616 := by
      rw [Int.ediv_lt_iff_lt_mul (by omega)]
      have h5 : absI a * n < (absI a * n / 18446744073709551616 + 1) * 18446744073709551616 := by omega
      have h6 := Int.mul_le_mul_of_nonneg_right (by omega : absI a * n / 18446744073709551616 + 1 ≤ d) (by omega : (0 : Int) ≤ 18446744073709551616)
      omega
    by_cases ok : partOf (absI a) n d ≤ 9223372036854775807 + (if a < 0 then 1 else 0)
    · have res : Hid (ratV a n d = ratioV a n d ∧ ratE a n d = .nilIface) := by
        unfold Hid ratV ratE; rw [if_pos ok, if_pos ok]; exact ⟨rfl, rfl⟩
      have Ok : Hid (partOf (absI a) n d ≤ 9223372036854775807 + (if a < 0 then 1 else 0)) := ok
      clear ok pg
      go_enter Try.func31, Try.ntmps31
      go_wp2_with fail
      refine (isPart_yes _ _ hn hn2).mono ?_
      rintro e w' ⟨rfl, hw⟩
      rw [hw]; clear hw w'
      go_wp2_with fail
      refine (isPart_yes _ _ (by omega) hd2).mono ?_
      rintro e w' ⟨rfl, hw⟩
      rw [hw]; clear hw w'
      go_wp2_with fail
      refine (size_any _ _ (by omega) (by omega)).mono ?_
      rintro e w' ⟨rfl, hw⟩
      rw [hw]; clear hw w'
      go_wp2_with fail
      refine (mul64_any _ _ _ (by omega) (by omega) (by omega) (by omega)).mono ?_
      rintro e w' ⟨rfl, hw⟩
      rw [hw]; clear hw w'
      go_wp2_with fail
      refine (div64_any _ _ _ (by omega) (by omega) (by omega) (by omega)).mono ?_
      rintro e w' ⟨rfl, k, hw⟩
      rw [hw]; clear hw w'
      go_wp2_with fail
      refine (roundsUp_any _ _ _ _ (by omega) (by omega) (by omega) (by omega)).mono ?_
      rintro e w' ⟨rfl, hw⟩
      rw [hw]; clear hw w'
      go_wp2_with fail
      by_cases h : a < 0
      · rw [decide_eq_true h]
        have g := Ok.out
        rw [eq1.out, if_pos h] at g
        refine (signed_yes _ _ _ (by omega) (by omega) ub.1 ub.2 (by omega)).mono ?_
        rintro e w' ⟨rfl, hw⟩
        rw [hw]; clear hw w' g
        go_wp2
        go_ret2
        refine ⟨?_, k, rfl⟩
        rw [res.out.1, res.out.2]
        unfold ratioV partOf; rw [if_pos h]; rfl
      · rw [decide_eq_false h]
        have g := Ok.out
        rw [eq1.out, if_neg h] at g
        refine (signed_no _ _ _ (by omega) (by omega) ub.1 ub.2 (by omega)).mono ?_
        rintro e w' ⟨rfl, hw⟩
        rw [hw]; clear hw w' g
        go_wp2
        go_ret2
        refine ⟨?_, k, rfl⟩
        rw [res.out.1, res.out.2]
        unfold ratioV partOf; rw [if_neg (by omega)]; rfl
    · have res : Hid (ratV a n d = 0 ∧ ratE a n d = .iface 41 (.int .i64 10)) := by
        unfold Hid ratV ratE; rw [if_neg ok, if_neg ok]; exact ⟨rfl, rfl⟩
      have Ok : Hid (¬ partOf (absI a) n d ≤ 9223372036854775807 + (if a < 0 then 1 else 0)) := ok
      clear ok pg
      go_enter Try.func31, Try.ntmps31
      go_wp2_with fail
      refine (isPart_yes _ _ hn hn2).mono ?_
      rintro e w' ⟨rfl, hw⟩
      rw [hw]; clear hw w'
      go_wp2_with fail
      refine (isPart_yes _ _ (by omega) hd2).mono ?_
      rintro e w' ⟨rfl, hw⟩
      rw [hw]; clear hw w'
      go_wp2_with fail
      refine (size_any _ _ (by omega) (by omega)).mono ?_
      rintro e w' ⟨rfl, hw⟩
      rw [hw]; clear hw w'
      go_wp2_with fail
      refine (mul64_any _ _ _ (by omega) (by omega) (by omega) (by omega)).mono ?_
      rintro e w' ⟨rfl, hw⟩
      rw [hw]; clear hw w'
      go_wp2_with fail
      refine (div64_any _ _ _ (by omega) (by omega) (by omega) (by omega)).mono ?_
      rintro e w' ⟨rfl, k, hw⟩
      rw [hw]; clear hw w'
      go_wp2_with fail
      refine (roundsUp_any _ _ _ _ (by omega) (by omega) (by omega) (by omega)).mono ?_
      rintro e w' ⟨rfl, hw⟩
      rw [hw]; clear hw w'
      go_wp2_with fail
      by_cases h : a < 0
      · rw [decide_eq_true h]
        have g := Ok.out
        rw [eq1.out, if_pos h] at g
        refine (signed_yes_over _ _ _ (by omega) (by omega) ub.1 ub.2 (by omega)).mono ?_
        rintro e w' ⟨rfl, hw⟩
        rw [hw]; clear hw w' g
        go_wp2
        go_ret2
        refine ⟨?_, k, rfl⟩
        rw [res.out.1, res.out.2]
        rfl
      · rw [decide_eq_false h]
        have g := Ok.out
        rw [eq1.out, if_neg h] at g
        refine (signed_no_over _ _ _ (by omega) (by omega) ub.1 ub.2 (by omega)).mono ?_
        rintro e w' ⟨rfl, hw⟩
        rw [hw]; clear hw w' g
        go_wp2
        go_ret2
        refine ⟨?_, k, rfl⟩
        rw [res.out.1, res.out.2]
        rfl
end Go.Proofs.Ythaidbicimiljaa

namespace Go.Proofs.Ythaidbicimiljaa
set_option linter.unusedVariables false
open Go.RowKit Go.Lib Go.Maps Math

theorem below_draws {B : Nat} {a w : World} (h : Below B a w) (n : Nat) : Below B a (w.drewN n) := ⟨h.os, h.tape, h.output, h.size, h.block⟩

/-- What rate.Convert hands back. -/
def convV (R : Int × Int × Int) (m : Int) : Int := if R.2.2 = 0 then ratV m R.2.1 R.1 else 0
def convE (R : Int × Int × Int) (m : Int) : Value := if R.2.2 = 0 then ratE m R.2.1 R.1 else errV R.2.2

set_option maxHeartbeats 1000000 in
theorem convert_any (a : Option Addr) (len cap : Nat) (S : Int × DataW Unit) (base f t : ByteArray) (p m : Int) (w : World) (ht : Calls Try.prog 68 #[.slice a len cap] w (TabEnd w S)) (hg : TabGood S.2) (hm : -9223372036854775808 ≤ m) (hm2 : m ≤ 9223372036854775807) :
    Calls Try.prog 25 #[.slice a len cap, .string base, .string f, .string t, .int .i64 p, .int .i64 m] w fun e w' => e = .returned (.tuple #[.int .i64 (convV (findS S base f t p) m), convE (findS S base f t p) m]) ∧ Below w.heap.size w w' := by
  have hf := find_any a len cap S base f t p w ht hg
  have hr := findS_range (base := base) (f := f) (t := t) (p := p) hg
  generalize findS S base f t p = R at *
  have Hf : Hid (Calls Try.prog 48 #[.slice a len cap, .string base, .string f, .string t, .int .i64 p] w fun e w' => e = .returned (.tuple #[.int .i64 R.1, .int .i64 R.2.1, errV R.2.2]) ∧ Below w.heap.size w w') := hf
  clear hf ht hg S
  obtain ⟨n, d, e⟩ := R
  by_cases he : e = 0
  · subst he
    have e1 : Hid (convV (n, d, 0) m = ratV m d n ∧ convE (n, d, 0) m = ratE m d n) := ⟨rfl, rfl⟩
    simp only [forall_const] at hr
    go_enter Try.func25, Try.ntmps25
    go_wp2_with fail
    refine Hf.out.mono ?_
    rintro e w1 ⟨rfl, B1⟩
    simp only [errV_zero]
    go_wp2_with fail
    refine (ratio_any m d n _ hm hm2 (by omega) (by omega) (by omega) (by omega)).mono ?_
    rintro e w2 ⟨rfl, k, hw⟩
    rw [hw]; clear hw w2
    go_wp2
    go_ret2
    refine ⟨?_, below_draws B1 k⟩
    rw [e1.out.1, e1.out.2]; rfl
  · have e1 : Hid (convV (n, d, e) m = 0 ∧ convE (n, d, e) m = .iface 41 (.int .i64 e)) := ⟨if_neg he, (if_neg he).trans (errV_ne he)⟩
    clear hr
    go_enter Try.func25, Try.ntmps25
    go_wp2_with fail
    refine Hf.out.mono ?_
    rintro e w1 ⟨rfl, B1⟩
    simp only [errV_ne he]
    go_wp2
    go_ret2
    refine ⟨?_, B1⟩
    rw [e1.out.1, e1.out.2]; rfl
end Go.Proofs.Ythaidbicimiljaa

namespace Go.Proofs.Ythaidbicimiljaa
set_option linter.unusedVariables false
set_option linter.unusedSimpArgs false
set_option maxRecDepth 100000
open Go.RowKit Go.Lib

/-- A slice of texts that is read. -/
structure IsTx (w : World) (a : Option Addr) (l : List ByteArray) (cap : Nat) : Prop where
  cap : l.length ≤ cap
  lies : l = [] ∨ ∃ b off, a = some ⟨b, off, none⟩ ∧ b < w.heap.size ∧ ∀ k, k < l.length → w.cell? ⟨b, off + k, none⟩ = some (.string (l.getD k ByteArray.empty))
theorem IsTx.below {w w' : World} {a : Option Addr} {l : List ByteArray} {cap : Nat} (h : IsTx w a l cap) (hb : Below w.heap.size w w') : IsTx w' a l cap := by
  refine ⟨h.cap, ?_⟩
  rcases h.lies with h | ⟨b, off, e, hlt, hc⟩
  · exact .inl h
  · exact .inr ⟨b, off, e, by have := hb.size; omega, fun k hk => (hb.cell (p := ⟨b, off + k, none⟩) hlt).trans (hc k hk)⟩
theorem tx_take_getD (l : List ByteArray) (k j : Nat) (h : j < k) : (l.take k).getD j ByteArray.empty = l.getD j ByteArray.empty := by
  rw [List.getD_eq_getElem?_getD, List.getD_eq_getElem?_getD, List.getElem?_take, if_pos h]
theorem IsTx.take {w : World} {a : Option Addr} {l : List ByteArray} {cap : Nat} (h : IsTx w a l cap) (k : Nat) : IsTx w a (l.take k) cap := by
  refine ⟨by have := h.cap; simp; omega, ?_⟩
  rcases h.lies with h | ⟨b, off, e, hlt, hc⟩
  · exact .inl (by rw [h]; simp)
  · refine .inr ⟨b, off, e, hlt, fun j hj => ?_⟩
    simp only [List.length_take] at hj
    rw [tx_take_getD l k j (by omega)]
    exact hc j (by omega)
theorem IsTx.at {w : World} {a : Option Addr} {l : List ByteArray} {cap : Nat} (h : IsTx w a l cap) {k : Nat} (hk : k < l.length) : ∃ b off, a = some ⟨b, off, none⟩ ∧ b < w.heap.size ∧ w.cell? ⟨b, off + k, none⟩ = some (.string (l.getD k ByteArray.empty)) := by
  rcases h.lies with rfl | ⟨b, off, e, hlt, hc⟩
  · simp at hk
  · exact ⟨b, off, e, hlt, hc k hk⟩
theorem TxtRow.isTx {w : World} {n : Nat} {v : Value} {fs : List ByteArray} (h : TxtRow w n v fs) : ∃ a cap, v = .slice a fs.length cap ∧ IsTx w a fs cap := by
  rcases h.form with ⟨rfl, rfl⟩ | ⟨g, cap, rfl, _, hlt, hc, hr⟩
  · exact ⟨none, 0, rfl, Nat.le_refl _, .inl rfl⟩
  · exact ⟨_, cap, rfl, hc, .inr ⟨g, 0, rfl, hlt, fun k hk => by rw [Nat.zero_add]; exact hr k hk⟩⟩

set_option maxHeartbeats 1000000 in
theorem txIndex_some (b off cap : Nat) (fs : List ByteArray) (c : ByteArray) (w : World) (hlen : fs.length ≤ 1000) (hc : ∀ k, k < fs.length → w.cell? ⟨b, off + k, none⟩ = some (.string (fs.getD k ByteArray.empty))) :
    Calls Try.prog 77 #[.slice (some ⟨b, off, none⟩) fs.length cap, .string c] w fun e w' => e = .returned (.int .i64 (txtFrom c 0 fs)) ∧ w' = w := by
  have Hc : Hid (∀ k, k < fs.length → w.cell? ⟨b, off + k, none⟩ = some (.string (fs.getD k ByteArray.empty))) := hc
  have Hlen : (fs.length : Int) ≤ 1000 := by omega
  clear hc
  obtain ⟨res, hres⟩ : ∃ res, txtFrom c 0 fs = res := ⟨_, rfl⟩
  have Hres : Hid (txtFrom c 0 fs = res) := hres
  rw [hres]
  clear hres
  go_enter Try.func77, Try.ntmps77
  go_wp2
  go_loop [8] (fun i => ∃ k : Nat, k ≤ fs.length ∧ i = .int .i64 k ∧ Hid (txtFrom c k (fs.drop k) = res)) (fun i => fs.length - (RowKit.intOf i).toNat)
  case atStart => exact ⟨0, Nat.zero_le _, rfl, Hres.out⟩
  case round =>
    obtain ⟨k, hk, rfl, H⟩ := hrel
    by_cases hlt : k < fs.length
    · have hn := Hc.out k hlt
      have E : Hid ((if fs.getD k ByteArray.empty = c then (k : Int) else txtFrom c (k + 1) (fs.drop (k + 1))) = res) := by
        have := H.out
        rw [txt_drop fs k hlt] at this
        exact this
      clear H
      generalize fs.getD k ByteArray.empty = x at *
      have i0 : (0 : Int) ≤ k := by omega
      have i1 : (k : Int) < fs.length := by omega
      by_cases hx : x = c
      · have er : res = k := by rw [← E.out, if_pos hx]
        subst er
        subst hx
        go_wp2
        go_ret
        exact ⟨rfl, rfl⟩
      · have hx' := ch_ne (fun e => hx (Eq.symm e) : c ≠ x)
        have HN : Hid (txtFrom c (k + 1) (fs.drop (k + 1)) = res) := by
          have := E.out; rw [if_neg hx] at this; exact this
        go_wp2
        go_round
        case rel => exact ⟨k + 1, by omega, by go_num, HN⟩
        case measure => simp [RowKit.intOf]; omega
    · have hk2 : k = fs.length := by omega
      subst hk2
      have er : res = -1 := by rw [← H.out, List.drop_length]; rfl
      subst er
      go_wp2
      go_ret
      exact ⟨rfl, rfl⟩

theorem txIndex_none (a : Option Addr) (cap : Nat) (c : ByteArray) (w : World) :
    Calls Try.prog 77 #[.slice a 0 cap, .string c] w fun e w' => e = .returned (.int .i64 (-1)) ∧ w' = w := by
  go_enter Try.func77, Try.ntmps77
  go_wp2
  refine wp_loop_rounds 1 ?_
  rw [rounds_succ]
  go_wp2
  go_ret
  exact ⟨rfl, rfl⟩

theorem txContains_any (a : Option Addr) (cap : Nat) (fs : List ByteArray) (c : ByteArray) (w : World) (hlen : fs.length ≤ 1000) (h : IsTx w a fs cap) :
    Calls Try.prog 61 #[.slice a fs.length cap, .string c] w fun e w' => e = .returned (.bool (memB c fs)) ∧ w' = w := by
  rw [← txtFrom_mem c fs 0]
  have hI : Calls Try.prog 77 #[.slice a fs.length cap, .string c] w fun e w' => e = .returned (.int .i64 (txtFrom c 0 fs)) ∧ w' = w := by
    rcases h.lies with rfl | ⟨b, off, rfl, _, hc⟩
    · exact txIndex_none a cap c w
    · exact txIndex_some b off cap fs c w hlen hc
  clear h
  go_enter Try.func61, Try.ntmps61
  go_wp2_with fail
  refine hI.mono ?_
  rintro e w' ⟨rfl, rfl⟩
  go_wp2
  go_ret
  exact ⟨rfl, rfl⟩

/-- What is wrong with a code: it is no account's, or no leaf's. -/
def leafBad (c : List Ac) (code : ByteArray) : Int := if idxP (hasCode code) c < 0 then 6 else if memB code (lvs c) = true then 0 else 12

/-- The first number that is not 0. -/
def firstTo (f : Nat → Int) : Nat → Int
  | 0 => 0
  | k + 1 => if firstTo f k ≠ 0 then firstTo f k else f k
theorem firstTo_next {f : Nat → Int} {k : Nat} (h : firstTo f k = 0) : firstTo f (k + 1) = f k := by
  unfold firstTo; rw [if_neg (by simp [h])]
theorem firstTo_stays {f : Nat → Int} {k : Nat} (h : firstTo f k ≠ 0) : ∀ n, k ≤ n → firstTo f n = firstTo f k
  | 0, hn => by obtain rfl : k = 0 := by omega
                rfl
  | n + 1, hn => by
    by_cases e : k = n + 1
    · subst e; rfl
    · have ih := firstTo_stays h n (by omega)
      show (if firstTo f n ≠ 0 then firstTo f n else f n) = _
      rw [if_pos (by rw [ih]; exact h), ih]
theorem firstTo_first {f : Nat → Int} {n k : Nat} (h0 : firstTo f k = 0) (h1 : f k ≠ 0) (hlt : k < n) : firstTo f n = f k := by
  have e := firstTo_next h0
  rw [firstTo_stays (k := k + 1) (by rw [e]; exact h1) n hlt, e]
theorem firstTo_zero {f : Nat → Int} : ∀ {n : Nat}, firstTo f n = 0 → ∀ k, k < n → f k = 0
  | 0, _, k, hk => by omega
  | n + 1, h, k, hk => by
    have h0 : firstTo f n = 0 := by
      by_cases e : firstTo f n = 0
      · exact e
      · rw [firstTo_stays e (n + 1) (by omega)] at h; exact absurd h e
    rw [firstTo_next h0] at h
    by_cases e : k = n
    · subst e; exact h
    · exact firstTo_zero h0 k (by omega)
theorem firstTo_of {f : Nat → Int} : ∀ {n : Nat}, (∀ k, k < n → f k = 0) → firstTo f n = 0
  | 0, _ => rfl
  | n + 1, h => by rw [firstTo_next (firstTo_of fun k hk => h k (by omega))]; exact h n (by omega)

end Go.Proofs.Ythaidbicimiljaa
