/-
  The contract of math/bits.Div64 where the high word is not 0.
-/
import Derived.Test.YtphlcjghcffnbaaDoorDiv
namespace Go.Proofs.YtphlcjghcffnbaaDoor
set_option linter.unusedVariables false
open Go.RowKit Math

/-- One step of the long division, as the loops of math/bits.Div64 take it: the guess in the first slot, what is left in the second. -/
theorem step_yes {u v y1 y0 q r : Nat} (h : DivSt u v y1 y0 q r) (hu : u < y1 * 4294967296 + y0) (hv : v < 4294967296) (hc : 4294967296 ≤ q ∨ (r : Int) * 4294967296 + v < (q : Int) * y0) :
    1 ≤ q ∧ DivSt u v y1 y0 (q - 1) (r + y1) := div_round u v y1 y0 q r h hu hv (hc.imp id (fun h => by
      have e : ((r * 4294967296 + v : Nat) : Int) < ((q * y0 : Nat) : Int) := by rw [Int.natCast_add, Int.natCast_mul, Int.natCast_mul]; exact h
      exact Int.ofNat_lt.1 e))
theorem step_stop {u v y1 y0 q r : Nat} (h : DivSt u v y1 y0 q r) (hu : u < y1 * 4294967296 + y0) (hc : (q : Int) * y0 ≤ (r : Int) * 4294967296 + v) : q = (u * 4294967296 + v) / (y1 * 4294967296 + y0) := div_stop u v y1 y0 q r h hu (by
      have e : ((q * y0 : Nat) : Int) ≤ ((r * 4294967296 + v : Nat) : Int) := by rw [Int.natCast_add, Int.natCast_mul, Int.natCast_mul]; exact hc
      exact Int.ofNat_le.1 e)

set_option maxHeartbeats 4000000 in
set_option maxRecDepth 100000 in
theorem div64_core (hi lo y : Int) (b : Nat) (w : World) (h0 : 1 ≤ hi) (h1 : hi < y) (h2 : y < 18446744073709551616) (h3 : 0 ≤ lo) (h4 : lo < 18446744073709551616)
    (hl : b ≤ 64) (hl1 : 1 ≤ b) (Hb : Hid (Lib.bitLen y.toNat = b))
    (Y H Lq u V y1 y0 v1 v0 q r u2 q2 r2 R : Nat)
    (rY : IntKind.u64.wrap (y * 2 ^ (64 - b)) = Y) (rH : IntKind.u64.wrap (hi * 2 ^ (64 - b)) = H) (rL : lo / 2 ^ (64 - (64 - b)) = Lq) (rU : bits .or .u64 H Lq = u) (rV : IntKind.u64.wrap (lo * 2 ^ (64 - b)) = V)
    (rY1 : (Y : Int) / 4294967296 = y1) (rY0 : bits .and .u64 (Y : Int) 4294967295 = y0) (rV1 : (V : Int) / 4294967296 = v1) (rV0 : bits .and .u64 (V : Int) 4294967295 = v0)
    (b1 : (2147483648 : Int) ≤ y1) (b2 : (y1 : Int) < 4294967296) (b3 : (y0 : Int) < 4294967296) (b4 : (v1 : Int) < 4294967296) (b5 : (v0 : Int) < 4294967296) (b6 : (u : Int) < 18446744073709551616)
    (rq : IntKind.u64.wrap ((u : Int) / y1) = q) (rr : IntKind.u64.wrap (u - IntKind.u64.wrap (q * y1)) = r)
    (Hu : Hid (u < y1 * 4294967296 + y0)) (Hs : Hid (DivSt u v1 y1 y0 q r)) (hr : (r : Int) < 4294967296) (hq : (q : Int) < 18446744073709551616)
    (Q : Nat) (HQ : Hid (Q = (u * 4294967296 + v1) / (y1 * 4294967296 + y0))) (hQ : (Q : Int) < 4294967296)
    (rW : IntKind.u64.wrap (IntKind.u64.wrap (IntKind.u64.wrap ((u : Int) * 4294967296) + v1) - IntKind.u64.wrap ((Q : Int) * Y)) = u2) (b7 : (u2 : Int) < 18446744073709551616)
    (rq2 : IntKind.u64.wrap ((u2 : Int) / y1) = q2) (rr2 : IntKind.u64.wrap (u2 - IntKind.u64.wrap (q2 * y1)) = r2)
    (Hu2 : Hid (u2 < y1 * 4294967296 + y0)) (Hs2 : Hid (DivSt u2 v0 y1 y0 q2 r2)) (hr2 : (r2 : Int) < 4294967296) (hq2 : (q2 : Int) < 18446744073709551616)
    (Q2 : Nat) (HQ2 : Hid (Q2 = (u2 * 4294967296 + v0) / (y1 * 4294967296 + y0))) (hQ2 : (Q2 : Int) < 4294967296)
    (rR : IntKind.u64.wrap (IntKind.u64.wrap (IntKind.u64.wrap ((u2 : Int) * 4294967296) + v0) - IntKind.u64.wrap ((Q2 : Int) * Y)) = R) :
    Calls Tryd.prog 36 #[.int .u64 hi, .int .u64 lo, .int .u64 y] w fun e w' => e = .returned (.tuple #[.int .u64 ((Q : Int) * 4294967296 + Q2), .int .u64 ((R : Int) / 2 ^ (64 - b))]) ∧ w' = w := by
  have d0 : (y == 0) = false := by simp; omega
  have d1 : (hi == 0) = false := by simp; omega
  have d2 : ¬ y ≤ hi := by omega
  have d3 : ((y1 : Int) == 0) = false := by simp; omega
  go_enter Tryd.func36, Tryd.ntmps36
  go_wp2_with fail
  refine (lead_any _ _ (by omega) h2).mono ?_
  rintro e w' ⟨rfl, hw⟩
  rw [hw, Hb.out]; clear hw w'
  go_wp2
  clear rY rH rL rU rV rY1 rY0 rV1 rV0 rq rr
  go_loop [15, 16] (fun tq tr => ∃ q r : Nat, (r : Int) < 4294967296 ∧ (q : Int) < 18446744073709551616 ∧ tq = .int .u64 q ∧ tr = .int .u64 r ∧ Hid (DivSt u v1 y1 y0 q r)) (fun tq _ => (intOf tq).toNat)
  case atStart => exact ⟨q, r, hr, hq, rfl, rfl, Hs⟩
  case round =>
    obtain ⟨p, s, hs, hp, rfl, rfl, Hp⟩ := hrel
    have hexit : Hid (∀ n : Nat, n = (u * 4294967296 + v1) / (y1 * 4294967296 + y0) → n = Q) := fun n h => h.trans HQ.out.symm
    by_cases c1 : (4294967296 : Int) ≤ p
    · have S := step_yes Hp.out Hu.out (by omega) (.inl (by omega))
      have S1 : (1 : Int) ≤ p := by omega
      have S2 : Hid (DivSt u v1 y1 y0 (p - 1) (s + y1)) := S.2
      clear S Hp
      by_cases c2 : (4294967296 : Int) ≤ s + y1
      · have E := hexit.out _ (div_break u v1 y1 y0 _ _ S2.out Hu.out (by omega) (by omega))
        have e1 : (p : Int) - 1 = Q := by omega
        clear E
        clear S2
        go_wp2
        clear rW rq2 rr2
        go_loop [18, 16] (fun tq tr => ∃ q r : Nat, (r : Int) < 4294967296 ∧ (q : Int) < 18446744073709551616 ∧ tq = .int .u64 q ∧ tr = .int .u64 r ∧ Hid (DivSt u2 v0 y1 y0 q r)) (fun tq _ => (intOf tq).toNat)
        case atStart => exact ⟨q2, r2, hr2, hq2, rfl, rfl, Hs2⟩
        case round =>
          obtain ⟨m, t, ht, hm, rfl, rfl, Hm⟩ := hrel
          have hexit2 : Hid (∀ n : Nat, n = (u2 * 4294967296 + v0) / (y1 * 4294967296 + y0) → n = Q2) := fun n h => h.trans HQ2.out.symm
          by_cases c1' : (4294967296 : Int) ≤ m
          · have S := step_yes Hm.out Hu2.out (by omega) (.inl (by omega))
            have S1' : (1 : Int) ≤ m := by omega
            have S2' : Hid (DivSt u2 v0 y1 y0 (m - 1) (t + y1)) := S.2
            clear S Hm
            by_cases c2' : (4294967296 : Int) ≤ t + y1
            · have E := hexit2.out _ (div_break u2 v0 y1 y0 _ _ S2'.out Hu2.out (by omega) (by omega))
              have e1' : (m : Int) - 1 = Q2 := by omega
              clear E
              clear S2'
              go_wp2
              go_ret2
              exact ⟨rfl, rfl⟩
            · go_wp2
              go_round
              case rel => exact ⟨m - 1, t + y1, by omega, by omega, by go_num, by go_num, S2'⟩
              case measure => simp [intOf]; omega
          · have m0 : (0 : Int) ≤ (m : Int) * y0 := Int.mul_nonneg (by omega) (by omega)
            have m1 : (m : Int) * y0 < 18446744073709551616 := by
              have := Int.mul_le_mul (by omega : (m : Int) ≤ 4294967295) (by omega : (y0 : Int) ≤ 4294967295) (by omega) (by omega)
              omega
            by_cases c3' : (t : Int) * 4294967296 + v0 < (m : Int) * y0
            · have S := step_yes Hm.out Hu2.out (by omega) (.inr c3')
              have S1' : (1 : Int) ≤ m := by omega
              have S2' : Hid (DivSt u2 v0 y1 y0 (m - 1) (t + y1)) := S.2
              clear S Hm
              have c4' : 4294967296 * (t : Int) + v0 < (m : Int) * y0 := by omega
              by_cases c2' : (4294967296 : Int) ≤ t + y1
              · have E := hexit2.out _ (div_break u2 v0 y1 y0 _ _ S2'.out Hu2.out (by omega) (by omega))
                have e1' : (m : Int) - 1 = Q2 := by omega
                clear E
                clear S2'
                go_wp2
                go_ret2
                exact ⟨rfl, rfl⟩
              · go_wp2
                go_round
                case rel => exact ⟨m - 1, t + y1, by omega, by omega, by go_num, by go_num, S2'⟩
                case measure => simp [intOf]; omega
            · have E := hexit2.out _ (step_stop Hm.out Hu2.out (by omega))
              subst E
              have c5' : ¬ (4294967296 * (t : Int) + v0 < (m : Int) * y0) := by omega
              clear Hm c3'
              go_wp2
              go_ret2
              exact ⟨rfl, rfl⟩
      · go_wp2
        go_round
        case rel => exact ⟨p - 1, s + y1, by omega, by omega, by go_num, by go_num, S2⟩
        case measure => simp [intOf]; omega
    · have p0 : (0 : Int) ≤ (p : Int) * y0 := Int.mul_nonneg (by omega) (by omega)
      have p1 : (p : Int) * y0 < 18446744073709551616 := by
        have := Int.mul_le_mul (by omega : (p : Int) ≤ 4294967295) (by omega : (y0 : Int) ≤ 4294967295) (by omega) (by omega)
        omega
      by_cases c3 : (s : Int) * 4294967296 + v1 < (p : Int) * y0
      · have S := step_yes Hp.out Hu.out (by omega) (.inr c3)
        have S1 : (1 : Int) ≤ p := by omega
        have S2 : Hid (DivSt u v1 y1 y0 (p - 1) (s + y1)) := S.2
        clear S Hp
        have c4 : 4294967296 * (s : Int) + v1 < (p : Int) * y0 := by omega
        by_cases c2 : (4294967296 : Int) ≤ s + y1
        · have E := hexit.out _ (div_break u v1 y1 y0 _ _ S2.out Hu.out (by omega) (by omega))
          have e1 : (p : Int) - 1 = Q := by omega
          clear E
          clear S2
          go_wp2
          clear rW rq2 rr2
          go_loop [18, 16] (fun tq tr => ∃ q r : Nat, (r : Int) < 4294967296 ∧ (q : Int) < 18446744073709551616 ∧ tq = .int .u64 q ∧ tr = .int .u64 r ∧ Hid (DivSt u2 v0 y1 y0 q r)) (fun tq _ => (intOf tq).toNat)
          case atStart => exact ⟨q2, r2, hr2, hq2, rfl, rfl, Hs2⟩
          case round =>
            obtain ⟨m, t, ht, hm, rfl, rfl, Hm⟩ := hrel
            have hexit2 : Hid (∀ n : Nat, n = (u2 * 4294967296 + v0) / (y1 * 4294967296 + y0) → n = Q2) := fun n h => h.trans HQ2.out.symm
            by_cases c1' : (4294967296 : Int) ≤ m
            · have S := step_yes Hm.out Hu2.out (by omega) (.inl (by omega))
              have S1' : (1 : Int) ≤ m := by omega
              have S2' : Hid (DivSt u2 v0 y1 y0 (m - 1) (t + y1)) := S.2
              clear S Hm
              by_cases c2' : (4294967296 : Int) ≤ t + y1
              · have E := hexit2.out _ (div_break u2 v0 y1 y0 _ _ S2'.out Hu2.out (by omega) (by omega))
                have e1' : (m : Int) - 1 = Q2 := by omega
                clear E
                clear S2'
                go_wp2
                go_ret2
                exact ⟨rfl, rfl⟩
              · go_wp2
                go_round
                case rel => exact ⟨m - 1, t + y1, by omega, by omega, by go_num, by go_num, S2'⟩
                case measure => simp [intOf]; omega
            · have m0 : (0 : Int) ≤ (m : Int) * y0 := Int.mul_nonneg (by omega) (by omega)
              have m1 : (m : Int) * y0 < 18446744073709551616 := by
                have := Int.mul_le_mul (by omega : (m : Int) ≤ 4294967295) (by omega : (y0 : Int) ≤ 4294967295) (by omega) (by omega)
                omega
              by_cases c3' : (t : Int) * 4294967296 + v0 < (m : Int) * y0
              · have S := step_yes Hm.out Hu2.out (by omega) (.inr c3')
                have S1' : (1 : Int) ≤ m := by omega
                have S2' : Hid (DivSt u2 v0 y1 y0 (m - 1) (t + y1)) := S.2
                clear S Hm
                have c4' : 4294967296 * (t : Int) + v0 < (m : Int) * y0 := by omega
                by_cases c2' : (4294967296 : Int) ≤ t + y1
                · have E := hexit2.out _ (div_break u2 v0 y1 y0 _ _ S2'.out Hu2.out (by omega) (by omega))
                  have e1' : (m : Int) - 1 = Q2 := by omega
                  clear E
                  clear S2'
                  go_wp2
                  go_ret2
                  exact ⟨rfl, rfl⟩
                · go_wp2
                  go_round
                  case rel => exact ⟨m - 1, t + y1, by omega, by omega, by go_num, by go_num, S2'⟩
                  case measure => simp [intOf]; omega
              · have E := hexit2.out _ (step_stop Hm.out Hu2.out (by omega))
                subst E
                have c5' : ¬ (4294967296 * (t : Int) + v0 < (m : Int) * y0) := by omega
                clear Hm c3'
                go_wp2
                go_ret2
                exact ⟨rfl, rfl⟩
        · go_wp2
          go_round
          case rel => exact ⟨p - 1, s + y1, by omega, by omega, by go_num, by go_num, S2⟩
          case measure => simp [intOf]; omega
      · have E := hexit.out _ (step_stop Hp.out Hu.out (by omega))
        subst E
        have c5 : ¬ (4294967296 * (s : Int) + v1 < (p : Int) * y0) := by omega
        clear Hp c3
        go_wp2
        clear rW rq2 rr2
        go_loop [18, 16] (fun tq tr => ∃ q r : Nat, (r : Int) < 4294967296 ∧ (q : Int) < 18446744073709551616 ∧ tq = .int .u64 q ∧ tr = .int .u64 r ∧ Hid (DivSt u2 v0 y1 y0 q r)) (fun tq _ => (intOf tq).toNat)
        case atStart => exact ⟨q2, r2, hr2, hq2, rfl, rfl, Hs2⟩
        case round =>
          obtain ⟨m, t, ht, hm, rfl, rfl, Hm⟩ := hrel
          have hexit2 : Hid (∀ n : Nat, n = (u2 * 4294967296 + v0) / (y1 * 4294967296 + y0) → n = Q2) := fun n h => h.trans HQ2.out.symm
          by_cases c1' : (4294967296 : Int) ≤ m
          · have S := step_yes Hm.out Hu2.out (by omega) (.inl (by omega))
            have S1' : (1 : Int) ≤ m := by omega
            have S2' : Hid (DivSt u2 v0 y1 y0 (m - 1) (t + y1)) := S.2
            clear S Hm
            by_cases c2' : (4294967296 : Int) ≤ t + y1
            · have E := hexit2.out _ (div_break u2 v0 y1 y0 _ _ S2'.out Hu2.out (by omega) (by omega))
              have e1' : (m : Int) - 1 = Q2 := by omega
              clear E
              clear S2'
              go_wp2
              go_ret2
              exact ⟨rfl, rfl⟩
            · go_wp2
              go_round
              case rel => exact ⟨m - 1, t + y1, by omega, by omega, by go_num, by go_num, S2'⟩
              case measure => simp [intOf]; omega
          · have m0 : (0 : Int) ≤ (m : Int) * y0 := Int.mul_nonneg (by omega) (by omega)
            have m1 : (m : Int) * y0 < 18446744073709551616 := by
              have := Int.mul_le_mul (by omega : (m : Int) ≤ 4294967295) (by omega : (y0 : Int) ≤ 4294967295) (by omega) (by omega)
              omega
            by_cases c3' : (t : Int) * 4294967296 + v0 < (m : Int) * y0
            · have S := step_yes Hm.out Hu2.out (by omega) (.inr c3')
              have S1' : (1 : Int) ≤ m := by omega
              have S2' : Hid (DivSt u2 v0 y1 y0 (m - 1) (t + y1)) := S.2
              clear S Hm
              have c4' : 4294967296 * (t : Int) + v0 < (m : Int) * y0 := by omega
              by_cases c2' : (4294967296 : Int) ≤ t + y1
              · have E := hexit2.out _ (div_break u2 v0 y1 y0 _ _ S2'.out Hu2.out (by omega) (by omega))
                have e1' : (m : Int) - 1 = Q2 := by omega
                clear E
                clear S2'
                go_wp2
                go_ret2
                exact ⟨rfl, rfl⟩
              · go_wp2
                go_round
                case rel => exact ⟨m - 1, t + y1, by omega, by omega, by go_num, by go_num, S2'⟩
                case measure => simp [intOf]; omega
            · have E := hexit2.out _ (step_stop Hm.out Hu2.out (by omega))
              subst E
              have c5' : ¬ (4294967296 * (t : Int) + v0 < (m : Int) * y0) := by omega
              clear Hm c3'
              go_wp2
              go_ret2
              exact ⟨rfl, rfl⟩
end Go.Proofs.YtphlcjghcffnbaaDoor
