/-
  Accounts in memory; the contracts of slices.IndexFunc over them, of chart.index and chart.checkParent.
-/
import Derived.Test.YtbbegoklikaphaaZs1
import Derived.Below
import Derived.Test.YtbbegoklikaphaaProg
import Derived.WalkKit
import Derived.WalkSpells
import Derived.Lib.OthersKept
import Derived.Lib.TrimU
import Derived.Deep.LoopGhost
import Derived.Conc.MuLone
import Derived.Shelf.Abstract
import Derived.Deep.QuietTactic
import Derived.BigQuiet
namespace Go.Proofs.Ytbbegoklikaphaa
set_option linter.unusedVariables false
open Go.RowKit Math

theorem wrap_rest (u v Q Y R : Nat) (h : u * 4294967296 + v = Q * Y + R) (hR : R < 18446744073709551616) :
    IntKind.u64.wrap (IntKind.u64.wrap (IntKind.u64.wrap ((u : Int) * 4294967296) + v) - IntKind.u64.wrap ((Q : Int) * Y)) = R := by
  have e : (u : Int) * 4294967296 + v = (Q : Int) * Y + R := by
    have := congrArg (Nat.cast : Nat → Int) h
    rw [Int.natCast_add, Int.natCast_mul, Int.natCast_add, Int.natCast_mul] at this
    exact this
  rw [IntKind.wrap_u64, IntKind.wrap_u64, IntKind.wrap_u64, IntKind.wrap_u64]
  generalize (Q : Int) * Y = t at *
  omega
theorem wrap_quo (u y1 : Nat) (hu : u < 18446744073709551616) : IntKind.u64.wrap ((u : Int) / y1) = (u / y1 : Nat) := by
  rw [← Int.natCast_ediv]
  exact wrapN _ (Nat.lt_of_le_of_lt (Nat.div_le_self _ _) hu)
theorem wrap_rem (u y1 : Nat) (hu : u < 18446744073709551616) : IntKind.u64.wrap (u - IntKind.u64.wrap ((u / y1 : Nat) * y1)) = (u % y1 : Nat) := by
  have e := Nat.div_add_mod' u y1
  rw [mulN]
  generalize u / y1 * y1 = t at *
  generalize u % y1 = r at *
  rw [wrapN t (by omega), IntKind.wrap_u64]
  omega

theorem pow_split (b : Nat) (h : b ≤ 64) : 2 ^ (64 - b) * 2 ^ b = 18446744073709551616 := by
  rw [← Nat.pow_add, Nat.sub_add_cancel h]

theorem div64_nat (hi lo y : Nat) (w : World) (h0 : 1 ≤ hi) (h1 : hi < y) (h2 : y < 18446744073709551616) (h4 : lo < 18446744073709551616) :
    Calls Try.prog 68 #[.int .u64 hi, .int .u64 lo, .int .u64 y] w fun e w' => e = .returned (.tuple #[.int .u64 ((hi * 18446744073709551616 + lo) / y : Nat), .int .u64 ((hi * 18446744073709551616 + lo) % y : Nat)]) ∧ w' = w := by
  have hb0 := Lib.bitLenAux_bounds 64 y h2 (by omega)
  have hb : 1 ≤ Lib.bitLen y ∧ 2 ^ (Lib.bitLen y - 1) ≤ y ∧ y < 2 ^ Lib.bitLen y := hb0
  have hl := Lib.bitLen_le y 64 (by omega) h2
  clear hb0
  generalize hbe : Lib.bitLen y = b at *
  obtain ⟨hb1, hb2, hb3⟩ := hb
  have hPQ := pow_split b hl
  have hP2 : 2 ^ (64 - b) * 2 ^ (b - 1) = 9223372036854775808 := by
    rw [← Nat.pow_add, show 64 - b + (b - 1) = 63 by omega]
  have hPe : (2 : Int) ^ (64 - b) = ((2 ^ (64 - b) : Nat) : Int) := by rw [Int.natCast_pow]; rfl
  have hQe : (2 : Int) ^ (64 - (64 - b)) = ((2 ^ b : Nat) : Int) := by rw [show 64 - (64 - b) = b by omega, Int.natCast_pow]; rfl
  have hPpos : 0 < 2 ^ (64 - b) := Nat.two_pow_pos _
  have hQpos : 0 < 2 ^ b := Nat.two_pow_pos _
  have hor : ∀ x z : Nat, z < 2 ^ (64 - b) → x * 2 ^ (64 - b) ||| z = x * 2 ^ (64 - b) + z := fun x z hz => by
    rw [Nat.mul_comm, Nat.two_pow_add_eq_or_of_lt hz]
  generalize hPg : 2 ^ (64 - b) = P at *
  generalize hQg : 2 ^ b = Qp at *
  have hY1 : 9223372036854775808 ≤ y * P := by rw [← hP2, Nat.mul_comm y P]; exact Nat.mul_le_mul_left P hb2
  have hY2 : y * P < 18446744073709551616 := by rw [← hPQ, Nat.mul_comm y P]; exact Nat.mul_lt_mul_of_pos_left hb3 hPpos
  have hH : hi * P < 18446744073709551616 := Nat.lt_of_le_of_lt (Nat.mul_le_mul_right P (Nat.le_of_lt h1)) hY2
  have hLq : lo / Qp < P := by rw [Nat.div_lt_iff_lt_mul hQpos, hPQ]; exact h4
  have hLq2 : lo / Qp < 18446744073709551616 := Nat.lt_of_le_of_lt (Nat.div_le_self _ _) h4
  have hsp := shift_split lo P Qp hPQ
  have hu : hi * P + lo / Qp < y * P := by
    have e1 : (hi + 1) * P ≤ y * P := Nat.mul_le_mul_right P h1
    rw [Nat.add_mul] at e1
    omega
  have hm := div64_math hi lo y P Qp hPQ (by omega)
  simp only at hm
  have hV : lo * P % 18446744073709551616 < 18446744073709551616 := Nat.mod_lt _ (by omega)
  obtain ⟨V, hVg⟩ : ∃ V, V = lo * P % 18446744073709551616 := ⟨_, rfl⟩
  obtain ⟨u, hug⟩ : ∃ u, u = hi * P + lo / Qp := ⟨_, rfl⟩
  obtain ⟨Y, hYg⟩ : ∃ Y, Y = y * P := ⟨_, rfl⟩
  rw [← hVg] at hV hsp
  rw [← hug, ← hYg] at hu
  rw [← hYg] at hY1 hY2
  rw [← hug, ← hYg, ← hVg] at hm
  obtain ⟨v1, hv1⟩ : ∃ v1, v1 = V / 4294967296 := ⟨_, rfl⟩
  obtain ⟨v0, hv0⟩ : ∃ v0, v0 = V % 4294967296 := ⟨_, rfl⟩
  obtain ⟨y1, hy1⟩ : ∃ y1, y1 = Y / 4294967296 := ⟨_, rfl⟩
  obtain ⟨y0, hy0⟩ : ∃ y0, y0 = Y % 4294967296 := ⟨_, rfl⟩
  rw [← hv1, ← hv0] at hm
  have hYd : y1 * 4294967296 + y0 = Y := by rw [hy1, hy0]; exact Nat.div_add_mod' Y 4294967296
  have hv1b : v1 < 4294967296 := by omega
  have hv0b : v0 < 4294967296 := by omega
  have hY0 : 0 < Y := by omega
  obtain ⟨Q, hQe2⟩ : ∃ Q, Q = (u * 4294967296 + v1) / Y := ⟨_, rfl⟩
  obtain ⟨u2, hu2e⟩ : ∃ u2, u2 = (u * 4294967296 + v1) % Y := ⟨_, rfl⟩
  have hu2 : u2 < Y := by rw [hu2e]; exact Nat.mod_lt _ hY0
  have e1 : u * 4294967296 + v1 = Q * Y + u2 := by rw [hQe2, hu2e]; exact (Nat.div_add_mod' (u * 4294967296 + v1) Y).symm
  have hQ : Q < 4294967296 := by rw [hQe2]; exact quo_lt u v1 Y hu hv1b
  rw [← hQe2, ← hu2e] at hm
  obtain ⟨Q2, hQ2e⟩ : ∃ Q2, Q2 = (u2 * 4294967296 + v0) / Y := ⟨_, rfl⟩
  obtain ⟨R, hRe⟩ : ∃ R, R = (u2 * 4294967296 + v0) % Y := ⟨_, rfl⟩
  have hR : R < Y := by rw [hRe]; exact Nat.mod_lt _ hY0
  have e2 : u2 * 4294967296 + v0 = Q2 * Y + R := by rw [hQ2e, hRe]; exact (Nat.div_add_mod' (u2 * 4294967296 + v0) Y).symm
  have hQ2 : Q2 < 4294967296 := by rw [hQ2e]; exact quo_lt u2 v0 Y hu2 hv0b
  rw [← hQ2e, ← hRe] at hm
  have r1 := wrap_rest u v1 Q Y u2 e1 (by omega)
  have r2 := wrap_rest u2 v0 Q2 Y R e2 (by omega)
  have hy1p : 0 < y1 := by omega
  have hst1 := div_start u v1 y1 y0 hy1p hv1b
  have hst2 := div_start u2 v0 y1 y0 hy1p hv0b
  have hmod1 : u % y1 < y1 := Nat.mod_lt _ hy1p
  have hmod2 : u2 % y1 < y1 := Nat.mod_lt _ hy1p
  have hq1 : u / y1 ≤ u := Nat.div_le_self _ _
  have hq2 : u2 / y1 ≤ u2 := Nat.div_le_self _ _
  have eV1 : ((V : Int) / 4294967296) = (v1 : Int) := by rw [hv1]; exact divN V
  have eY1 : ((Y : Int) / 4294967296) = (y1 : Int) := by rw [hy1]; exact divN Y
  have eV0 : bits .and .u64 (V : Int) 4294967295 = (v0 : Int) := by rw [hv0]; exact maskN V hV
  have eY0 : bits .and .u64 (Y : Int) 4294967295 = (y0 : Int) := by rw [hy0]; exact maskN Y (by omega)
  have eY : IntKind.u64.wrap ((y : Int) * 2 ^ (64 - b)) = Y := by rw [hPe, mulN, ← hYg]; exact wrapN Y (by omega)
  have eH : IntKind.u64.wrap ((hi : Int) * 2 ^ (64 - b)) = (hi * P : Nat) := by rw [hPe, mulN]; exact wrapN _ hH
  have eL : (lo : Int) / 2 ^ (64 - (64 - b)) = (lo / Qp : Nat) := by rw [hQe, ← Int.natCast_ediv]
  have eU : bits .or .u64 ((hi * P : Nat) : Int) ((lo / Qp : Nat) : Int) = (u : Int) := by rw [bits_or_u64_nat _ _ hH hLq2, hor _ _ hLq, ← hug]
  have eV : IntKind.u64.wrap ((lo : Int) * 2 ^ (64 - b)) = V := by rw [hPe, mulN, wrapM, ← hVg]
  have key := div64_core hi lo y b w (by omega) (by omega) (by omega) (by omega) (by omega) hl hb1 (show Lib.bitLen (y : Int).toNat = b by rw [Int.toNat_natCast]; exact hbe)
    Y (hi * P) (lo / Qp) u V y1 y0 v1 v0 (u / y1) (u % y1) u2 (u2 / y1) (u2 % y1) R
    eY eH eL eU eV eY1 eY0 eV1 eV0 (by omega) (by omega) (by omega) (by omega) (by omega) (by omega) (wrap_quo u _ (by omega)) (wrap_rem u _ (by omega))
    (show u < y1 * 4294967296 + y0 by rw [hYd]; exact hu) hst1 (by omega) (by omega)
    Q (show Q = (u * 4294967296 + v1) / (y1 * 4294967296 + y0) by rw [hYd]; exact hQe2) (by omega) r1 (by omega) (wrap_quo u2 _ (by omega)) (wrap_rem u2 _ (by omega))
    (show u2 < y1 * 4294967296 + y0 by rw [hYd]; exact hu2) hst2 (by omega) (by omega)
    Q2 (show Q2 = (u2 * 4294967296 + v0) / (y1 * 4294967296 + y0) by rw [hYd]; exact hQ2e) (by omega) r2
  refine key.mono ?_
  rintro e w' ⟨rfl, hw⟩
  refine ⟨?_, hw⟩
  rw [← hm.1, ← hm.2, hPe, Int.natCast_add, Int.natCast_mul, Int.natCast_ediv]
  rfl
end Go.Proofs.Ytbbegoklikaphaa

namespace Go.Proofs.Ytbbegoklikaphaa
set_option linter.unusedVariables false
open Go.RowKit Go.Lib Math

theorem isPart_yes (n : Int) (w : World) (h0 : 0 ≤ n) (h1 : n ≤ 1000000000) :
    Calls Try.prog 65 #[.int .i64 n] w fun e w' => e = .returned (.bool true) ∧ w' = w := by
  go_enter Try.func65, Try.ntmps65
  go_wp2
  go_ret
  exact ⟨rfl, rfl⟩
theorem isPart_no (n : Int) (w : World) (h : n < 0 ∨ 1000000000 < n) :
    Calls Try.prog 65 #[.int .i64 n] w fun e w' => e = .returned (.bool false) ∧ w' = w := by
  rcases h with h | h
  · go_enter Try.func65, Try.ntmps65
    go_wp2
    go_ret
    exact ⟨rfl, rfl⟩
  · have h' : ¬ n < 0 := by omega
    go_enter Try.func65, Try.ntmps65
    go_wp2
    go_ret
    refine ⟨?_, rfl⟩
    simp; omega

theorem ratio_small (a n d : Int) (w : World) (ha : -1000000000 ≤ a) (ha2 : a ≤ 1000000000) (hn : 0 ≤ n) (hn2 : n ≤ 1000000000) (hd : 1 ≤ d) (hd2 : d ≤ 1000000000) :
    Calls Try.prog 52 #[.int .i64 a, .int .i64 n, .int .i64 d] w fun e w' => e = .returned (.tuple #[.int .i64 (ratioV a n d), .nilIface]) ∧ ∃ n, w' = w.drewN n := by
  have d0 : (d == 0) = false := by simp; omega
  have m0 := absI_nonneg a
  have m1 : absI a ≤ 1000000000 := by unfold absI; split <;> omega
  have p0 := Int.mul_nonneg m0 hn
  have p1 : absI a * n ≤ 1000000000 * 1000000000 := Int.mul_le_mul m1 hn2 hn (by omega)
  have q0 := Int.ediv_nonneg p0 (by omega : (0 : Int) ≤ d)
  have q1 : absI a * n / d ≤ absI a * n := Int.ediv_le_self _ p0
  have r0 := Int.emod_nonneg (absI a * n) (b := d) (by omega)
  have r1 := Int.emod_lt_of_pos (absI a * n) (b := d) (by omega)
  have hz : absI a * n / 18446744073709551616 = 0 := by omega
  have hy : absI a * n % 18446744073709551616 = absI a * n := by omega
  have Hz : Hid (absI a * n / 18446744073709551616 = 0) := hz
  have Hy : Hid (absI a * n % 18446744073709551616 = absI a * n) := hy
  clear hz hy
  go_enter Try.func52, Try.ntmps52
  go_wp2_with fail
  refine (isPart_yes _ _ hn hn2).mono ?_
  rintro e w' ⟨rfl, hw⟩
  rw [hw]; clear hw w'
  go_wp2_with fail
  refine (isPart_yes _ _ (by omega) hd2).mono ?_
  rintro e w' ⟨rfl, hw⟩
  rw [hw]; clear hw w'
  go_wp2_with fail
  refine (size_any _ _ (by omega) (by omega)).mono ?_
  rintro e w' ⟨rfl, hw⟩
  rw [hw]; clear hw w'
  go_wp2_with fail
  refine (mul64_any _ _ _ (by omega) (by omega) (by omega) (by omega)).mono ?_
  rintro e w' ⟨rfl, hw⟩
  rw [hw, Hz.out, Hy.out]; clear hw w'
  go_wp2_with fail
  refine (div64_small _ _ _ (by omega) (by omega) (by omega) (by omega)).mono ?_
  rintro e w' ⟨rfl, k, hw⟩
  rw [hw]; clear hw w'
  go_wp2_with fail
  refine (roundsUp_any _ _ _ _ (by omega) (by omega) (by omega) (by omega)).mono ?_
  rintro e w' ⟨rfl, hw⟩
  rw [hw]; clear hw w'
  go_wp2_with fail
  by_cases h : a < 0
  · rw [decide_eq_true h]
    refine (signed_yes _ _ _ (by omega) (by omega) (upOf_bd _ _ _).1 (upOf_bd _ _ _).2 ?_).mono ?_
    · have u := (upOf_bd (absI a * n / d) (absI a * n % d) d).2; omega
    · rintro e w' ⟨rfl, hw⟩
      rw [hw]; clear hw w'
      go_wp2
      go_ret2
      refine ⟨?_, k, rfl⟩
      unfold ratioV partOf; rw [if_pos h]; rfl
  · rw [decide_eq_false h]
    refine (signed_no _ _ _ (by omega) (by omega) (upOf_bd _ _ _).1 (upOf_bd _ _ _).2 ?_).mono ?_
    · have u := (upOf_bd (absI a * n / d) (absI a * n % d) d).2; omega
    · rintro e w' ⟨rfl, hw⟩
      rw [hw]; clear hw w'
      go_wp2
      go_ret2
      refine ⟨?_, k, rfl⟩
      unfold ratioV partOf; rw [if_neg (by omega)]; rfl
end Go.Proofs.Ytbbegoklikaphaa

namespace Go.Proofs.Ytbbegoklikaphaa
set_option linter.unusedVariables false
open Go.RowKit Math

theorem div64_any (p d : Int) (w : World) (h0 : 0 ≤ p) (hd : 1 ≤ d) (hd2 : d < 18446744073709551616) (hp : p / 18446744073709551616 < d) :
    Calls Try.prog 68 #[.int .u64 (p / 18446744073709551616), .int .u64 (p % 18446744073709551616), .int .u64 d] w fun e w' => e = .returned (.tuple #[.int .u64 (p / d), .int .u64 (p % d)]) ∧ ∃ n, w' = w.drewN n := by
  obtain ⟨p, rfl⟩ := Int.eq_ofNat_of_zero_le h0
  obtain ⟨d, rfl⟩ := Int.eq_ofNat_of_zero_le (by omega : 0 ≤ d)
  obtain ⟨hi, hhi⟩ : ∃ hi, hi = p / 18446744073709551616 := ⟨_, rfl⟩
  obtain ⟨lo, hlo⟩ : ∃ lo, lo = p % 18446744073709551616 := ⟨_, rfl⟩
  have e1 : (p : Int) / 18446744073709551616 = hi := by omega
  have e2 : (p : Int) % 18446744073709551616 = lo := by omega
  have e3 : hi * 18446744073709551616 + lo = p := by rw [hhi, hlo]; exact Nat.div_add_mod' p 18446744073709551616
  have hlo2 : lo < 18446744073709551616 := by rw [hlo]; exact Nat.mod_lt _ (by omega)
  rw [e1, e2]
  rw [e1] at hp
  rcases Nat.eq_zero_or_pos hi with hz | hpos
  · have e4 : lo = p := by rw [hz, Nat.zero_mul, Nat.zero_add] at e3; exact e3
    rw [hz, e4]
    exact div64_small p d w (by omega) (by omega) hd hd2
  · refine (div64_nat hi lo d w hpos (by omega) (by omega) hlo2).mono ?_
    rintro e w' ⟨rfl, hw⟩
    rw [e3, Int.natCast_ediv, Int.natCast_emod]
    exact ⟨rfl, 0, hw⟩

/-- A part's size is the product over the divisor, or one more. -/
theorem part_ge (m n d : Int) : m * n / d ≤ partOf m n d ∧ partOf m n d ≤ m * n / d + 1 := by
  have u := upOf_bd (m * n / d) (m * n % d) d
  unfold partOf; omega

theorem ratio_range (a n d : Int) (w : World) (h : n < 0 ∨ 1000000000 < n ∨ d < 1 ∨ 1000000000 < d) :
    Calls Try.prog 52 #[.int .i64 a, .int .i64 n, .int .i64 d] w fun e w' => e = .returned (.tuple #[.int .i64 0, .iface 58 (.int .i64 1)]) ∧ w' = w := by
  by_cases hn : n < 0 ∨ 1000000000 < n
  · go_enter Try.func52, Try.ntmps52
    go_wp2_with fail
    refine (isPart_no _ _ hn).mono ?_
    rintro e w' ⟨rfl, hw⟩
    rw [hw]; clear hw w'
    go_wp2
    go_ret2
    exact ⟨rfl, rfl⟩
  · by_cases hd : d < 0 ∨ 1000000000 < d
    · go_enter Try.func52, Try.ntmps52
      go_wp2_with fail
      refine (isPart_yes _ _ (by omega) (by omega)).mono ?_
      rintro e w' ⟨rfl, hw⟩
      rw [hw]; clear hw w'
      go_wp2_with fail
      refine (isPart_no _ _ hd).mono ?_
      rintro e w' ⟨rfl, hw⟩
      rw [hw]; clear hw w'
      go_wp2
      go_ret2
      exact ⟨rfl, rfl⟩
    · obtain rfl : d = 0 := by omega
      go_enter Try.func52, Try.ntmps52
      go_wp2_with fail
      refine (isPart_yes _ _ (by omega) (by omega)).mono ?_
      rintro e w' ⟨rfl, hw⟩
      rw [hw]; clear hw w'
      go_wp2_with fail
      refine (isPart_yes _ _ (by omega) (by omega)).mono ?_
      rintro e w' ⟨rfl, hw⟩
      rw [hw]; clear hw w'
      go_wp2
      go_ret2
      exact ⟨rfl, rfl⟩

/-- What money.Ratio hands back of numbers in range. -/
def ratV (a n d : Int) : Int := if partOf (absI a) n d ≤ 9223372036854775807 + (if a < 0 then 1 else 0) then ratioV a n d else 0
def ratE (a n d : Int) : Value := if partOf (absI a) n d ≤ 9223372036854775807 + (if a < 0 then 1 else 0) then .nilIface else .iface 58 (.int .i64 10)

set_option maxHeartbeats 1000000 in
theorem ratio_any (a n d : Int) (w : World) (ha : -9223372036854775808 ≤ a) (ha2 : a ≤ 9223372036854775807) (hn : 0 ≤ n) (hn2 : n ≤ 1000000000) (hd : 1 ≤ d) (hd2 : d ≤ 1000000000) :
    Calls Try.prog 52 #[.int .i64 a, .int .i64 n, .int .i64 d] w fun e w' => e = .returned (.tuple #[.int .i64 (ratV a n d), ratE a n d]) ∧ ∃ n, w' = w.drewN n := by
  have d0 : (d == 0) = false := by simp; omega
  have m0 := absI_nonneg a
  have m1 : absI a ≤ 9223372036854775808 := by unfold absI; split <;> omega
  have p0 := Int.mul_nonneg m0 hn
  have q0 := Int.ediv_nonneg p0 (by omega : (0 : Int) ≤ d)
  have r0 := Int.emod_nonneg (absI a * n) (b := d) (by omega)
  have r1 := Int.emod_lt_of_pos (absI a * n) (b := d) (by omega)
  have pg := part_ge (absI a) n d
  have ub := upOf_bd (absI a * n / d) (absI a * n % d) d
  have z0 : 0 ≤ absI a * n / 18446744073709551616 := by omega
  have z1 : 0 ≤ absI a * n % 18446744073709551616 := by omega
  have z2 : absI a * n % 18446744073709551616 < 18446744073709551616 := by omega
  have eq1 : Hid (partOf (absI a) n d = absI a * n / d + upOf (absI a * n / d) (absI a * n % d) d) := rfl
  by_cases hover : d ≤ absI a * n / 18446744073709551616
  · have big : 18446744073709551616 ≤ absI a * n / d := by
      rw [Int.le_ediv_iff_mul_le (by omega)]
      have := Int.mul_le_mul_of_nonneg_left hover (by omega : (0 : Int) ≤ 18446744073709551616)
      omega
    have no : ¬ (partOf (absI a) n d ≤ 9223372036854775807 + (if a < 0 then 1 else 0)) := by split <;> omega
    have res : Hid (ratV a n d = 0 ∧ ratE a n d = .iface 58 (.int .i64 10)) := by
      unfold Hid ratV ratE; rw [if_neg no, if_neg no]; exact ⟨rfl, rfl⟩
    clear no big pg ub q0 r0 r1
    go_enter Try.func52, Try.ntmps52
    go_wp2_with fail
    refine (isPart_yes _ _ hn hn2).mono ?_
    rintro e w' ⟨rfl, hw⟩
    rw [hw]; clear hw w'
    go_wp2_with fail
    refine (isPart_yes _ _ (by omega) hd2).mono ?_
    rintro e w' ⟨rfl, hw⟩
    rw [hw]; clear hw w'
    go_wp2_with fail
    refine (size_any _ _ (by omega) (by omega)).mono ?_
    rintro e w' ⟨rfl, hw⟩
    rw [hw]; clear hw w'
    go_wp2_with fail
    refine (mul64_any _ _ _ (by omega) (by omega) (by omega) (by omega)).mono ?_
    rintro e w' ⟨rfl, hw⟩
    rw [hw]; clear hw w'
    go_wp2
    go_ret2
    refine ⟨?_, 0, rfl⟩
    rw [res.out.1, res.out.2]
    rfl
  · have hlt : absI a * n / d < 18446744073709551616 := by
      rw [Int.ediv_lt_iff_lt_mul (by omega)]
      have h5 : absI a * n < (absI a * n / 18446744073709551616 + 1) * 18446744073709551616 := by omega
      have h6 := Int.mul_le_mul_of_nonneg_right (by omega : absI a * n / 18446744073709551616 + 1 ≤ d) (by omega : (0 : Int) ≤ 18446744073709551616)
      omega
    by_cases ok : partOf (absI a) n d ≤ 9223372036854775807 + (if a < 0 then 1 else 0)
    · have res : Hid (ratV a n d = ratioV a n d ∧ ratE a n d = .nilIface) := by
        unfold Hid ratV ratE; rw [if_pos ok, if_pos ok]; exact ⟨rfl, rfl⟩
      have Ok : Hid (partOf (absI a) n d ≤ 9223372036854775807 + (if a < 0 then 1 else 0)) := ok
      clear ok pg
      go_enter Try.func52, Try.ntmps52
      go_wp2_with fail
      refine (isPart_yes _ _ hn hn2).mono ?_
      rintro e w' ⟨rfl, hw⟩
      rw [hw]; clear hw w'
      go_wp2_with fail
      refine (isPart_yes _ _ (by omega) hd2).mono ?_
      rintro e w' ⟨rfl, hw⟩
      rw [hw]; clear hw w'
      go_wp2_with fail
      refine (size_any _ _ (by omega) (by omega)).mono ?_
      rintro e w' ⟨rfl, hw⟩
      rw [hw]; clear hw w'
      go_wp2_with fail
      refine (mul64_any _ _ _ (by omega) (by omega) (by omega) (by omega)).mono ?_
      rintro e w' ⟨rfl, hw⟩
      rw [hw]; clear hw w'
      go_wp2_with fail
      refine (div64_any _ _ _ (by omega) (by omega) (by omega) (by omega)).mono ?_
      rintro e w' ⟨rfl, k, hw⟩
      rw [hw]; clear hw w'
      go_wp2_with fail
      refine (roundsUp_any _ _ _ _ (by omega) (by omega) (by omega) (by omega)).mono ?_
      rintro e w' ⟨rfl, hw⟩
      rw [hw]; clear hw w'
      go_wp2_with fail
      by_cases h : a < 0
      · rw [decide_eq_true h]
        have g := Ok.out
        rw [eq1.out, if_pos h] at g
        refine (signed_yes _ _ _ (by omega) (by omega) ub.1 ub.2 (by omega)).mono ?_
        rintro e w' ⟨rfl, hw⟩
        rw [hw]; clear hw w' g
        go_wp2
        go_ret2
        refine ⟨?_, k, rfl⟩
        rw [res.out.1, res.out.2]
        unfold ratioV partOf; rw [if_pos h]; rfl
      · rw [decide_eq_false h]
        have g := Ok.out
        rw [eq1.out, if_neg h] at g
        refine (signed_no _ _ _ (by omega) (by omega) ub.1 ub.2 (by omega)).mono ?_
        rintro e w' ⟨rfl, hw⟩
        rw [hw]; clear hw w' g
        go_wp2
        go_ret2
        refine ⟨?_, k, rfl⟩
        rw [res.out.1, res.out.2]
        unfold ratioV partOf; rw [if_neg (by omega)]; rfl
    · have res : Hid (ratV a n d = 0 ∧ ratE a n d = .iface 58 (.int .i64 10)) := by
        unfold Hid ratV ratE; rw [if_neg ok, if_neg ok]; exact ⟨rfl, rfl⟩
      have Ok : Hid (¬ partOf (absI a) n d ≤ 9223372036854775807 + (if a < 0 then 1 else 0)) := ok
      clear ok pg
      go_enter Try.func52, Try.ntmps52
      go_wp2_with fail
      refine (isPart_yes _ _ hn hn2).mono ?_
      rintro e w' ⟨rfl, hw⟩
      rw [hw]; clear hw w'
      go_wp2_with fail
      refine (isPart_yes _ _ (by omega) hd2).mono ?_
      rintro e w' ⟨rfl, hw⟩
      rw [hw]; clear hw w'
      go_wp2_with fail
      refine (size_any _ _ (by omega) (by omega)).mono ?_
      rintro e w' ⟨rfl, hw⟩
      rw [hw]; clear hw w'
      go_wp2_with fail
      refine (mul64_any _ _ _ (by omega) (by omega) (by omega) (by omega)).mono ?_
      rintro e w' ⟨rfl, hw⟩
      rw [hw]; clear hw w'
      go_wp2_with fail
      refine (div64_any _ _ _ (by omega) (by omega) (by omega) (by omega)).mono ?_
      rintro e w' ⟨rfl, k, hw⟩
      rw [hw]; clear hw w'
      go_wp2_with fail
      refine (roundsUp_any _ _ _ _ (by omega) (by omega) (by omega) (by omega)).mono ?_
      rintro e w' ⟨rfl, hw⟩
      rw [hw]; clear hw w'
      go_wp2_with fail
      by_cases h : a < 0
      · rw [decide_eq_true h]
        have g := Ok.out
        rw [eq1.out, if_pos h] at g
        refine (signed_yes_over _ _ _ (by omega) (by omega) ub.1 ub.2 (by omega)).mono ?_
        rintro e w' ⟨rfl, hw⟩
        rw [hw]; clear hw w' g
        go_wp2
        go_ret2
        refine ⟨?_, k, rfl⟩
        rw [res.out.1, res.out.2]
        rfl
      · rw [decide_eq_false h]
        have g := Ok.out
        rw [eq1.out, if_neg h] at g
        refine (signed_no_over _ _ _ (by omega) (by omega) ub.1 ub.2 (by omega)).mono ?_
        rintro e w' ⟨rfl, hw⟩
        rw [hw]; clear hw w' g
        go_wp2
        go_ret2
        refine ⟨?_, k, rfl⟩
        rw [res.out.1, res.out.2]
        rfl
end Go.Proofs.Ytbbegoklikaphaa

namespace Go.Proofs.Ytbbegoklikaphaa
set_option linter.unusedVariables false
open Go.RowKit Go.Lib Go.Maps Math

theorem below_draws {B : Nat} {a w : World} (h : Below B a w) (n : Nat) : Below B a (w.drewN n) := ⟨h.os, h.tape, h.output, h.size, h.block⟩

/-- What rate.Convert hands back. -/
def convV (R : Int × Int × Int) (m : Int) : Int := if R.2.2 = 0 then ratV m R.2.1 R.1 else 0
def convE (R : Int × Int × Int) (m : Int) : Value := if R.2.2 = 0 then ratE m R.2.1 R.1 else errV R.2.2

set_option maxHeartbeats 1000000 in
theorem convert_any (a : Option Addr) (len cap : Nat) (S : Int × DataW Unit) (base f t : ByteArray) (p m : Int) (w : World) (ht : Calls Try.prog 60 #[.slice a len cap] w (TabEnd w S)) (hg : TabGood S.2) (hm : -9223372036854775808 ≤ m) (hm2 : m ≤ 9223372036854775807) :
    Calls Try.prog 33 #[.slice a len cap, .string base, .string f, .string t, .int .i64 p, .int .i64 m] w fun e w' => e = .returned (.tuple #[.int .i64 (convV (findS S base f t p) m), convE (findS S base f t p) m]) ∧ Below w.heap.size w w' := by
  have hf := find_any a len cap S base f t p w ht hg
  have hr := findS_range (base := base) (f := f) (t := t) (p := p) hg
  generalize findS S base f t p = R at *
  have Hf : Hid (Calls Try.prog 51 #[.slice a len cap, .string base, .string f, .string t, .int .i64 p] w fun e w' => e = .returned (.tuple #[.int .i64 R.1, .int .i64 R.2.1, errV R.2.2]) ∧ Below w.heap.size w w') := hf
  clear hf ht hg S
  obtain ⟨n, d, e⟩ := R
  by_cases he : e = 0
  · subst he
    have e1 : Hid (convV (n, d, 0) m = ratV m d n ∧ convE (n, d, 0) m = ratE m d n) := ⟨rfl, rfl⟩
    simp only [forall_const] at hr
    go_enter Try.func33, Try.ntmps33
    go_wp2_with fail
    refine Hf.out.mono ?_
    rintro e w1 ⟨rfl, B1⟩
    simp only [errV_zero]
    go_wp2_with fail
    refine (ratio_any m d n _ hm hm2 (by omega) (by omega) (by omega) (by omega)).mono ?_
    rintro e w2 ⟨rfl, k, hw⟩
    rw [hw]; clear hw w2
    go_wp2
    go_ret2
    refine ⟨?_, below_draws B1 k⟩
    rw [e1.out.1, e1.out.2]; rfl
  · have e1 : Hid (convV (n, d, e) m = 0 ∧ convE (n, d, e) m = .iface 58 (.int .i64 e)) := ⟨if_neg he, (if_neg he).trans (errV_ne he)⟩
    clear hr
    go_enter Try.func33, Try.ntmps33
    go_wp2_with fail
    refine Hf.out.mono ?_
    rintro e w1 ⟨rfl, B1⟩
    simp only [errV_ne he]
    go_wp2
    go_ret2
    refine ⟨?_, B1⟩
    rw [e1.out.1, e1.out.2]; rfl
end Go.Proofs.Ytbbegoklikaphaa

namespace Go.Proofs.Ytbbegoklikaphaa
set_option linter.unusedVariables false
set_option linter.unusedSimpArgs false
open Go.RowKit Go.Lib

/-- A digit. -/
def digR (r : Nat) : Bool := decide (48 ≤ r) && decide (r ≤ 57)
/-- A sign of a name. -/
def namR (r : Nat) : Bool := (decide (97 ≤ r) && decide (r ≤ 122)) || (decide (65 ≤ r) && decide (r ≤ 90)) || digR r || decide (r = 45)

theorem digR_low {r : Nat} (h : digR r = true) : r < 128 := by simp [digR] at h; omega
theorem namR_low {r : Nat} (h : namR r = true) : r < 128 := by simp [namR, digR] at h; omega

/-- Where the first sign stands that does not fit, from a place on, among at most so many; else -1. -/
def strayFrom (p : Nat → Bool) (s : ByteArray) : Nat → Nat → Int
  | 0, _ => -1
  | f + 1, pos => if pos < s.size then (if p (Utf8.decode s pos).1 = true then strayFrom p s f (pos + (Utf8.decode s pos).2) else (pos : Int)) else -1

theorem strayFrom_end (p : Nat → Bool) (s : ByteArray) (f pos : Nat) (h : ¬ pos < s.size) : strayFrom p s f pos = -1 := by cases f <;> simp [strayFrom, h]

/-- All signs from a place on fit. -/
def fitsFrom (p : Nat → Bool) (s : ByteArray) (pos : Nat) : Prop := ∀ i, pos ≤ i → i < s.size → p (s.get! i).toNat = true

theorem stray_fits (p : Nat → Bool) (hp : ∀ r, p r = true → r < 128) (s : ByteArray) : ∀ (f pos : Nat), s.size ≤ pos + f → (strayFrom p s f pos < 0 ↔ fitsFrom p s pos)
  | 0, pos, h => by
    simp only [strayFrom]
    exact ⟨fun _ i h1 h2 => by omega, fun _ => by omega⟩
  | f + 1, pos, h => by
    by_cases hlt : pos < s.size
    · have hg : s.get! pos = s[pos]'hlt := by
        show s.data[pos]! = s.data[pos]'hlt
        exact getElem!_pos s.data pos hlt
      rw [strayFrom, if_pos hlt]
      by_cases ha : (s[pos]'hlt).toNat < 128
      · rw [decode_ascii s pos hlt ha]
        by_cases hc : p (s[pos]'hlt).toNat = true
        · rw [if_pos hc, stray_fits p hp s f (pos + 1) (by omega)]
          constructor
          · intro hf i h1 h2
            by_cases e : i = pos
            · subst e; rw [hg]; exact hc
            · exact hf i (by omega) h2
          · intro hf i h1 h2
            exact hf i (by omega) h2
        · rw [if_neg hc]
          refine ⟨fun h => by omega, fun hf => ?_⟩
          have := hf pos (Nat.le_refl _) hlt
          rw [hg] at this
          exact absurd this hc
      · have hd := (decode_high s pos hlt (by omega)).1
        rw [if_neg (fun h => by have := hp _ h; omega)]
        refine ⟨fun h => by omega, fun hf => ?_⟩
        have := hp _ (hf pos (Nat.le_refl _) hlt)
        rw [hg] at this
        omega
    · rw [strayFrom_end p s _ _ hlt]
      exact ⟨fun _ i h1 h2 => by omega, fun _ => by omega⟩

/-- Is a text of 1 to so many bytes, all of which fit? -/
def madeOf (p : Nat → Bool) (most : Nat) (s : ByteArray) : Bool := decide (s.size ≠ 0) && (decide (s.size ≤ most) && decide (strayFrom p s s.size 0 < 0))

theorem madeOf_iff {p : Nat → Bool} (hp : ∀ r, p r = true → r < 128) {most : Nat} {s : ByteArray} : madeOf p most s = true ↔ s.size ≠ 0 ∧ s.size ≤ most ∧ ∀ i, i < s.size → p (s.get! i).toNat = true := by
  unfold madeOf
  simp only [Bool.and_eq_true, decide_eq_true_eq]
  rw [stray_fits p hp s s.size 0 (by omega)]
  exact ⟨fun ⟨a, b, c⟩ => ⟨a, b, fun i hi => c i (Nat.zero_le _) hi⟩, fun ⟨a, b, c⟩ => ⟨a, b, fun i _ hi => c i hi⟩⟩

def isCodeB (s : ByteArray) : Bool := madeOf digR 6 s
def isNameB (s : ByteArray) : Bool := madeOf namR 24 s

theorem digit_any (r : Nat) (w : World) :
    Calls Try.prog 97 #[.int .i32 r] w fun e w' => e = .returned (.bool (digR r)) ∧ w' = w := by
  by_cases h1 : (48 : Int) ≤ r
  · have : digR r = decide ((r : Int) ≤ 57) := by
      have e1 : decide (48 ≤ r) = true := by simp; omega
      have e2 : decide (r ≤ 57) = decide ((r : Int) ≤ 57) := by simp; omega
      unfold digR; rw [e1, e2]; rfl
    rw [this]
    go_enter Try.func97, Try.ntmps97
    go_wp2
    go_ret
    exact ⟨rfl, rfl⟩
  · have : digR r = false := by simp [digR]; omega
    rw [this]
    go_enter Try.func97, Try.ntmps97
    go_wp2
    go_ret
    exact ⟨rfl, rfl⟩

theorem nameSign_any (r : Nat) (w : World) :
    Calls Try.prog 98 #[.int .i32 r] w fun e w' => e = .returned (.bool (namR r)) ∧ w' = w := by
  have h1 : (97 : Int) ≤ r ∧ (r : Int) ≤ 122 ∨ 122 < (r : Int) ∨ (90 : Int) < r ∧ (r : Int) < 97 ∨ (65 : Int) ≤ r ∧ (r : Int) ≤ 90 ∨ (r : Int) < 65 := by omega
  rcases h1 with ⟨a, b⟩ | a | ⟨a, b⟩ | ⟨a, b⟩ | a
  · have : namR r = true := by simp [namR]; omega
    rw [this]
    go_enter Try.func98, Try.ntmps98
    go_wp2
    go_ret
    exact ⟨rfl, rfl⟩
  · have d : digR r = false := by simp [digR]; omega
    have : namR r = false := by simp [namR, d]; omega
    rw [this]
    have n45 : ((r : Int) == 45) = false := by simp; omega
    have n90 : decide ((r : Int) ≤ 90) = false := by simp; omega
    have n122 : decide ((r : Int) ≤ 122) = false := by simp; omega
    go_enter Try.func98, Try.ntmps98
    go_wp2_with (go_at_call 97; refine (digit_any r _).mono ?_; rintro e w' ⟨rfl, rfl⟩; rw [d])
    go_ret
    exact ⟨rfl, rfl⟩
  · have d : digR r = false := by simp [digR]; omega
    have : namR r = false := by simp [namR, d]; omega
    rw [this]
    have n45 : ((r : Int) == 45) = false := by simp; omega
    have n90 : decide ((r : Int) ≤ 90) = false := by simp; omega
    go_enter Try.func98, Try.ntmps98
    go_wp2_with (go_at_call 97; refine (digit_any r _).mono ?_; rintro e w' ⟨rfl, rfl⟩; rw [d])
    go_ret
    exact ⟨rfl, rfl⟩
  · have : namR r = true := by simp [namR]; omega
    rw [this]
    go_enter Try.func98, Try.ntmps98
    go_wp2
    go_ret
    exact ⟨rfl, rfl⟩
  · cases d : digR r
    · have : namR r = ((r : Int) == 45) := by
        have e1 : decide (r = 45) = ((r : Int) == 45) := by rw [Bool.eq_iff_iff]; simp; omega
        have e2 : (decide (97 ≤ r) && decide (r ≤ 122)) = false := by simp; omega
        have e3 : (decide (65 ≤ r) && decide (r ≤ 90)) = false := by simp; omega
        unfold namR; rw [e1, e2, e3, d]; rfl
      rw [this]
      go_enter Try.func98, Try.ntmps98
      go_wp2_with (go_at_call 97; refine (digit_any r _).mono ?_; rintro e w' ⟨rfl, rfl⟩; rw [d])
      go_ret
      exact ⟨rfl, rfl⟩
    · have : namR r = true := by simp [namR, d]
      rw [this]
      go_enter Try.func98, Try.ntmps98
      go_wp2_with (go_at_call 97; refine (digit_any r _).mono ?_; rintro e w' ⟨rfl, rfl⟩; rw [d])
      go_ret
      exact ⟨rfl, rfl⟩

/-- What is asked of a function that says which signs fit. -/
structure ChFits (g : Nat) (p : Nat → Bool) : Prop where
  eg : ∀ args w, (callFunc g args).run Try.prog w = .ok (.enter g args) w
  call : ∀ (r : Nat) w, Calls Try.prog g #[.int .i32 r] w fun e w' => e = .returned (.bool (p r)) ∧ w' = w

theorem enters {f : FuncId} {fn : Func} (hf : Try.prog.funcs[f]? = some fn) (hn : (fn.name == "runtime.NumGoroutine") = false) (hb : ∃ c, fn.body = some c) (args : Array Value) (w : World) : (callFunc f args).run Try.prog w = .ok (.enter f args) w := by
  obtain ⟨c, hc⟩ := hb
  exact MuLone.run_callFunc_enter hf hn hc args w
theorem digit_fits : ChFits 97 digR := ⟨fun args w => enters Try.func97 (by kernel_rfl) ⟨_, rfl⟩ args w, digit_any⟩
theorem name_fits : ChFits 98 namR := ⟨fun args w => enters Try.func98 (by kernel_rfl) ⟨_, rfl⟩ args w, nameSign_any⟩

theorem madeOf1_any (g : Nat) (p : Nat → Bool) (hf : ChFits g p) (B r : Nat) (w : World) (hB : w.cell? ⟨B, 0, none⟩ = some (.func (.func g) #[] #[])) :
    Calls Try.prog 101 #[.int .i32 r, .pointer (some ⟨B, 0, none⟩)] w fun e w' => e = .returned (.bool (!p r)) ∧ w' = w := by
  have eg := hf.eg
  have hc := hf.call r w
  clear hf
  go_enter Try.func101, Try.ntmps101
  go_wp2_with (go_at_fn g; refine hc.mono ?_; rintro e w' ⟨rfl, rfl⟩)
  go_ret
  exact ⟨rfl, rfl⟩

set_option maxHeartbeats 1000000 in
theorem chIndexFunc_any (g : Nat) (p : Nat → Bool) (hf : ChFits g p) (B : Nat) (s : ByteArray) (w : World) (hb : B < w.heap.size) (hB : w.cell? ⟨B, 0, none⟩ = some (.func (.func g) #[] #[])) :
    Calls Try.prog 99 #[.string s, .func (.func 101) #[] #[.pointer (some ⟨B, 0, none⟩)], .bool true] w fun e w' => e = .returned (.int .i64 (strayFrom p s s.size 0)) ∧ Below w.heap.size w w' := by
  have HB : Hid (w.cell? ⟨B, 0, none⟩ = some (.func (.func g) #[] #[])) := hB
  have HF : Hid (ChFits g p) := hf
  clear hB hf
  go_enter Try.func99, Try.ntmps99
  go_wp2
  go_loopg [] s.size (fun gf wx => ∃ pos : Nat, wx.heap[w.heap.size]? = some (.stringIter s pos) ∧ Below w.heap.size w wx ∧ strayFrom p s gf pos = strayFrom p s s.size 0 ∧ s.size ≤ pos + gf)
  case atStart => exact ⟨0, World.iter_heap w s 0, (Below.refl _ w).alloc (Nat.le_refl _) _, rfl, by omega⟩
  case round =>
    obtain ⟨pos, hit, hbw, hleft, hfu⟩ := hrel
    by_cases hps : pos < s.size
    · obtain ⟨g', rfl⟩ : ∃ g', gk = g' + 1 := ⟨gk - 1, by omega⟩
      have hnx : ∀ ty, (Instr.next (.pointer (some ⟨w.heap.size, 0, none⟩)) true ty).run Try.prog wr = _ := fun ty => Lib.run_next_any_at wr w.heap.size s pos ty hit hps
      have hwd := Lib.width_pos s pos
      obtain ⟨R, hR⟩ : ∃ R, (Utf8.decode s pos).1 = R := ⟨_, rfl⟩
      obtain ⟨K, hK⟩ : ∃ K, (Utf8.decode s pos).2 = K := ⟨_, rfl⟩
      simp only [strayFrom, hps, if_true, hR, hK] at hleft
      rw [hR, hK] at hnx
      rw [hK] at hwd
      have hit2 := Lib.iterAt_heap wr w.heap.size s pos (pos + K) hit
      have hbw2 := Lib.below_iterAt hbw (k := w.heap.size) (Nat.le_refl _) s (pos + K)
      obtain ⟨W, hWd⟩ : ∃ W, wr.iterAt w.heap.size s (pos + K) = W := ⟨_, rfl⟩
      rw [hWd] at hnx hit2 hbw2
      have hcall := madeOf1_any g p HF.out B R W ((hbw2.cell (p := ⟨B, 0, none⟩) hb).trans HB.out)
      cases hsp : p R <;> simp only [hsp, if_true, Bool.false_eq_true, if_false] at hleft
      · rw [hsp] at hcall
        go_wp2_with (go_at_call 101; refine hcall.mono ?_; rintro e W' ⟨rfl, rfl⟩)
        go_ret
        exact ⟨by rw [← hleft]; rfl, hbw2⟩
      · rw [hsp] at hcall
        go_wp2_with (go_at_call 101; refine hcall.mono ?_; rintro e W' ⟨rfl, rfl⟩)
        go_roundg g'
        case measure => omega
        case rel => exact ⟨pos + K, hit2, hbw2, hleft, by omega⟩
    · have hnx : ∀ ty, (Instr.next (.pointer (some ⟨w.heap.size, 0, none⟩)) true ty).run Try.prog wr = _ := fun ty => Lib.run_next_end_at wr w.heap.size s pos ty hit hps
      rw [strayFrom_end p s gk pos hps] at hleft
      go_wp2
      go_ret
      exact ⟨by rw [← hleft]; rfl, hbw⟩

theorem chContainsFunc_any (g : Nat) (p : Nat → Bool) (hf : ChFits g p) (B : Nat) (s : ByteArray) (w : World) (hb : B < w.heap.size) (hB : w.cell? ⟨B, 0, none⟩ = some (.func (.func g) #[] #[])) :
    Calls Try.prog 61 #[.string s, .func (.func 101) #[] #[.pointer (some ⟨B, 0, none⟩)]] w fun e w' => e = .returned (.bool (decide (0 ≤ strayFrom p s s.size 0))) ∧ Below w.heap.size w w' := by
  have hI : Calls Try.prog 87 #[.string s, .func (.func 101) #[] #[.pointer (some ⟨B, 0, none⟩)]] w fun e w' => e = .returned (.int .i64 (strayFrom p s s.size 0)) ∧ Below w.heap.size w w' := by
    have hc := chIndexFunc_any g p hf B s w hb hB
    clear hf hB
    go_enter Try.func87, Try.ntmps87
    go_wp2_with fail
    refine hc.mono ?_
    rintro e w' ⟨rfl, hb⟩
    go_wp2
    go_ret
    exact ⟨rfl, hb⟩
  clear hf hB
  go_enter Try.func61, Try.ntmps61
  go_wp2_with fail
  refine hI.mono ?_
  rintro e w' ⟨rfl, hb⟩
  go_wp2
  go_ret
  exact ⟨rfl, hb⟩

theorem isMadeOf_any (g : Nat) (p : Nat → Bool) (hf : ChFits g p) (most : Nat) (s : ByteArray) (w : World) :
    Calls Try.prog 96 #[.string s, .int .i64 most, .func (.func g) #[] #[]] w fun e w' => e = .returned (.bool (madeOf p most s)) ∧ Below w.heap.size w w' := by
  have b0 : Below w.heap.size w (w.alloc (.cells #[.func (.func g) #[] #[]] 112)) := (Below.refl _ w).alloc (Nat.le_refl _) _
  have hc := chContainsFunc_any g p hf w.heap.size s (w.alloc (.cells #[.func (.func g) #[] #[]] 112)) (by simp) (by simp)
  have Hc : Hid (Calls _ _ _ _ _) := hc
  clear hf hc
  by_cases h0 : s.size = 0
  · have e0 : s.toList = [] := by
      rw [Lib.toList_data]
      exact List.eq_nil_of_length_eq_zero h0
    have e1 : madeOf p most s = false := by simp [madeOf, h0]
    rw [e1]
    go_enter Try.func96, Try.ntmps96
    go_wp2
    go_ret
    exact ⟨rfl, b0⟩
  have e0 : ¬ s.toList = [] := by
    rw [Lib.toList_data]
    intro e
    exact h0 (congrArg List.length e)
  have e0' : s.toList.isEmpty = false := by simpa using e0
  by_cases h1 : s.size ≤ most
  · have h1' : decide ((s.size : Int) ≤ most) = true := by simp; omega
    have e1 : madeOf p most s = !decide (0 ≤ strayFrom p s s.size 0) := by
      have d1 : decide (s.size ≠ 0) = true := by simp [h0]
      have d2 : decide (s.size ≤ most) = true := by simp [h1]
      have d3 : decide (strayFrom p s s.size 0 < 0) = !decide (0 ≤ strayFrom p s s.size 0) := by
        by_cases hh : 0 ≤ strayFrom p s s.size 0
        · rw [decide_eq_true hh, decide_eq_false (by omega)]; rfl
        · rw [decide_eq_false hh, decide_eq_true (by omega)]; rfl
      unfold madeOf; rw [d1, d2, d3]; rfl
    rw [e1]
    go_enter Try.func96, Try.ntmps96
    go_wp2_with fail
    refine Hc.out.mono ?_
    rintro e w' ⟨rfl, hb⟩
    go_wp2
    go_ret
    exact ⟨rfl, b0.trans (hb.mono (by simp))⟩
  · have h1' : decide ((s.size : Int) ≤ most) = false := by simp; omega
    have e1 : madeOf p most s = false := by simp [madeOf, h1]
    rw [e1]
    go_enter Try.func96, Try.ntmps96
    go_wp2
    go_ret
    exact ⟨rfl, b0⟩

theorem isCode_any (s : ByteArray) (w : World) :
    Calls Try.prog 83 #[.string s] w fun e w' => e = .returned (.bool (isCodeB s)) ∧ Below w.heap.size w w' := by
  go_enter Try.func83, Try.ntmps83
  go_wp2_with fail
  refine (isMadeOf_any _ digR digit_fits 6 s w).mono ?_
  rintro e w' ⟨rfl, hb⟩
  go_wp2
  go_ret
  exact ⟨rfl, hb⟩

theorem isName_any (s : ByteArray) (w : World) :
    Calls Try.prog 84 #[.string s] w fun e w' => e = .returned (.bool (isNameB s)) ∧ Below w.heap.size w w' := by
  go_enter Try.func84, Try.ntmps84
  go_wp2_with fail
  refine (isMadeOf_any _ namR name_fits 24 s w).mono ?_
  rintro e w' ⟨rfl, hb⟩
  go_wp2
  go_ret
  exact ⟨rfl, hb⟩
end Go.Proofs.Ytbbegoklikaphaa

namespace Go.Proofs.Ytbbegoklikaphaa
set_option linter.unusedVariables false
set_option linter.unusedSimpArgs false
set_option maxRecDepth 100000
open Go.RowKit Go.Lib

theorem ch_ne {a b : ByteArray} (h : a ≠ b) : (a.toList == b.toList) = false := by
  rw [beq_eq_false_iff_ne]
  intro e
  rw [Lib.toList_data, Lib.toList_data] at e
  exact h (WideShapes.bytes_inj e)

theorem ch_empty {a : ByteArray} (h : a.size = 0) : a.toList = [] := by
  rw [Lib.toList_data]
  exact List.eq_nil_of_length_eq_zero h
theorem ch_some {a : ByteArray} (h : a.size ≠ 0) : ¬ a.toList = [] := by
  rw [Lib.toList_data]
  exact fun e => h (congrArg List.length e)

theorem ch_drewN {B : Nat} {a w : World} (h : Below B a w) (n : Nat) : Below B a (w.drewN n) := h.trans ⟨rfl, rfl, rfl, Nat.le_refl _, fun _ _ => rfl⟩

/-- An account. -/
structure Ac where
  code : ByteArray
  name : ByteArray
  kind : Int
  par : ByteArray
  mon : Bool

def Ac.cells (a : Ac) : Array Value := #[.string a.code, .string a.name, .int .i64 a.kind, .string a.par, .bool a.mon]
/-- An account of nothing. -/
def ac0 : Ac := ⟨ByteArray.empty, ByteArray.empty, 0, ByteArray.empty, false⟩

/-- An error by its number. -/
def chE (n : Int) : Value := if n = 0 then .nilIface else .iface 58 (.int .i64 n)
theorem chE_zero : chE 0 = .nilIface := rfl
theorem chE_ne {n : Int} (h : n ≠ 0) : chE n = .iface 58 (.int .i64 n) := if_neg h

structure AcAt (w : World) (b off : Nat) (a : Ac) : Prop where
  c0 : w.cell? ⟨b, off, none⟩ = some (.string a.code)
  c1 : w.cell? ⟨b, off + 1, none⟩ = some (.string a.name)
  c2 : w.cell? ⟨b, off + 2, none⟩ = some (.int .i64 a.kind)
  c3 : w.cell? ⟨b, off + 3, none⟩ = some (.string a.par)
  c4 : w.cell? ⟨b, off + 4, none⟩ = some (.bool a.mon)

theorem AcAt.below {w w' : World} {b off n : Nat} {a : Ac} (h : AcAt w b off a) (hb : Below n w w') (hn : b < n) : AcAt w' b off a :=
  ⟨(hb.cell (p := ⟨b, off, none⟩) hn).trans h.c0, (hb.cell (p := ⟨b, off + 1, none⟩) hn).trans h.c1, (hb.cell (p := ⟨b, off + 2, none⟩) hn).trans h.c2, (hb.cell (p := ⟨b, off + 3, none⟩) hn).trans h.c3, (hb.cell (p := ⟨b, off + 4, none⟩) hn).trans h.c4⟩

theorem AcAt.new (w : World) (a : Ac) (t : TypeId) : AcAt (w.alloc (.cells a.cells t)) w.heap.size 0 a :=
  ⟨by simp [Ac.cells], by simp [Ac.cells], by simp [Ac.cells], by simp [Ac.cells], by simp [Ac.cells]⟩

/-- Accounts in memory. -/
def AcsAt (w : World) (b off : Nat) (l : List Ac) : Prop := ∀ k, k < l.length → AcAt w b (off + k * 5) (l.getD k ac0)

/-- A slice of accounts. -/
structure IsSl (w : World) (a : Option Addr) (l : List Ac) (cap : Nat) : Prop where
  cap : l.length ≤ cap
  lies : l = [] ∨ ∃ b off, a = some ⟨b, off, none⟩ ∧ b < w.heap.size ∧ AcsAt w b off l

theorem IsSl.below {w w' : World} {a : Option Addr} {l : List Ac} {cap : Nat} (h : IsSl w a l cap) (hb : Below w.heap.size w w') : IsSl w' a l cap := by
  refine ⟨h.cap, ?_⟩
  rcases h.lies with h | ⟨b, off, e, hlt, hc⟩
  · exact .inl h
  · exact .inr ⟨b, off, e, by have := hb.size; omega, fun k hk => (hc k hk).below hb hlt⟩

theorem IsSl.take {w : World} {a : Option Addr} {l : List Ac} {cap : Nat} (h : IsSl w a l cap) (k : Nat) : IsSl w a (l.take k) cap := by
  refine ⟨by have := h.cap; simp; omega, ?_⟩
  rcases h.lies with h | ⟨b, off, e, hlt, hc⟩
  · exact .inl (by rw [h]; simp)
  · refine .inr ⟨b, off, e, hlt, fun j hj => ?_⟩
    simp only [List.length_take] at hj
    have : (l.take k).getD j ac0 = l.getD j ac0 := by
      rw [List.getD_eq_getElem?_getD, List.getD_eq_getElem?_getD, List.getElem?_take, if_pos (by omega)]
    rw [this]
    exact hc j (by omega)

theorem acs_drop (l : List Ac) (k : Nat) (h : k < l.length) : l.drop k = l.getD k ac0 :: l.drop (k + 1) := by
  rw [List.drop_eq_getElem_cons h, List.getD_eq_getElem?_getD, List.getElem?_eq_getElem h]
  rfl

/-- The place of the first account for which something holds, counted from a number on; else -1. -/
def idxFrom (p : Ac → Bool) : Nat → List Ac → Int
  | _, [] => -1
  | k, a :: l => if p a = true then (k : Int) else idxFrom p (k + 1) l
def idxP (p : Ac → Bool) (l : List Ac) : Int := idxFrom p 0 l

/-- What is asked of a function that is told an account and says yes or no. -/
structure Tells (g B : Nat) (p : Ac → Bool) (w : World) : Prop where
  eg : ∀ args W, (callFunc g args).run Try.prog W = .ok (.enter g args) W
  call : ∀ x W, Below w.heap.size w W → Calls Try.prog g #[.agg x.cells, .pointer (some ⟨B, 0, none⟩)] W fun e w' => e = .returned (.bool (p x)) ∧ Below W.heap.size W w'

set_option maxHeartbeats 1000000 in
theorem chIdx_some (g B : Nat) (p : Ac → Bool) (b off cap : Nat) (l : List Ac) (w : World) (hp : Tells g B p w) (hb : b < w.heap.size) (hlen : l.length ≤ 1000) (hc : AcsAt w b off l) :
    Calls Try.prog 45 #[.slice (some ⟨b, off, none⟩) l.length cap, .func (.func g) #[] #[.pointer (some ⟨B, 0, none⟩)]] w fun e w' => e = .returned (.int .i64 (idxP p l)) ∧ Below w.heap.size w w' := by
  have eg := hp.eg
  have Hp : Hid (Tells g B p w) := hp
  have Hc : Hid (AcsAt w b off l) := hc
  have Hlen : (l.length : Int) ≤ 1000 := by omega
  clear hp hc
  obtain ⟨res, hres⟩ : ∃ res, idxP p l = res := ⟨_, rfl⟩
  have Hres : Hid (idxP p l = res) := hres
  rw [hres]
  clear hres
  go_enter Try.func45, Try.ntmps45
  go_wp2
  go_loopw [8] (fun i wr => ∃ k : Nat, k ≤ l.length ∧ i = .int .i64 k ∧ Hid (idxFrom p k (l.drop k) = res) ∧ Below w.heap.size w wr) (fun i _ => l.length - (RowKit.intOf i).toNat)
  case atStart => exact ⟨0, Nat.zero_le _, rfl, Hres.out, Below.refl _ _⟩
  case round =>
    obtain ⟨k, hk, rfl, H, BW⟩ := hrel
    by_cases hlt : k < l.length
    · have hn := (Hc.out k hlt).below BW hb
      have hcall := Hp.out.call (l.getD k ac0) wr BW
      have E : Hid ((if p (l.getD k ac0) = true then (k : Int) else idxFrom p (k + 1) (l.drop (k + 1))) = res) := by
        have := H.out
        rw [acs_drop l k hlt] at this
        exact this
      clear H
      generalize l.getD k ac0 = a at *
      obtain ⟨a0, a1, a2, a3, a4⟩ := a
      obtain ⟨c0, c1, c2, c3, c4⟩ := hn
      simp only [Ac.cells] at c0 c1 c2 c3 c4 hcall
      have i0 : (0 : Int) ≤ k := by omega
      have i1 : (k : Int) < l.length := by omega
      cases hq : p ⟨a0, a1, a2, a3, a4⟩
      · rw [hq] at hcall
        have HN : Hid (idxFrom p (k + 1) (l.drop (k + 1)) = res) := by
          have := E.out; rw [if_neg (by rw [hq]; simp)] at this; exact this
        go_wp2_with (go_at_fn g; refine hcall.mono ?_; rintro e w' ⟨rfl, hb'⟩)
        go_roundw
        case rel => exact ⟨k + 1, by omega, by go_num, HN, BW.trans (hb'.mono BW.size)⟩
        case measure => simp [RowKit.intOf]; omega
      · rw [hq] at hcall
        have er : res = k := by rw [← E.out, if_pos hq]
        subst er
        go_wp2_with (go_at_fn g; refine hcall.mono ?_; rintro e w' ⟨rfl, hb'⟩)
        go_ret
        exact ⟨rfl, BW.trans (hb'.mono BW.size)⟩
    · have hk2 : k = l.length := by omega
      subst hk2
      have er : res = -1 := by rw [← H.out, List.drop_length]; rfl
      subst er
      go_wp2
      go_ret
      exact ⟨rfl, BW⟩

theorem chIdx_none (a : Option Addr) (cap : Nat) (f : Value) (w : World) :
    Calls Try.prog 45 #[.slice a 0 cap, f] w fun e w' => e = .returned (.int .i64 (-1)) ∧ Below w.heap.size w w' := by
  go_enter Try.func45, Try.ntmps45
  go_wp2
  refine wp_loop_rounds 1 ?_
  rw [rounds_succ]
  go_wp2
  go_ret
  exact ⟨rfl, Below.refl _ _⟩

theorem chIdx_any (g B : Nat) (p : Ac → Bool) (a : Option Addr) (cap : Nat) (l : List Ac) (w : World) (hp : Tells g B p w) (hlen : l.length ≤ 1000) (h : IsSl w a l cap) :
    Calls Try.prog 45 #[.slice a l.length cap, .func (.func g) #[] #[.pointer (some ⟨B, 0, none⟩)]] w fun e w' => e = .returned (.int .i64 (idxP p l)) ∧ Below w.heap.size w w' := by
  rcases h.lies with rfl | ⟨b, off, rfl, hlt, hc⟩
  · exact chIdx_none a cap _ w
  · exact chIdx_some g B p b off cap l w hp hlt hlen hc

/-- An account with a code. -/
def hasCode (c : ByteArray) (a : Ac) : Bool := decide (a.code = c)

theorem index1_any (x : Ac) (c : ByteArray) (B : Nat) (w : World) (hB : w.cell? ⟨B, 0, none⟩ = some (.string c)) (hlt : B < w.heap.size) :
    Calls Try.prog 46 #[.agg x.cells, .pointer (some ⟨B, 0, none⟩)] w fun e w' => e = .returned (.bool (hasCode c x)) ∧ Below w.heap.size w w' := by
  obtain ⟨a0, a1, a2, a3, a4⟩ := x
  have b0 : Below w.heap.size w (w.alloc (.cells #[.string a0, .string a1, .int .i64 a2, .string a3, .bool a4] 42)) := (Below.refl _ w).alloc (Nat.le_refl _) _
  have hB2 : (w.alloc (.cells #[.string a0, .string a1, .int .i64 a2, .string a3, .bool a4] 42)).cell? ⟨B, 0, none⟩ = some (.string c) := (b0.cell (p := ⟨B, 0, none⟩) hlt).trans hB
  simp only [Ac.cells]
  by_cases h : a0 = c
  · subst h
    have e1 : hasCode a0 ⟨a0, a1, a2, a3, a4⟩ = true := by simp [hasCode]
    rw [e1]
    go_enter Try.func46, Try.ntmps46
    go_wp2
    go_ret
    exact ⟨rfl, b0⟩
  · have e1 : hasCode c ⟨a0, a1, a2, a3, a4⟩ = false := by simp [hasCode, h]
    have h' := ch_ne h
    rw [e1]
    go_enter Try.func46, Try.ntmps46
    go_wp2
    go_ret
    exact ⟨by rw [← h']; rfl, b0⟩

theorem index1_tells (c : ByteArray) (B : Nat) (w : World) (hB : w.cell? ⟨B, 0, none⟩ = some (.string c)) (hlt : B < w.heap.size) : Tells 46 B (hasCode c) w :=
  ⟨fun args W => enters Try.func46 (by kernel_rfl) ⟨_, rfl⟩ args W, fun x W hW => index1_any x c B W ((hW.cell (p := ⟨B, 0, none⟩) hlt).trans hB) (by have := hW.size; omega)⟩

theorem chIndex_any (a : Option Addr) (cap : Nat) (l : List Ac) (c : ByteArray) (w : World) (hlen : l.length ≤ 1000) (h : IsSl w a l cap) :
    Calls Try.prog 29 #[.slice a l.length cap, .string c] w fun e w' => e = .returned (.int .i64 (idxP (hasCode c) l)) ∧ Below w.heap.size w w' := by
  have b0 : Below w.heap.size w (w.alloc (.cells #[.string c] 9)) := (Below.refl _ w).alloc (Nat.le_refl _) _
  have hc := chIdx_any 46 w.heap.size (hasCode c) a cap l (w.alloc (.cells #[.string c] 9)) (index1_tells c w.heap.size _ (by simp) (by simp)) hlen (h.below b0)
  clear h
  go_enter Try.func29, Try.ntmps29
  go_wp2_with fail
  refine hc.mono ?_
  rintro e w' ⟨rfl, hb⟩
  go_wp2
  go_ret
  exact ⟨rfl, b0.trans (hb.mono (by simp))⟩

theorem idxFrom_some (p : Ac → Bool) : ∀ (l : List Ac) (k : Nat), 0 ≤ idxFrom p k l → ∃ j, j < l.length ∧ idxFrom p k l = ((k + j : Nat) : Int) ∧ p (l.getD j ac0) = true ∧ ∀ i, i < j → p (l.getD i ac0) = false
  | [], k, h => by simp [idxFrom] at h
  | a :: l, k, h => by
    by_cases hp : p a = true
    · refine ⟨0, by simp, ?_, ?_, fun i hi => absurd hi (Nat.not_lt_zero _)⟩
      · rw [idxFrom, if_pos hp]; rfl
      · simpa using hp
    · rw [idxFrom, if_neg hp] at h ⊢
      obtain ⟨j, h1, h2, h3, h4⟩ := idxFrom_some p l (k + 1) h
      refine ⟨j + 1, by simpa using h1, by rw [h2]; congr 1; omega, by simpa using h3, fun i hi => ?_⟩
      cases i with
      | zero => simpa using hp
      | succ i => simpa using h4 i (by omega)

theorem idxFrom_none (p : Ac → Bool) : ∀ (l : List Ac) (k : Nat), idxFrom p k l < 0 → ∀ i, i < l.length → p (l.getD i ac0) = false
  | [], k, h, i, hi => by simp at hi
  | a :: l, k, h, i, hi => by
    by_cases hp : p a = true
    · rw [idxFrom, if_pos hp] at h; omega
    · rw [idxFrom, if_neg hp] at h
      cases i with
      | zero => simpa using hp
      | succ i => simpa using idxFrom_none p l (k + 1) h i (by simpa using hi)

theorem idxP_some {p : Ac → Bool} {l : List Ac} (h : 0 ≤ idxP p l) : ∃ j, j < l.length ∧ idxP p l = (j : Int) ∧ p (l.getD j ac0) = true ∧ ∀ i, i < j → p (l.getD i ac0) = false := by
  obtain ⟨j, h1, h2, h3, h4⟩ := idxFrom_some p l 0 h
  exact ⟨j, h1, by rw [idxP, h2]; congr 1; omega, h3, h4⟩
theorem idxP_none {p : Ac → Bool} {l : List Ac} (h : idxP p l < 0) : ∀ i, i < l.length → p (l.getD i ac0) = false := idxFrom_none p l 0 h

/-- What is wrong with an account's parent. -/
def parBad (pre : List Ac) (x : Ac) : Int :=
  if x.par.size = 0 then 0
  else if idxP (hasCode x.par) pre < 0 then 6
  else if (pre.getD (idxP (hasCode x.par) pre).toNat ac0).kind ≠ x.kind then 12 else 0

set_option maxHeartbeats 1000000 in
theorem checkParent_any (a : Option Addr) (cap : Nat) (pre : List Ac) (x : Ac) (w : World) (hlen : pre.length ≤ 1000) (h : IsSl w a pre cap) :
    Calls Try.prog 85 #[.slice a pre.length cap, .agg x.cells] w fun e w' => e = .returned (chE (parBad pre x)) ∧ Below w.heap.size w w' := by
  have hn := AcAt.new w x 42
  have b0 : Below w.heap.size w (w.alloc (.cells x.cells 42)) := (Below.refl _ w).alloc (Nat.le_refl _) _
  have hI := chIndex_any a cap pre x.par (w.alloc (.cells x.cells 42)) hlen (h.below b0)
  obtain ⟨res, hres⟩ : ∃ res, parBad pre x = res := ⟨_, rfl⟩
  have Hres : Hid (parBad pre x = res) := hres
  rw [hres]
  clear hres
  obtain ⟨x0, x1, x2, x3, x4⟩ := x
  simp only [Ac.cells] at hn hI b0 ⊢
  have hn0 := hn
  obtain ⟨c0, c1, c2, c3, c4⟩ := hn
  simp only [Nat.zero_add] at c0 c1 c2 c3 c4
  by_cases h0 : x3.size = 0
  · have e0 := ch_empty h0
    have er : res = 0 := by rw [← Hres.out]; simp [parBad, h0]
    subst er
    go_enter Try.func85, Try.ntmps85
    go_wp2
    go_ret
    exact ⟨rfl, b0⟩
  have e0 := ch_some h0
  have e0' : x3.toList.isEmpty = false := by simpa using e0
  have HI : Hid (Calls _ _ _ _ _) := hI
  clear hI
  go_enter Try.func85, Try.ntmps85
  go_wp2_with fail
  refine HI.out.mono ?_
  rintro e w1 ⟨rfl, hb1⟩
  have hsz : w.heap.size + 1 ≤ w1.heap.size := by have := hb1.size; simpa using this
  have B1 := b0.trans (hb1.mono (by simp))
  have hn1 := hn0.below hb1 (by simp)
  clear c0 c1 c2 c3 c4 hn0 HI hb1
  by_cases h1 : idxP (hasCode x3) pre < 0
  · have er : res = 6 := by rw [← Hres.out]; simp [parBad, h0, h1]
    subst er
    go_wp2
    go_ret
    exact ⟨rfl, B1⟩
  obtain ⟨j, hj, ej, hj2, hj3⟩ := idxP_some (p := hasCode x3) (l := pre) (by omega)
  have er : res = if (pre.getD j ac0).kind ≠ x2 then 12 else 0 := by
    rw [← Hres.out]; unfold parBad
    simp only
    rw [if_neg h0, if_neg h1, ej]; rfl
  have ER : Hid (res = if (pre.getD j ac0).kind ≠ x2 then 12 else 0) := er
  rw [ej]
  clear h1 ej hj2 hj3 er Hres
  rcases h.lies with rfl | ⟨b, off, rfl, hlt, hc⟩
  · simp at hj
  have hp := (hc j hj).below B1 hlt
  clear hc h
  generalize pre.getD j ac0 = y at *
  obtain ⟨y0, y1, y2, y3, y4⟩ := y
  obtain ⟨c0, c1, c2, c3, c4⟩ := hn1
  obtain ⟨d0, d1, d2, d3, d4⟩ := hp
  simp only [Nat.zero_add] at c0 c1 c2 c3 c4 d0 d1 d2 d3 d4
  have i0 : (0 : Int) ≤ j := by omega
  have i1 : (j : Int) < pre.length := by omega
  by_cases h2 : y2 = x2
  · subst h2
    have er : res = 0 := by rw [ER.out]; simp
    subst er
    go_wp2
    go_quiet (fail)
    go_wp2
    go_ret
    exact ⟨rfl, ch_drewN B1 _⟩
  · have er : res = 12 := by rw [ER.out]; simp [h2]
    subst er
    have h2' : (y2 != x2) = true := by simp [h2]
    go_wp2
    go_quiet (fail)
    go_wp2
    go_ret
    exact ⟨rfl, ch_drewN B1 _⟩
end Go.Proofs.Ytbbegoklikaphaa
