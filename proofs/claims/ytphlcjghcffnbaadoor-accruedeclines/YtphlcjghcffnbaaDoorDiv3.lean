/-
  The contract of math/bits.Div64, for every two words and every divisor that is greater than the high one: quotient and rest.
-/
import Derived.Test.YtphlcjghcffnbaaDoorDiv2
import Derived.Test.YtphlcjghcffnbaaDoorRatio1
namespace Go.Proofs.YtphlcjghcffnbaaDoor
set_option linter.unusedVariables false
open Go.RowKit Math

theorem wrap_rest (u v Q Y R : Nat) (h : u * 4294967296 + v = Q * Y + R) (hR : R < 18446744073709551616) :
    IntKind.u64.wrap (IntKind.u64.wrap (IntKind.u64.wrap ((u : Int) * 4294967296) + v) - IntKind.u64.wrap ((Q : Int) * Y)) = R := by
  have e : (u : Int) * 4294967296 + v = (Q : Int) * Y + R := by
    have := congrArg (Nat.cast : Nat → Int) h
    rw [Int.natCast_add, Int.natCast_mul, Int.natCast_add, Int.natCast_mul] at this
    exact this
  rw [IntKind.wrap_u64, IntKind.wrap_u64, IntKind.wrap_u64, IntKind.wrap_u64]
  generalize (Q : Int) * Y = t at *
  omega
theorem wrap_quo (u y1 : Nat) (hu : u < 18446744073709551616) : IntKind.u64.wrap ((u : Int) / y1) = (u / y1 : Nat) := by
  rw [← Int.natCast_ediv]
  exact wrapN _ (Nat.lt_of_le_of_lt (Nat.div_le_self _ _) hu)
theorem wrap_rem (u y1 : Nat) (hu : u < 18446744073709551616) : IntKind.u64.wrap (u - IntKind.u64.wrap ((u / y1 : Nat) * y1)) = (u % y1 : Nat) := by
  have e := Nat.div_add_mod' u y1
  rw [mulN]
  generalize u / y1 * y1 = t at *
  generalize u % y1 = r at *
  rw [wrapN t (by omega), IntKind.wrap_u64]
  omega

theorem pow_split (b : Nat) (h : b ≤ 64) : 2 ^ (64 - b) * 2 ^ b = 18446744073709551616 := by
  rw [← Nat.pow_add, Nat.sub_add_cancel h]

theorem div64_nat (hi lo y : Nat) (w : World) (h0 : 1 ≤ hi) (h1 : hi < y) (h2 : y < 18446744073709551616) (h4 : lo < 18446744073709551616) :
    Calls Tryd.prog 36 #[.int .u64 hi, .int .u64 lo, .int .u64 y] w fun e w' => e = .returned (.tuple #[.int .u64 ((hi * 18446744073709551616 + lo) / y : Nat), .int .u64 ((hi * 18446744073709551616 + lo) % y : Nat)]) ∧ w' = w := by
  have hb0 := Lib.bitLenAux_bounds 64 y h2 (by omega)
  have hb : 1 ≤ Lib.bitLen y ∧ 2 ^ (Lib.bitLen y - 1) ≤ y ∧ y < 2 ^ Lib.bitLen y := hb0
  have hl := Lib.bitLen_le y 64 (by omega) h2
  clear hb0
  generalize hbe : Lib.bitLen y = b at *
  obtain ⟨hb1, hb2, hb3⟩ := hb
  have hPQ := pow_split b hl
  have hP2 : 2 ^ (64 - b) * 2 ^ (b - 1) = 9223372036854775808 := by
    rw [← Nat.pow_add, show 64 - b + (b - 1) = 63 by omega]
  have hPe : (2 : Int) ^ (64 - b) = ((2 ^ (64 - b) : Nat) : Int) := by rw [Int.natCast_pow]; rfl
  have hQe : (2 : Int) ^ (64 - (64 - b)) = ((2 ^ b : Nat) : Int) := by rw [show 64 - (64 - b) = b by omega, Int.natCast_pow]; rfl
  have hPpos : 0 < 2 ^ (64 - b) := Nat.two_pow_pos _
  have hQpos : 0 < 2 ^ b := Nat.two_pow_pos _
  have hor : ∀ x z : Nat, z < 2 ^ (64 - b) → x * 2 ^ (64 - b) ||| z = x * 2 ^ (64 - b) + z := fun x z hz => by
    rw [Nat.mul_comm, Nat.two_pow_add_eq_or_of_lt hz]
  generalize hPg : 2 ^ (64 - b) = P at *
  generalize hQg : 2 ^ b = Qp at *
  have hY1 : 9223372036854775808 ≤ y * P := by rw [← hP2, Nat.mul_comm y P]; exact Nat.mul_le_mul_left P hb2
  have hY2 : y * P < 18446744073709551616 := by rw [← hPQ, Nat.mul_comm y P]; exact Nat.mul_lt_mul_of_pos_left hb3 hPpos
  have hH : hi * P < 18446744073709551616 := Nat.lt_of_le_of_lt (Nat.mul_le_mul_right P (Nat.le_of_lt h1)) hY2
  have hLq : lo / Qp < P := by rw [Nat.div_lt_iff_lt_mul hQpos, hPQ]; exact h4
  have hLq2 : lo / Qp < 18446744073709551616 := Nat.lt_of_le_of_lt (Nat.div_le_self _ _) h4
  have hsp := shift_split lo P Qp hPQ
  have hu : hi * P + lo / Qp < y * P := by
    have e1 : (hi + 1) * P ≤ y * P := Nat.mul_le_mul_right P h1
    rw [Nat.add_mul] at e1
    omega
  have hm := div64_math hi lo y P Qp hPQ (by omega)
  simp only at hm
  have hV : lo * P % 18446744073709551616 < 18446744073709551616 := Nat.mod_lt _ (by omega)
  obtain ⟨V, hVg⟩ : ∃ V, V = lo * P % 18446744073709551616 := ⟨_, rfl⟩
  obtain ⟨u, hug⟩ : ∃ u, u = hi * P + lo / Qp := ⟨_, rfl⟩
  obtain ⟨Y, hYg⟩ : ∃ Y, Y = y * P := ⟨_, rfl⟩
  rw [← hVg] at hV hsp
  rw [← hug, ← hYg] at hu
  rw [← hYg] at hY1 hY2
  rw [← hug, ← hYg, ← hVg] at hm
  obtain ⟨v1, hv1⟩ : ∃ v1, v1 = V / 4294967296 := ⟨_, rfl⟩
  obtain ⟨v0, hv0⟩ : ∃ v0, v0 = V % 4294967296 := ⟨_, rfl⟩
  obtain ⟨y1, hy1⟩ : ∃ y1, y1 = Y / 4294967296 := ⟨_, rfl⟩
  obtain ⟨y0, hy0⟩ : ∃ y0, y0 = Y % 4294967296 := ⟨_, rfl⟩
  rw [← hv1, ← hv0] at hm
  have hYd : y1 * 4294967296 + y0 = Y := by rw [hy1, hy0]; exact Nat.div_add_mod' Y 4294967296
  have hv1b : v1 < 4294967296 := by omega
  have hv0b : v0 < 4294967296 := by omega
  have hY0 : 0 < Y := by omega
  obtain ⟨Q, hQe2⟩ : ∃ Q, Q = (u * 4294967296 + v1) / Y := ⟨_, rfl⟩
  obtain ⟨u2, hu2e⟩ : ∃ u2, u2 = (u * 4294967296 + v1) % Y := ⟨_, rfl⟩
  have hu2 : u2 < Y := by rw [hu2e]; exact Nat.mod_lt _ hY0
  have e1 : u * 4294967296 + v1 = Q * Y + u2 := by rw [hQe2, hu2e]; exact (Nat.div_add_mod' (u * 4294967296 + v1) Y).symm
  have hQ : Q < 4294967296 := by rw [hQe2]; exact quo_lt u v1 Y hu hv1b
  rw [← hQe2, ← hu2e] at hm
  obtain ⟨Q2, hQ2e⟩ : ∃ Q2, Q2 = (u2 * 4294967296 + v0) / Y := ⟨_, rfl⟩
  obtain ⟨R, hRe⟩ : ∃ R, R = (u2 * 4294967296 + v0) % Y := ⟨_, rfl⟩
  have hR : R < Y := by rw [hRe]; exact Nat.mod_lt _ hY0
  have e2 : u2 * 4294967296 + v0 = Q2 * Y + R := by rw [hQ2e, hRe]; exact (Nat.div_add_mod' (u2 * 4294967296 + v0) Y).symm
  have hQ2 : Q2 < 4294967296 := by rw [hQ2e]; exact quo_lt u2 v0 Y hu2 hv0b
  rw [← hQ2e, ← hRe] at hm
  have r1 := wrap_rest u v1 Q Y u2 e1 (by omega)
  have r2 := wrap_rest u2 v0 Q2 Y R e2 (by omega)
  have hy1p : 0 < y1 := by omega
  have hst1 := div_start u v1 y1 y0 hy1p hv1b
  have hst2 := div_start u2 v0 y1 y0 hy1p hv0b
  have hmod1 : u % y1 < y1 := Nat.mod_lt _ hy1p
  have hmod2 : u2 % y1 < y1 := Nat.mod_lt _ hy1p
  have hq1 : u / y1 ≤ u := Nat.div_le_self _ _
  have hq2 : u2 / y1 ≤ u2 := Nat.div_le_self _ _
  have eV1 : ((V : Int) / 4294967296) = (v1 : Int) := by rw [hv1]; exact divN V
  have eY1 : ((Y : Int) / 4294967296) = (y1 : Int) := by rw [hy1]; exact divN Y
  have eV0 : bits .and .u64 (V : Int) 4294967295 = (v0 : Int) := by rw [hv0]; exact maskN V hV
  have eY0 : bits .and .u64 (Y : Int) 4294967295 = (y0 : Int) := by rw [hy0]; exact maskN Y (by omega)
  have eY : IntKind.u64.wrap ((y : Int) * 2 ^ (64 - b)) = Y := by rw [hPe, mulN, ← hYg]; exact wrapN Y (by omega)
  have eH : IntKind.u64.wrap ((hi : Int) * 2 ^ (64 - b)) = (hi * P : Nat) := by rw [hPe, mulN]; exact wrapN _ hH
  have eL : (lo : Int) / 2 ^ (64 - (64 - b)) = (lo / Qp : Nat) := by rw [hQe, ← Int.natCast_ediv]
  have eU : bits .or .u64 ((hi * P : Nat) : Int) ((lo / Qp : Nat) : Int) = (u : Int) := by rw [bits_or_u64_nat _ _ hH hLq2, hor _ _ hLq, ← hug]
  have eV : IntKind.u64.wrap ((lo : Int) * 2 ^ (64 - b)) = V := by rw [hPe, mulN, wrapM, ← hVg]
  have key := div64_core hi lo y b w (by omega) (by omega) (by omega) (by omega) (by omega) hl hb1 (show Lib.bitLen (y : Int).toNat = b by rw [Int.toNat_natCast]; exact hbe)
    Y (hi * P) (lo / Qp) u V y1 y0 v1 v0 (u / y1) (u % y1) u2 (u2 / y1) (u2 % y1) R
    eY eH eL eU eV eY1 eY0 eV1 eV0 (by omega) (by omega) (by omega) (by omega) (by omega) (by omega) (wrap_quo u _ (by omega)) (wrap_rem u _ (by omega))
    (show u < y1 * 4294967296 + y0 by rw [hYd]; exact hu) hst1 (by omega) (by omega)
    Q (show Q = (u * 4294967296 + v1) / (y1 * 4294967296 + y0) by rw [hYd]; exact hQe2) (by omega) r1 (by omega) (wrap_quo u2 _ (by omega)) (wrap_rem u2 _ (by omega))
    (show u2 < y1 * 4294967296 + y0 by rw [hYd]; exact hu2) hst2 (by omega) (by omega)
    Q2 (show Q2 = (u2 * 4294967296 + v0) / (y1 * 4294967296 + y0) by rw [hYd]; exact hQ2e) (by omega) r2
  refine key.mono ?_
  rintro e w' ⟨rfl, hw⟩
  refine ⟨?_, hw⟩
  rw [← hm.1, ← hm.2, hPe, Int.natCast_add, Int.natCast_mul, Int.natCast_ediv]
  rfl
end Go.Proofs.YtphlcjghcffnbaaDoor
