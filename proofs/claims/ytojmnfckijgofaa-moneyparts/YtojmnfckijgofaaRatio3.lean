/-
  The contract of money.Ratio for all numbers: what a part is, or that it is not of 64 bits, or that the numbers are out of range.
-/
import Derived.Test.YtojmnfckijgofaaDiv3
import Derived.Test.YtojmnfckijgofaaRatio2
namespace Go.Proofs.Ytojmnfckijgofaa
set_option linter.unusedVariables false
open Go.RowKit Math

theorem div64_any (p d : Int) (w : World) (h0 : 0 ≤ p) (hd : 1 ≤ d) (hd2 : d < 18446744073709551616) (hp : p / 18446744073709551616 < d) :
    Calls Try.prog 18 #[.int .u64 (p / 18446744073709551616), .int .u64 (p % 18446744073709551616), .int .u64 d] w fun e w' => e = .returned (.tuple #[.int .u64 (p / d), .int .u64 (p % d)]) ∧ ∃ n, w' = w.drewN n := by
  obtain ⟨p, rfl⟩ := Int.eq_ofNat_of_zero_le h0
  obtain ⟨d, rfl⟩ := Int.eq_ofNat_of_zero_le (by omega : 0 ≤ d)
  obtain ⟨hi, hhi⟩ : ∃ hi, hi = p / 18446744073709551616 := ⟨_, rfl⟩
  obtain ⟨lo, hlo⟩ : ∃ lo, lo = p % 18446744073709551616 := ⟨_, rfl⟩
  have e1 : (p : Int) / 18446744073709551616 = hi := by omega
  have e2 : (p : Int) % 18446744073709551616 = lo := by omega
  have e3 : hi * 18446744073709551616 + lo = p := by rw [hhi, hlo]; exact Nat.div_add_mod' p 18446744073709551616
  have hlo2 : lo < 18446744073709551616 := by rw [hlo]; exact Nat.mod_lt _ (by omega)
  rw [e1, e2]
  rw [e1] at hp
  rcases Nat.eq_zero_or_pos hi with hz | hpos
  · have e4 : lo = p := by rw [hz, Nat.zero_mul, Nat.zero_add] at e3; exact e3
    rw [hz, e4]
    exact div64_small p d w (by omega) (by omega) hd hd2
  · refine (div64_nat hi lo d w hpos (by omega) (by omega) hlo2).mono ?_
    rintro e w' ⟨rfl, hw⟩
    rw [e3, Int.natCast_ediv, Int.natCast_emod]
    exact ⟨rfl, 0, hw⟩

end Go.Proofs.Ytojmnfckijgofaa
