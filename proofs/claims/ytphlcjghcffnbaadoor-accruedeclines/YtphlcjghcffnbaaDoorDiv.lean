/-
  The contracts of math/bits.Len64, LeadingZeros64 and Div64, for every word: the long division of two words by one.
-/
import Derived.Test.YtphlcjghcffnbaaDoorRows
import Derived.Test.YtphlcjghcffnbaaDoorMath
import Derived.WalkKit
import Derived.WalkSpells
import Derived.Laws.Bits64b
import Derived.Lib.Strings
import Derived.Lib.Slices
import Derived.Lib.Small
import Derived.Lib.Walk
import Derived.Lib.BitFns
import Derived.Lib.Tables
import Derived.Lib.ItoaNum
import Derived.Deep.QuietTactic
import Derived.BigQuiet
import Derived.Below
namespace Go.Proofs.YtphlcjghcffnbaaDoor
set_option linter.unusedVariables false
open Go.RowKit Go.Lib Math

theorem tab_size : Lib.len8tab.size = 256 := by kernel_rfl

theorem len_tab (t : Nat) (h : t < Lib.len8tab.size) : ((Lib.len8tab[t]'h).toNat : Int) = Lib.bitLen t := by
  have h2 : t < 256 := by rw [tab_size] at h; exact h
  have e := Lib.len8_of (t : Int) (by omega) (by omega)
  unfold Lib.len8 at e
  rw [Int.toNat_natCast, getElem?_pos Lib.len8tab t h] at e
  exact e

theorem len_way (x y : Int) (k K : Nat) (hK : K = 2 ^ k) (hy : y = x / (K : Int)) (h1 : (K : Int) ≤ x) (h2 : x < K * 256) (h3 : x < 18446744073709551616) (h : y.toNat < Lib.len8tab.size) (hk : k ≤ 56) :
    wrap64 (k + wrap64 ((Lib.len8tab[y.toNat]'h).toNat : Int)) = (Lib.bitLen x.toNat : Int) := by
  rw [len_tab]
  have h' : y.toNat < 256 := by rw [tab_size] at h; exact h
  clear h
  have hKp : 0 < K := by rw [hK]; exact Nat.two_pow_pos k
  obtain ⟨x, rfl⟩ := Int.eq_ofNat_of_zero_le (by omega : 0 ≤ x)
  have e : y = ((x / K : Nat) : Int) := by rw [hy, Int.natCast_ediv]
  have hl := Lib.bitLen_le8' (y.toNat : Int) (by omega) (by omega)
  rw [Int.toNat_natCast] at hl
  have e3 : y.toNat = x / K := by rw [e, Int.toNat_natCast]
  rw [e3] at hl ⊢
  have h3' : x < 18446744073709551616 := by omega
  have h1' : K ≤ x := by omega
  have := Lib.bitLen_shift k x (by rw [← hK]; exact h1') h3'
  rw [← hK] at this
  rw [Int.toNat_natCast, this]
  generalize Lib.bitLen (x / K) = b at *
  clear this e3 e hy h1 h2 h3 h1' h3' hK hKp
  unfold wrap64
  omega

set_option maxHeartbeats 2000000 in
set_option maxRecDepth 100000 in
theorem len64_any (x : Int) (w : World) (h0 : 1 ≤ x) (h1 : x < 18446744073709551616) :
    Calls Tryd.prog 60 #[.int .u64 x] w fun e w' => e = .returned (.int .i64 (Lib.bitLen x.toNat)) ∧ w' = w := by
  have hs := tab_size
  go_enter Tryd.func60, Tryd.ntmps60
  go_wp2
  all_goals (go_ret; refine ⟨congrArg Ending.returned (congrArg (Value.int IntKind.i64) ?_), rfl⟩)
  · exact len_way x _ 56 72057594037927936 (by decide) (by omega) (by omega) (by omega) h1 _ (by omega)
  · exact len_way x _ 48 281474976710656 (by decide) (by omega) (by omega) (by omega) h1 _ (by omega)
  · exact len_way x _ 40 1099511627776 (by decide) (by omega) (by omega) (by omega) h1 _ (by omega)
  · exact len_way x _ 32 4294967296 (by decide) (by omega) (by omega) (by omega) h1 _ (by omega)
  · exact len_way x _ 24 16777216 (by decide) (by omega) (by omega) (by omega) h1 _ (by omega)
  · exact len_way x _ 16 65536 (by decide) (by omega) (by omega) (by omega) h1 _ (by omega)
  · exact len_way x _ 8 256 (by decide) (by omega) (by omega) (by omega) h1 _ (by omega)
  · have := len_way x x 0 1 (by decide) (by omega) (by omega) (by omega) h1 (by rw [hs]; omega) (by omega)
    simpa using this

theorem lead_any (x : Int) (w : World) (h0 : 1 ≤ x) (h1 : x < 18446744073709551616) :
    Calls Tryd.prog 49 #[.int .u64 x] w fun e w' => e = .returned (.int .i64 (64 - Lib.bitLen x.toNat)) ∧ w' = w := by
  have hl := Lib.bitLen_le x.toNat 64 (by omega) (by omega)
  generalize hb : Lib.bitLen x.toNat = b at *
  have Hb : Hid (Lib.bitLen x.toNat = b) := hb
  clear hb
  go_enter Tryd.func49, Tryd.ntmps49
  go_wp2_with fail
  refine (len64_any _ _ h0 h1).mono ?_
  rintro e w' ⟨rfl, hw⟩
  rw [hw, Hb.out]; clear hw w'
  go_wp2
  go_ret
  exact ⟨rfl, rfl⟩
end Go.Proofs.YtphlcjghcffnbaaDoor
