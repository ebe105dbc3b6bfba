/-
  Numbers of few words, and the contract of dayref1's Small.
-/
import Derived.Test.YtphlcjghcffnbaaDoorBig8
import Derived.Test.YtphlcjghcffnbaaDoorBig12
import Derived.Test.YtphlcjghcffnbaaDoorMath
namespace Go.Proofs.YtphlcjghcffnbaaDoor
set_option linter.unusedVariables false
open Go.RowKit Big

theorem few_words {neg : Bool} {l : List Nat} (hn : Nrm l) (h1 : -340282366920938463463374607431768211456 < sg neg (val l)) (h2 : sg neg (val l) < 340282366920938463463374607431768211456) : l.length < 35184372088832 := by
  have hv : val l < 4294967296 ^ 4 := by
    have : (val l : Int) < 340282366920938463463374607431768211456 := by unfold sg at *; cases neg <;> simp at h1 h2 <;> omega
    have e : (4294967296 : Nat) ^ 4 = 340282366920938463463374607431768211456 := by decide
    rw [e]; omega
  rcases Nat.eq_zero_or_pos l.length with h0 | h0
  · omega
  · have h3 := val_ge hn h0
    apply Classical.byContradiction
    intro hc
    have : 4294967296 ^ 4 ≤ 4294967296 ^ (l.length - 1) := Nat.pow_le_pow_right (by omega) (by omega)
    omega

/-- The sum, or 0; 0, or the fault's number. -/
def rV (s : Int) : Int := if -9223372036854775808 ≤ s ∧ s ≤ 9223372036854775807 then s else 0
def rE (s : Int) : Int := if -9223372036854775808 ≤ s ∧ s ≤ 9223372036854775807 then 0 else 10

/-- dayref1.Small, either way. -/
theorem small_any (p : Nat) (x : Int) (w : World) (h : BigIs w p x) (h1 : -340282366920938463463374607431768211456 < x) (h2 : x < 340282366920938463463374607431768211456) :
    Calls Tryd.prog 17 #[.pointer (some ⟨p, 0, none⟩)] w fun e w' => e = .returned (.tuple #[.int .i64 (rV x), .int .i64 (rE x)]) ∧ w' = w := by
  obtain ⟨neg, v, l, hb, rfl⟩ := h
  by_cases hf : Fits (sg neg (val l))
  · have e : rV (sg neg (val l)) = sg neg (val l) ∧ rE (sg neg (val l)) = 0 := by unfold rV rE; exact ⟨if_pos hf, if_pos hf⟩
    rw [e.1, e.2]
    exact small_yes p neg v l w hb (few_words hb.nrm h1 h2) hf
  · have e : rV (sg neg (val l)) = 0 ∧ rE (sg neg (val l)) = 10 := by unfold rV rE; exact ⟨if_neg hf, if_neg hf⟩
    rw [e.1, e.2]
    exact small_no p neg v l w hb (few_words hb.nrm h1 h2) hf

/-- x.Add(x, y), by the numbers. -/
theorem addTo_any (px py : Nat) (x y : Int) (w : World) (hx : BigIs w px x) (hy : BigIs w py y) (bx : -340282366920938463463374607431768211456 < x ∧ x < 340282366920938463463374607431768211456) (by_ : -340282366920938463463374607431768211456 < y ∧ y < 340282366920938463463374607431768211456) :
    Calls Tryd.prog 12 #[.pointer (some ⟨px, 0, none⟩), .pointer (some ⟨px, 0, none⟩), .pointer (some ⟨py, 0, none⟩)] w fun e w' => e = .returned (.pointer (some ⟨px, 0, none⟩)) ∧ Hid (BigIs w' px (x + y) ∧ w.grownBy w' (some px)) := by
  obtain ⟨nx, vx, lx, hx, rfl⟩ := hx
  obtain ⟨ny, vy, ly, hy, rfl⟩ := hy
  exact Add_any px px py nx nx ny vx vx vy lx ly w hx.blk hx.wd.noInt hx hy (few_words hx.nrm bx.1 bx.2) (few_words hy.nrm by_.1 by_.2)

end Go.Proofs.YtphlcjghcffnbaaDoor
