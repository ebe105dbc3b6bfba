/-
  The contracts of Uint64 and Int64 of quarterdaybig's Int, where a number is of two words at most.
-/
import Derived.Test.YtphlcjghcffnbaaDoorBig9
import Derived.Laws.Bits64b
namespace Go.Proofs.YtphlcjghcffnbaaDoor
set_option linter.unusedVariables false
open Go.RowKit Big

theorem or_word (x0 x1 : Nat) (h0 : x0 < 4294967296) (h1 : x1 < 4294967296) : bits .or .u64 (x0 : Int) ((x1 * 4294967296 : Nat) : Int) = ((x0 + 4294967296 * x1 : Nat) : Int) := by
  rw [bits_or_u64_nat _ _ (by omega) (by omega)]
  have := Nat.two_pow_add_eq_or_of_lt (i := 32) (b := x0) (by omega) x1
  rw [Nat.or_comm, Nat.mul_comm x1 4294967296, Nat.add_comm]
  exact congrArg _ this.symm

set_option maxHeartbeats 1000000 in
theorem uint64_any (p : Nat) (neg : Bool) (v : Value) (l : List Nat) (w : World) (h : IsBig w p neg v l) (hl : l.length ≤ 2) :
    Calls Tryd.prog 48 #[.pointer (some ⟨p, 0, none⟩)] w fun e w' => e = .returned (.int .u64 (val l : Nat)) ∧ w' = w := by
  have c1 := blk_cell1 h.blk
  have ho := h.wd.ok
  rcases h.wd.at_ with ⟨h0, a, cap, hv⟩ | ⟨h0, b, off, cap, hv, hb, hcap, hc⟩
  · subst h0; subst hv
    clear h ho
    go_enter Tryd.func48, Tryd.ntmps48
    go_wp2
    go_ret
    exact ⟨rfl, rfl⟩
  · subst hv
    match l, h0, hl with
    | [x0], _, _ =>
      have k0 : w.cell? ⟨b, off, none⟩ = some (.int .u32 (x0 : Nat)) := by first | (simp; done) | simpa using hc 0 (by simp)
      have b0 : x0 < 4294967296 := by simpa using ho 0 (by simp)
      have b0' : (x0 : Int) < 4294967296 := by omega
      have c1' : w.cell? ⟨p, 1, none⟩ = some (.slice (some ⟨b, off, none⟩) 1 cap) := c1
      have E : Hid (val [x0] = x0) := by simp [Hid, val]
      clear h ho hc c1 b0
      go_enter Tryd.func48, Tryd.ntmps48
      go_wp2
      go_ret
      exact ⟨by rw [E.out]; rfl, rfl⟩
    | [x0, x1], _, _ =>
      have k0 : w.cell? ⟨b, off, none⟩ = some (.int .u32 (x0 : Nat)) := by first | (simp; done) | simpa using hc 0 (by simp)
      have k1 : w.cell? ⟨b, off + 1, none⟩ = some (.int .u32 (x1 : Nat)) := by simpa using hc 1 (by simp)
      have b0 : x0 < 4294967296 := by simpa using ho 0 (by simp)
      have b1 : x1 < 4294967296 := by simpa using ho 1 (by simp)
      have c1' : w.cell? ⟨p, 1, none⟩ = some (.slice (some ⟨b, off, none⟩) 2 cap) := c1
      have e1 : (x1 : Int) * 4294967296 = ((x1 * 4294967296 : Nat) : Int) := by omega
      have e2 := or_word x0 x1 b0 b1
      have E : Hid (val [x0, x1] = x0 + 4294967296 * x1) := by simp [Hid, val]
      have b0' : (x0 : Int) < 4294967296 := by omega
      have b1' : (x1 : Int) < 4294967296 := by omega
      generalize x1 * 4294967296 = s at *
      generalize x0 + 4294967296 * x1 = t at *
      clear h ho hc c1 b0 b1
      go_enter Tryd.func48, Tryd.ntmps48
      go_wp2
      go_ret
      exact ⟨by rw [E.out]; rfl, rfl⟩

theorem int64_any (p : Nat) (neg : Bool) (v : Value) (l : List Nat) (w : World) (h : IsBig w p neg v l) (hl : l.length ≤ 2) (h1 : -9223372036854775808 ≤ sg neg (val l)) (h2 : sg neg (val l) ≤ 9223372036854775807) :
    Calls Tryd.prog 32 #[.pointer (some ⟨p, 0, none⟩)] w fun e w' => e = .returned (.int .i64 (sg neg (val l))) ∧ w' = w := by
  have c0 := blk_cell0 h.blk
  have H : Hid (IsBig w p neg v l) := h
  clear h
  generalize hn : val l = n at *
  have Hn : Hid (val l = n) := hn
  clear hn
  cases neg
  · go_enter Tryd.func32, Tryd.ntmps32
    go_wp2_with fail
    refine (uint64_any p _ v l w H.out hl).mono ?_
    rintro e w' ⟨rfl, hw⟩
    rw [hw, Hn.out]; clear hw w'
    have b1 : (n : Int) ≤ 9223372036854775807 := by simpa [sg] using h2
    clear h1 h2
    go_wp2
    go_ret
    exact ⟨rfl, rfl⟩
  · go_enter Tryd.func32, Tryd.ntmps32
    go_wp2_with fail
    refine (uint64_any p _ v l w H.out hl).mono ?_
    rintro e w' ⟨rfl, hw⟩
    rw [hw, Hn.out]; clear hw w'
    have b1 : (n : Int) ≤ 9223372036854775808 := by have : -9223372036854775808 ≤ -(n : Int) := by simpa [sg] using h1
                                                    omega
    have e1 : wrap64 (-wrap64 (n : Int)) = -(n : Int) := by unfold wrap64; omega
    clear h1 h2
    go_wp2
    go_ret
    refine ⟨?_, rfl⟩
    first | exact congrArg (fun z => Ending.returned (.int .i64 z)) e1 | rfl
end Go.Proofs.YtphlcjghcffnbaaDoor
