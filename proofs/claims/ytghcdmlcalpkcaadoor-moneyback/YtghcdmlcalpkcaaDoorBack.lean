/-
  What is shown is read, and what is read is shown: the walk over daylaw1.MoneyBack.
-/
import Derived.Test.YtghcdmlcalpkcaaDoorTxt3
import Derived.Lib.AppendIntMem
namespace Go.Proofs.YtghcdmlcalpkcaaDoor
set_option linter.unusedVariables false
set_option linter.unusedSimpArgs false
open Go.RowKit Go.Lib Math

theorem show_fact : txt (showS (-5) 2) = ⟨#[45, 48, 46, 48, 53]⟩ := by
  have e : decDigits 5 = [53] := by rw [decDigits_one (by omega)]; rfl
  have e2 : showS (-5) 2 = [45, 48, 46, 48, 53] := by
    unfold showS
    rw [if_pos (by omega), show (-5 : Int).natAbs = 5 from rfl, e]
    rfl
  rw [e2]; rfl

theorem show_len (a : Int) (p : Nat) (h1 : -9223372036854775808 ≤ a) (h2 : a ≤ 9223372036854775807) (hp : p ≤ 6) : (showS a p).length ≤ 100 := by
  have hn : nDigits a.natAbs ≤ 19 := dec_few _ 19 (by decide) (by have : (10 : Nat) ^ 19 = 10000000000000000000 := by decide
                                                                  omega)
  have hl := pad_length p (decDigits a.natAbs)
  rw [decDigits_length] at hl
  have hpl : (pointL (padTo p (decDigits a.natAbs)) p).length ≤ (padTo p (decDigits a.natAbs)).length + 1 := by
    unfold pointL; split
    · omega
    · simp; omega
  unfold showS
  split
  · rw [List.length_cons]; omega
  · omega

theorem read_range (l : List UInt8) (p : Nat) (n : Int) (h : readS l p = some n) : -9223372036854775808 ≤ n ∧ n ≤ 9223372036854775807 := by
  unfold readS at h
  split at h
  · cases h
  · split at h
    · split at h
      · split at h
        · rename_i hv; obtain rfl := Option.some.inj h; omega
        · cases h
      · split at h
        · rename_i hv; obtain rfl := Option.some.inj h; omega
        · cases h
    · cases h

set_option maxHeartbeats 3200000 in
theorem back_any (a p : Int) (s : ByteArray) (h1 : -9223372036854775808 ≤ a) (h2 : a ≤ 9223372036854775807) (hs : s.size ≤ 9223372036854775807) (w : World) (htab : Lib.TabBelow Tryd.prog w.heap.size w powName .u64 Lib.pow10Tab) :
    Calls Tryd.prog 3 #[.int .i64 a, .int .i64 p, .string s] w fun e w' => e = .returned (.bool true) ∧ Below w.heap.size w w' := by
  have hF := show_any (-5) 2 (by omega) (by omega) (by omega) w (htab.here)
  rw [show_fact] at hF
  by_cases hp : 0 ≤ p ∧ p ≤ 6
  · obtain ⟨q, rfl⟩ : ∃ q : Nat, p = q := ⟨p.toNat, by omega⟩
    have hq : q ≤ 6 := by omega
    have hS := fun W hW => show_any a q h1 h2 hq W hW
    have hR := read_any (showS a q) q hq (by have := show_len a q h1 h2 hq; omega)
    rw [show_read a q h1 h2 hq] at hR
    have hR' : ∀ W, Calls Tryd.prog 5 #[.string (txt (showS a q)), .int .i64 q] W fun e w' => e = .returned (.tuple #[.int .i64 a, .nilIface]) ∧ Below W.heap.size W w' := hR
    have hR2 := read_any s.data.toList q hq (by rw [← Lib.size_eq]; exact hs)
    rw [← txt_of] at hR2
    obtain ⟨t, ht⟩ : ∃ t, txt (showS a q) = t := ⟨_, rfl⟩
    rw [ht] at hS hR'
    clear hR ht
    cases hr : readS s.data.toList q with
    | none =>
      rw [hr] at hR2
      have hR2' : ∀ W, Calls Tryd.prog 5 #[.string s, .int .i64 q] W fun e w' => (∃ c : Int, e = .returned (.tuple #[.int .i64 0, .iface 30 (.int .i64 c)])) ∧ Below W.heap.size W w' := hR2
      clear hR2 hr
      go_enter Tryd.func3, Tryd.ntmps3
      go_wp2_with fail
      refine hF.mono ?_
      rintro e w1 ⟨rfl, hb1⟩
      go_wp2_with fail
      refine (hS _ (htab.on hb1).here).mono ?_
      rintro e w2 ⟨rfl, hb2⟩
      go_wp2_with fail
      refine (hR' _).mono ?_
      rintro e w3 ⟨rfl, hb3⟩
      go_wp2_with fail
      refine (hR2' _).mono ?_
      rintro e w4 ⟨⟨c, rfl⟩, hb4⟩
      have hb12 := hb1.trans (hb2.mono hb1.size)
      have hb13 := hb12.trans (hb3.mono hb12.size)
      have hb14 := hb13.trans (hb4.mono hb13.size)
      go_wp2
      go_ret
      exact ⟨rfl, hb14⟩
    | some n =>
      have hrange := read_range _ _ _ hr
      have hS2 := fun W hW => show_any n q hrange.1 hrange.2 hq W hW
      rw [read_show _ _ _ hr, ← txt_of] at hS2
      rw [hr] at hR2
      have hR2' : ∀ W, Calls Tryd.prog 5 #[.string s, .int .i64 q] W fun e w' => e = .returned (.tuple #[.int .i64 n, .nilIface]) ∧ Below W.heap.size W w' := hR2
      clear hR2 hr
      go_enter Tryd.func3, Tryd.ntmps3
      go_wp2_with fail
      refine hF.mono ?_
      rintro e w1 ⟨rfl, hb1⟩
      go_wp2_with fail
      refine (hS _ (htab.on hb1).here).mono ?_
      rintro e w2 ⟨rfl, hb2⟩
      go_wp2_with fail
      refine (hR' _).mono ?_
      rintro e w3 ⟨rfl, hb3⟩
      go_wp2_with fail
      refine (hR2' _).mono ?_
      rintro e w4 ⟨rfl, hb4⟩
      have hb12 := hb1.trans (hb2.mono hb1.size)
      have hb13 := hb12.trans (hb3.mono hb12.size)
      have hb14 := hb13.trans (hb4.mono hb13.size)
      go_wp2_with fail
      refine (hS2 _ (htab.on hb14).here).mono ?_
      rintro e w5 ⟨rfl, hb5⟩
      go_wp2
      go_ret
      exact ⟨rfl, hb14.trans (hb5.mono hb14.size)⟩
  · go_enter Tryd.func3, Tryd.ntmps3
    go_wp2_with fail
    refine hF.mono ?_
    rintro e w1 ⟨rfl, hb1⟩
    go_wp2_with fail
    refine (show_no a p hp _).mono ?_
    rintro e w' ⟨rfl, rfl⟩
    go_wp2_with fail
    refine (read_no s p hp _).mono ?_
    rintro e w' ⟨rfl, rfl⟩
    go_wp2
    go_ret
    exact ⟨rfl, hb1⟩
end Go.Proofs.YtghcdmlcalpkcaaDoor
