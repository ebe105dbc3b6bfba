/-
  Any amount as text, and any text as an amount: the walk over daylaw1.MoneyShows.
-/
import Derived.Test.YtikifooomeikgaaGreatDoorWRdR4
import Derived.Test.YtikifooomeikgaaGreatDoorWRShow
import Derived.Test.YtikifooomeikgaaGreatDoorErrT
import Derived.Lib.AppendIntMem
namespace Go.Proofs.YtikifooomeikgaaGreatDoor
set_option linter.unusedVariables false
set_option linter.unusedSimpArgs false
set_option maxRecDepth 100000
open Go.RowKit Go.Lib Math

theorem below_grown {a b : World} (h : a.grownBy b none) : Below a.heap.size a b :=
  ⟨h.os, h.tape, h.output, h.size, fun i hi => h.block i hi (by simp)⟩
theorem rdC_code (l : List UInt8) (p : Nat) : (rdC l p).2 = 0 ∨ (rdC l p).2 = 2 ∨ (rdC l p).2 = 10 := by
  unfold rdC
  repeat' split
  all_goals simp
theorem errC_is (c : Int) (h : c = 0 ∨ c = 2 ∨ c = 10) : ErrIs (errC c) c := by
  unfold errC
  split
  · rename_i e; exact .inl ⟨rfl, e⟩
  · exact .inr ⟨rfl, by omega, by omega⟩

set_option maxHeartbeats 3200000 in
theorem shows_walk (a p : Int) (s : ByteArray) (h1 : -9223372036854775808 ≤ a) (h2 : a ≤ 9223372036854775807) (hs : s.size ≤ 140737488351232) (w : World) (htab : Lib.TabBelow Tryz.prog w.heap.size w powName .u64 Lib.pow10Tab) (he : ErrT w) :
    Calls Tryz.prog 3 #[.int .i64 a, .int .i64 p, .string s] w fun e w' => e = .returned (.bool true) ∧ Below w.heap.size w w' := by
  have HE : Hid (∀ W, Below w.heap.size w W → ErrT W) := fun W hW => he.below hW (Nat.le_refl _)
  by_cases hp : 0 ≤ p ∧ p ≤ 6
  · obtain ⟨q, rfl⟩ : ∃ q : Nat, p = q := ⟨p.toNat, by omega⟩
    have hq : q ≤ 6 := by omega
    have hS0 := refShow_any a q w h1 h2 hq
    have hS := fun W hW => show_any a q h1 h2 hq W hW
    have hR0 := fun W => refRead_any s.data.toList q W hq (by rw [← Lib.size_eq]; exact hs)
    have hR := read_code s.data.toList q hq (by rw [← Lib.size_eq]; omega)
    rw [← txt_of] at hR
    unfold rdOut at hR0
    simp only [← txt_of] at hR0
    have hcode := rdC_code s.data.toList q
    obtain ⟨n, hn⟩ : ∃ n, (rdC s.data.toList q).1 = n := ⟨_, rfl⟩
    obtain ⟨c, hc⟩ : ∃ c, (rdC s.data.toList q).2 = c := ⟨_, rfl⟩
    rw [hc] at hcode
    have hEr := errC_is c hcode
    simp only [hn, hc] at hR0 hR
    obtain ⟨E, hE⟩ : ∃ E, errC c = E := ⟨_, rfl⟩
    rw [hE] at hR hEr
    obtain ⟨t, ht⟩ : ∃ t, txt (showS a q) = t := ⟨_, rfl⟩
    rw [ht] at hS hS0
    clear hn hc hE ht hcode
    go_enter Tryz.func3, Tryz.ntmps3
    go_wp2_with fail
    refine hS0.mono ?_
    rintro e w1 ⟨rfl, hg1⟩
    have hb1 := below_grown hg1
    go_wp2_with fail
    refine (hS _ (htab.on hb1).here).mono ?_
    rintro e w2 ⟨rfl, hb2⟩
    have hb12 := hb1.trans (hb2.mono hb1.size)
    go_wp2_with fail
    refine (err_true (E := .nilIface) (c := 0) (.inl ⟨rfl, rfl⟩) w2 (HE.out w2 hb12)).mono ?_
    rintro e w3 ⟨rfl, hb3⟩
    have hb13 := hb12.trans (hb3.mono hb12.size)
    go_wp2_with fail
    refine (hR0 _).mono ?_
    rintro e w4 ⟨rfl, hg4⟩
    have hb14 := hb13.trans ((below_grown hg4).mono hb13.size)
    go_wp2_with fail
    refine (hR _).mono ?_
    rintro e w5 ⟨rfl, hb5⟩
    have hb15 := hb14.trans (hb5.mono hb14.size)
    go_wp2_with fail
    refine (err_true hEr w5 (HE.out w5 hb15)).mono ?_
    rintro e w6 ⟨rfl, hb6⟩
    have hb16 := hb15.trans (hb6.mono hb15.size)
    go_wp2
    go_ret
    exact ⟨rfl, hb16⟩
  · have hS : ∀ W, Calls Tryz.prog 5 #[.int .i64 a, .int .i64 p] W fun e w' => e = .returned (.tuple #[.string ⟨#[]⟩, .iface 38 (.int .i64 1)]) ∧ w' = W := fun W => show_no a p hp W
    have hR := fun W => read_no s p hp W
    have hR0 := fun W => refRead_no s.data.toList p W (by omega)
    unfold rdOut at hR0
    simp only [← txt_of] at hR0
    have hEr : ErrIs (.iface 38 (.int .i64 1)) 1 := .inr ⟨rfl, by omega, by omega⟩
    by_cases hp0 : p < 0
    · go_enter Tryz.func3, Tryz.ntmps3
      go_wp2_with fail
      refine (hS _).mono ?_
      rintro e w1 ⟨rfl, rfl⟩
      go_wp2_with fail
      refine (err_true hEr _ he).mono ?_
      rintro e w2 ⟨rfl, hb2⟩
      go_wp2_with fail
      refine (hR0 _).mono ?_
      rintro e w3 ⟨rfl, rfl⟩
      go_wp2_with fail
      refine (hR _).mono ?_
      rintro e w4 ⟨rfl, rfl⟩
      go_wp2_with fail
      refine (err_true hEr _ (HE.out _ hb2)).mono ?_
      rintro e w5 ⟨rfl, hb5⟩
      go_wp2
      go_ret
      exact ⟨rfl, hb2.trans (hb5.mono hb2.size)⟩
    · have hp6 : ¬ p ≤ 6 := by omega
      go_enter Tryz.func3, Tryz.ntmps3
      go_wp2_with fail
      refine (hS _).mono ?_
      rintro e w1 ⟨rfl, rfl⟩
      go_wp2_with fail
      refine (err_true hEr _ he).mono ?_
      rintro e w2 ⟨rfl, hb2⟩
      go_wp2_with fail
      refine (hR0 _).mono ?_
      rintro e w3 ⟨rfl, rfl⟩
      go_wp2_with fail
      refine (hR _).mono ?_
      rintro e w4 ⟨rfl, rfl⟩
      go_wp2_with fail
      refine (err_true hEr _ (HE.out _ hb2)).mono ?_
      rintro e w5 ⟨rfl, hb5⟩
      go_wp2
      go_ret
      exact ⟨rfl, hb2.trans (hb5.mono hb2.size)⟩
end Go.Proofs.YtikifooomeikgaaGreatDoor
