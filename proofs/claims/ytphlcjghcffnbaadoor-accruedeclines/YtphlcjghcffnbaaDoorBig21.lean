/-
  The contracts of the method Bit of quarterdaybig's Int at its least bit, and of dayref1's Ratio.
-/
import Derived.Test.YtphlcjghcffnbaaDoorBig20
import Derived.Laws.Bits64b
namespace Go.Proofs.YtphlcjghcffnbaaDoor
set_option linter.unusedVariables false
open Go.RowKit Big

theorem bit0_any (v : Value) (l : List Nat) (w : World) (h : Wd w v l) (hl : l.length < 35184372088832) :
    Calls Tryd.prog 29 #[v, .int .i64 0] w fun e w' => e = .returned (.int .u64 ((val l % 2 : Nat) : Int)) ∧ w' = w := by
  rcases Nat.eq_zero_or_pos l.length with h0 | h0
  · obtain ⟨a, cap, rfl⟩ := h.slice
    have e : val l % 2 = 0 := by rw [List.eq_nil_of_length_eq_zero h0]; rfl
    rw [h0, e]
    clear h e
    go_enter Tryd.func29, Tryd.ntmps29
    go_wp2
    go_ret
    exact ⟨rfl, rfl⟩
  · have := bit_i v l 0 w h (by omega) hl
    have e : bitOf (val l) 0 = val l % 2 := by unfold bitOf; simp
    rw [e] at this
    exact this

set_option maxHeartbeats 1000000 in
theorem bit_big (p : Nat) (x : Int) (w : World) (h : BigIs w p x) (hf : Few x) :
    Calls Tryd.prog 15 #[.pointer (some ⟨p, 0, none⟩), .int .i64 0] w fun e w' => e = .returned (.int .u64 (x % 2)) ∧ Hid (w.grownBy w' none) := by
  obtain ⟨neg, v, l, hb, rfl⟩ := h
  have hl := few_words hb.nrm hf.1 hf.2
  have c0 := blk_cell0 hb.blk
  have c1 := blk_cell1 hb.blk
  cases neg
  · have e1 : sg false (val l) % 2 = ((val l % 2 : Nat) : Int) := rfl
    have B : Hid (Calls Tryd.prog 29 #[v, .int .i64 0] w fun e w' => e = .returned (.int .u64 ((val l % 2 : Nat) : Int)) ∧ w' = w) := bit0_any v l w hb.wd hl
    rw [e1]
    obtain ⟨a, cap, rfl⟩ := hb.wd.slice
    clear hb hf hl e1
    generalize val l % 2 = k at *
    go_enter Tryd.func15, Tryd.ntmps15
    go_wp2_with fail
    refine B.out.mono ?_
    rintro e w' ⟨rfl, hw⟩
    rw [hw]; clear hw w'
    go_wp2
    go_ret
    exact ⟨rfl, grefl _ _⟩
  · have l0 := hb.sgn rfl
    have v0 : 1 ≤ val l := by
      have h1 := val_ge hb.nrm l0
      have h2 := Nat.pow_pos (n := l.length - 1) (by omega : 0 < 4294967296)
      omega
    obtain ⟨W1, hW1⟩ : ∃ W1, w.alloc (.cells #[.int .u32 1] 61) = W1 := ⟨_, rfl⟩
    have g1 : w.grownBy W1 none := by rw [← hW1]; exact World.grownBy_alloc _ _ _
    have w1 : Wd W1 (.slice (some ⟨w.heap.size, 0, none⟩) 1 1) [1] := by
      rw [← hW1]
      exact row_wd (w := w.alloc (.cells #[.int .u32 1] 61)) (g := w.heap.size) (r := [1]) (by unfold RowAt; rw [alloc_blk]; rfl) (fun i hi => by simp at hi; subst hi; simp) (by simp) 1 (by simp)
    have S : Hid (Calls Tryd.prog 30 #[v, .slice (some ⟨w.heap.size, 0, none⟩) 1 1] W1 fun e w' => ∃ v' l', e = .returned v' ∧ Hid (Wd w' v' l' ∧ l'.length < 35184372088832 ∧ val l' = val l - 1 ∧ w.grownBy w' none)) := by
      refine (sub_any v _ l [1] W1 (hb.wd.grow g1) w1 (by simp [val]; omega) (by simp; omega) hl).mono ?_
      rintro e w' ⟨v', l', rfl, a1, a2, a3, a4⟩
      have a5 : val l' = val l - 1 := by rw [a3]; simp [val]
      refine ⟨v', l', rfl, a1, ?_, a5, gtrans g1 a4⟩
      have := len_le hb.wd.ok a2 (by omega)
      omega
    have B : Hid (∀ W v' l', Wd W v' l' → l'.length < 35184372088832 → val l' = val l - 1 → Calls Tryd.prog 29 #[v', .int .i64 0] W fun e w' => e = .returned (.int .u64 (((val l - 1) % 2 : Nat) : Int)) ∧ w' = W) := fun W v' l' hv hn he => by
      have := bit0_any v' l' W hv hn
      rw [he] at this
      exact this
    have e1 : sg true (val l) % 2 = 1 - (((val l - 1) % 2 : Nat) : Int) := by
      have : sg true (val l) = -(val l : Int) := rfl
      rw [this]
      omega
    rw [e1]
    have k2 : (val l - 1) % 2 = 0 ∨ (val l - 1) % 2 = 1 := by omega
    obtain ⟨a, cap, rfl⟩ := hb.wd.slice
    clear hb hf hl e1 w1 g1 l0 v0
    generalize (val l - 1) % 2 = k at *
    rcases k2 with rfl | rfl
    all_goals
      go_enter Tryd.func15, Tryd.ntmps15
      go_wp2_with fail
      refine S.out.mono ?_
      rintro e w2 ⟨v', l', rfl, hR⟩
      clear S
      go_wp2_with fail
      refine (B.out w2 v' l' hR.out.1 hR.out.2.1 hR.out.2.2.1).mono ?_
      rintro e w' ⟨rfl, hw⟩
      rw [hw]; clear hw w' B
      have hG : Hid (w.grownBy w2 none) := hR.out.2.2.2
      clear hR
      go_wp2
      go_ret
      exact ⟨rfl, hG⟩
end Go.Proofs.YtphlcjghcffnbaaDoor
