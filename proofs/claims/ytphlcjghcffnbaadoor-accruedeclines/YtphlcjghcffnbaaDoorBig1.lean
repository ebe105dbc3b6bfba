/-
  Words in memory, and the contracts of quarterdaybig's trim, words and give.
-/
import Derived.Test.YtphlcjghcffnbaaDoorProg
import Derived.Test.YtphlcjghcffnbaaDoorBigMath
import Derived.WalkKit
import Derived.WalkSpells
import Derived.Below
import Derived.WalkSmall
namespace Go.Proofs.YtphlcjghcffnbaaDoor
set_option linter.unusedVariables false
open Go.RowKit Big

/-- A list of words in memory. -/
structure Wd (w : World) (v : Value) (l : List Nat) : Prop where
  ok : Ok l
  len : l.length ≤ 140737488355328
  at_ : (l = [] ∧ ∃ a cap, v = .slice a 0 cap) ∨ (0 < l.length ∧ ∃ b off cap, v = .slice (some ⟨b, off, none⟩) l.length cap ∧ b < w.heap.size ∧ l.length ≤ cap ∧ ∀ i, i < l.length → w.cell? ⟨b, off + i, none⟩ = some (.int .u32 (l.getD i 0 : Nat)))

/-- Words stay where nothing but a block that is not theirs is written. -/
theorem Wd.keep {w w' : World} {v : Value} {l : List Nat} {row : Option Nat} (h : Wd w v l) (hg : w.grownBy w' row) (hr : ∀ b off n cap, v = .slice (some ⟨b, off, none⟩) n cap → some b ≠ row) : Wd w' v l := by
  refine ⟨h.ok, h.len, ?_⟩
  rcases h.at_ with ⟨h0, a, cap, hv⟩ | ⟨h0, b, off, cap, hv, hb, hcap, hc⟩
  · exact .inl ⟨h0, a, cap, hv⟩
  · exact .inr ⟨h0, b, off, cap, hv, Nat.lt_of_lt_of_le hb hg.size, hcap, fun i hi => hg.cell (hc i hi) (hr b off _ cap hv)⟩

theorem Wd.grow {w w' : World} {v : Value} {l : List Nat} (h : Wd w v l) (hg : w.grownBy w' none) : Wd w' v l := h.keep hg (fun _ _ _ _ _ => by simp)

theorem wd_nil (w : World) (a : Option Addr) (cap : Nat) : Wd w (.slice a 0 cap) [] := ⟨fun i hi => by simp at hi, by simp, .inl ⟨rfl, a, cap, rfl⟩⟩
theorem wd_take {w : World} {b off n cap : Nat} {l : List Nat} (h : Wd w (.slice (some ⟨b, off, none⟩) n cap) l) (k : Nat) (hk : k ≤ l.length) : Wd w (.slice (some ⟨b, off, none⟩) k cap) (l.take k) := by
  rcases Nat.eq_zero_or_pos k with rfl | hp
  · exact wd_nil w _ _
  · have e : (l.take k).length = k := by simp; omega
    refine ⟨ok_take h.ok k, by rw [e]; have := h.len; omega, .inr ?_⟩
    rcases h.at_ with ⟨h0, a, cap', hv⟩ | ⟨h0, b', off', cap', hv, hb, hcap, hc⟩
    · subst h0; simp at hk; omega
    · cases hv
      refine ⟨by omega, b, off, cap, by rw [e], hb, by omega, fun i hi => ?_⟩
      rw [e] at hi
      rw [getD_take l k i hi]
      exact hc i (by omega)

set_option maxHeartbeats 1000000 in
theorem trim_any (v : Value) (l : List Nat) (w : World) (h : Wd w v l) :
    Calls Tryd.prog 41 #[v] w fun e w' => (∃ v', e = .returned v' ∧ Wd w v' (l.take (tl l l.length))) ∧ w' = w := by
  have hlen := h.len
  rcases h.at_ with ⟨h0, a, cap, hv⟩ | ⟨h0, b, off, cap, hv, hb, hcap, hc⟩
  · subst h0; subst hv
    go_enter Tryd.func41, Tryd.ntmps41
    go_wp2
    refine wp_loop_rounds 1 ?_
    rw [rounds_succ]
    cases a with
    | none =>
      go_wp2
      go_ret
      exact ⟨⟨_, rfl, wd_nil _ _ _⟩, rfl⟩
    | some a =>
      go_wp2
      go_ret
      exact ⟨⟨_, rfl, wd_nil _ _ _⟩, rfl⟩
  · subst hv
    have Hc : Hid (∀ i, i < l.length → w.cell? ⟨b, off + i, none⟩ = some (.int .u32 (l.getD i 0 : Nat))) := hc
    have Ho : Hid (Ok l) := h.ok
    have Hr : Hid (Wd w (.slice (some ⟨b, off, none⟩) l.length cap) l) := h
    clear hc h
    go_enter Tryd.func41, Tryd.ntmps41
    go_wp2
    go_loop [3] (fun n => ∃ k : Nat, k ≤ l.length ∧ n = .int .i64 k ∧ Hid (tl l k = tl l l.length)) (fun n => (intOf n).toNat)
    case atStart => exact ⟨l.length, Nat.le_refl _, rfl, rfl⟩
    case round =>
      obtain ⟨k, hk, rfl, Hk⟩ := hrel
      cases k with
      | zero =>
        go_wp2
        go_ret
        refine ⟨⟨_, rfl, ?_⟩, rfl⟩
        rw [← Hk.out]
        exact wd_take Hr.out 0 (by omega)
      | succ j =>
        have hcj := Hc.out j (by omega)
        by_cases hz : l.getD j 0 = 0
        · rw [hz] at hcj
          have Hk2 : Hid (tl l j = tl l l.length) := by
            have := Hk.out; rw [tl_zero l j hz] at this; exact this
          clear Hk hz
          go_wp2
          go_round
          case rel => exact ⟨j, by omega, by go_num, Hk2⟩
          case measure => simp [intOf]
        · have hb1 := Ho.out j (by omega)
          have Hk2 : Hid (j + 1 = tl l l.length) := by
            have := Hk.out; rw [tl_pos l j hz] at this; exact this
          generalize l.getD j 0 = x at *
          have hx : ((x : Int) == 0) = false := by simp; omega
          go_wp2
          go_ret
          refine ⟨⟨_, rfl, ?_⟩, rfl⟩
          rw [← Hk2.out]
          exact wd_take Hr.out (j + 1) hk
end Go.Proofs.YtphlcjghcffnbaaDoor
