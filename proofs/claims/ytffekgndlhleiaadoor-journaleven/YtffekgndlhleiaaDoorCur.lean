/-
  The contracts of rate.Cur, of strings.ContainsFunc at its closure, and of rate.isUpTo.
-/
import Derived.Test.YtffekgndlhleiaaDoorIs
import Derived.WalkKit
import Derived.WalkSpells
import Derived.Lib.OthersKept
import Derived.Lib.TrimU
import Derived.Deep.LoopGhost
namespace Go.Proofs.YtffekgndlhleiaaDoor
set_option linter.unusedVariables false
open Go.RowKit Go.Lib

/-- A sign that is no letter A to Z. -/
def other (r : Nat) : Bool := decide (r < 65) || decide (90 < r)

/-- Is there such a sign, from a place on, among at most so many? -/
def otherFrom (s : ByteArray) : Nat → Nat → Int
  | 0, _ => -1
  | f + 1, pos => if pos < s.size then (if other (Utf8.decode s pos).1 = true then (pos : Int) else otherFrom s f (pos + (Utf8.decode s pos).2)) else -1

theorem otherFrom_end (s : ByteArray) (f pos : Nat) (h : ¬ pos < s.size) : otherFrom s f pos = -1 := by cases f <;> simp [otherFrom, h]

theorem otherFrom_ge (s : ByteArray) : ∀ (f pos : Nat), -1 ≤ otherFrom s f pos
  | 0, _ => by simp [otherFrom]
  | f + 1, pos => by
    unfold otherFrom
    split
    · split
      · omega
      · exact otherFrom_ge s f _
    · omega

/-- Is a text a currency? -/
def isCur (s : ByteArray) : Bool := s.size == 3 && decide (otherFrom s s.size 0 < 0)

theorem closure_any (r : Nat) (w : World) :
    Calls Tryd.prog 53 #[.int .i32 r] w fun e w' => e = .returned (.bool (other r)) ∧ w' = w := by
  by_cases h1 : (r : Int) < 65
  · go_enter Tryd.func53, Tryd.ntmps53
    go_wp2
    go_ret
    refine ⟨?_, rfl⟩
    have : other r = true := by simp [other]; omega
    rw [this]; rfl
  · go_enter Tryd.func53, Tryd.ntmps53
    go_wp2
    go_ret
    refine ⟨?_, rfl⟩
    have : other r = decide ((90 : Int) < r) := by
      have e1 : decide (r < 65) = false := by simp; omega
      have e2 : decide (90 < r) = decide ((90 : Int) < r) := by simp; omega
      unfold other; rw [e1, e2]; rfl
    rw [this]; rfl

set_option maxHeartbeats 1000000 in
theorem indexFunc_any (s : ByteArray) (w : World) :
    Calls Tryd.prog 69 #[.string s, .func (.func 53) #[] #[], .bool true] w fun e w' => e = .returned (.int .i64 (otherFrom s s.size 0)) ∧ Below w.heap.size w w' := by
  go_enter Tryd.func69, Tryd.ntmps69
  go_wp2
  go_loopg [] s.size (fun gf wx => ∃ pos : Nat, wx.heap[w.heap.size]? = some (.stringIter s pos) ∧ Below w.heap.size w wx ∧ otherFrom s gf pos = otherFrom s s.size 0 ∧ s.size ≤ pos + gf)
  case atStart => exact ⟨0, World.iter_heap w s 0, (Below.refl _ w).alloc (Nat.le_refl _) _, rfl, by omega⟩
  case round =>
    obtain ⟨pos, hit, hbw, hleft, hfu⟩ := hrel
    by_cases hps : pos < s.size
    · obtain ⟨g', rfl⟩ : ∃ g', gk = g' + 1 := ⟨gk - 1, by omega⟩
      have hnx : ∀ ty, (Instr.next (.pointer (some ⟨w.heap.size, 0, none⟩)) true ty).run Tryd.prog wr = _ := fun ty => Lib.run_next_any_at wr w.heap.size s pos ty hit hps
      have hwd := Lib.width_pos s pos
      obtain ⟨R, hR⟩ : ∃ R, (Utf8.decode s pos).1 = R := ⟨_, rfl⟩
      obtain ⟨K, hK⟩ : ∃ K, (Utf8.decode s pos).2 = K := ⟨_, rfl⟩
      simp only [otherFrom, hps, if_true, hR, hK] at hleft
      rw [hR, hK] at hnx
      rw [hK] at hwd
      have hit2 := Lib.iterAt_heap wr w.heap.size s pos (pos + K) hit
      have hbw2 := Lib.below_iterAt hbw (k := w.heap.size) (Nat.le_refl _) s (pos + K)
      obtain ⟨W, hWd⟩ : ∃ W, wr.iterAt w.heap.size s (pos + K) = W := ⟨_, rfl⟩
      rw [hWd] at hnx hit2 hbw2
      cases hsp : other R <;> simp only [hsp, if_true, Bool.false_eq_true, if_false] at hleft
      · go_wp2_with (go_at_call 53; refine (closure_any R _).mono ?_; rintro e W' ⟨rfl, rfl⟩; rw [hsp])
        go_roundg g'
        case measure => omega
        case rel => exact ⟨pos + K, hit2, hbw2, hleft, by omega⟩
      · go_wp2_with (go_at_call 53; refine (closure_any R _).mono ?_; rintro e W' ⟨rfl, rfl⟩; rw [hsp])
        go_ret
        exact ⟨by rw [← hleft]; rfl, hbw2⟩
    · have hnx : ∀ ty, (Instr.next (.pointer (some ⟨w.heap.size, 0, none⟩)) true ty).run Tryd.prog wr = _ := fun ty => Lib.run_next_end_at wr w.heap.size s pos ty hit hps
      rw [otherFrom_end s gk pos hps] at hleft
      go_wp2
      go_ret
      exact ⟨by rw [← hleft]; rfl, hbw⟩

theorem containsFunc_any (s : ByteArray) (w : World) :
    Calls Tryd.prog 51 #[.string s, .func (.func 53) #[] #[]] w fun e w' => e = .returned (.bool (decide (0 ≤ otherFrom s s.size 0))) ∧ Below w.heap.size w w' := by
  have hI : Calls Tryd.prog 61 #[.string s, .func (.func 53) #[] #[]] w fun e w' => e = .returned (.int .i64 (otherFrom s s.size 0)) ∧ Below w.heap.size w w' := by
    go_enter Tryd.func61, Tryd.ntmps61
    go_wp2_with fail
    refine (indexFunc_any s _).mono ?_
    rintro e w' ⟨rfl, hb⟩
    go_wp2
    go_ret
    exact ⟨rfl, hb⟩
  go_enter Tryd.func51, Tryd.ntmps51
  go_wp2_with fail
  refine hI.mono ?_
  rintro e w' ⟨rfl, hb⟩
  go_wp2
  go_ret
  exact ⟨rfl, hb⟩

theorem cur_any (s : ByteArray) (w : World) :
    Calls Tryd.prog 35 #[.string s] w fun e w' => e = .returned (.bool (isCur s)) ∧ Below w.heap.size w w' := by
  by_cases h : s.size = 3
  · have h' : ((s.size : Int) == 3) = true := by simp; omega
    go_enter Tryd.func35, Tryd.ntmps35
    go_wp2_with fail
    refine (containsFunc_any s _).mono ?_
    rintro e w' ⟨rfl, hb⟩
    have e1 : isCur s = !decide (0 ≤ otherFrom s s.size 0) := by
      have e2 : (s.size == 3) = true := by simp [h]
      have e3 : decide (otherFrom s s.size 0 < 0) = !decide (0 ≤ otherFrom s s.size 0) := by
        by_cases h0 : 0 ≤ otherFrom s s.size 0
        · rw [decide_eq_true h0, decide_eq_false (by omega)]; rfl
        · rw [decide_eq_false h0, decide_eq_true (by omega)]; rfl
      unfold isCur; rw [e2, e3]; rfl
    rw [h] at e1
    go_wp2
    go_ret
    exact ⟨by rw [e1]; rfl, hb⟩
  · have h' : ((s.size : Int) == 3) = false := by simp; omega
    have e1 : isCur s = false := by
      have e2 : (s.size == 3) = false := by simp [h]
      unfold isCur; rw [e2]; rfl
    go_enter Tryd.func35, Tryd.ntmps35
    go_wp2
    go_ret
    exact ⟨by rw [e1]; rfl, Below.refl _ _⟩

end Go.Proofs.YtffekgndlhleiaaDoor
