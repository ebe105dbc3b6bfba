/-
  The contract of dayref2.Ahead.
-/
import Derived.Test.YtheabcdncildiaaDoorFrB1
namespace Go.Proofs.YtheabcdncildiaaDoor
set_option linter.unusedVariables false
set_option linter.unusedSimpArgs false
set_option maxRecDepth 100000
open Go.RowKit Go.Lib

theorem ne_list {a b : ByteArray} (h : a ≠ b) : ¬ a.toList = b.toList := fun e => h (toList_inj e)
theorem cmpS_eq {a b : ByteArray} : cmpS a b = 0 ↔ a = b := by
  rw [cmpS_zero]
  constructor
  · intro h; exact toList_inj (by simpa using h)
  · intro h; subst h; simp

set_option maxHeartbeats 1000000 in
theorem ahead_any (x y : Bl) (w : World) :
    Calls Tryd.prog 19 #[.agg x.cells, .agg y.cells] w fun e w' => e = .returned (.bool (decide (cmpB x y < 0))) ∧ Below w.heap.size w w' := by
  obtain ⟨x0, x1, x2, x3⟩ := x
  obtain ⟨y0, y1, y2, y3⟩ := y
  simp only [Bl.cells, cmpB]
  have bl : Below w.heap.size w ((w.alloc (.cells #[.int .i64 x0, .string x1, .string x2, .int .i64 x3] 56)).alloc (.cells #[.int .i64 y0, .string y1, .string y2, .int .i64 y3] 56)) := ((Below.refl _ w).alloc (Nat.le_refl _) _).alloc (by simp) _
  by_cases h0 : x0 = y0
  · subst h0
    have e0 : cmpI x0 x0 = 0 := by simp [cmpI]
    rw [e0, if_neg (by simp)]
    by_cases h1 : x1 = y1
    · subst h1
      rw [if_neg (by simp [cmpS_eq.2 rfl])]
      have er : decide (cmpS x2 y2 < 0) = Op.bytesLess x2.toList y2.toList := by rw [Bool.eq_iff_iff, decide_eq_true_eq, cmpS_neg]
      rw [er]
      clear er e0
      go_enter Tryd.func19, Tryd.ntmps19
      go_wp2
      go_ret
      exact ⟨rfl, bl⟩
    · have hc : cmpS x1 y1 ≠ 0 := fun h => h1 (cmpS_eq.1 h)
      rw [if_pos hc]
      have er : decide (cmpS x1 y1 < 0) = Op.bytesLess x1.toList y1.toList := by rw [Bool.eq_iff_iff, decide_eq_true_eq, cmpS_neg]
      rw [er]
      have h1' := ne_list h1
      have h1b := en_ne h1
      clear er e0 hc h1
      go_enter Tryd.func19, Tryd.ntmps19
      go_wp2
      go_ret
      exact ⟨rfl, bl⟩
  · have hc : cmpI x0 y0 ≠ 0 := by unfold cmpI; split <;> (try split) <;> omega
    rw [if_pos hc]
    have er : decide (cmpI x0 y0 < 0) = decide (x0 < y0) := by
      unfold cmpI
      by_cases h : x0 < y0
      · simp [h]
      · rw [if_neg h]; simp [h]; split <;> omega
    rw [er]
    have h0' : (x0 != y0) = true := by simp [h0]
    clear er hc
    go_enter Tryd.func19, Tryd.ntmps19
    go_wp2
    go_ret
    exact ⟨rfl, bl⟩

end Go.Proofs.YtheabcdncildiaaDoor
