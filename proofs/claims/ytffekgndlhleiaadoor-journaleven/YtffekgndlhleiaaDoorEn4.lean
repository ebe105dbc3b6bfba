/-
  The contracts of cmp.Compare at texts, cmp.Or at two numbers, entry.compare.
-/
import Derived.Test.YtffekgndlhleiaaDoorEn3
import Derived.Laws.Cover1
import Derived.Deep.RegionWith
import Derived.Deep.RegionHeld3
import Derived.BigRegion
import Derived.Laws.NewBlocks
namespace Go.Proofs.YtffekgndlhleiaaDoor
set_option linter.unusedVariables false
set_option linter.unusedSimpArgs false
set_option maxRecDepth 100000
open Go.RowKit Go.Lib

/-- Two texts held against each other. -/
def cmpS (a b : ByteArray) : Int := if Op.bytesLess a.toList b.toList = true then -1 else if (a.toList == b.toList) = true then 0 else 1
/-- Two lines held against each other. -/
def cmpL (a b : Ln) : Int := if cmpS a.acc b.acc ≠ 0 then cmpS a.acc b.acc else cmpS a.cur b.cur

theorem cmpS_zero {a b : ByteArray} : cmpS a b = 0 ↔ (a.toList == b.toList) = true := by
  unfold cmpS
  split
  · rename_i h
    refine ⟨fun h => by omega, fun e => ?_⟩
    rw [beq_iff_eq] at e
    rw [e, bl_self] at h
    cases h
  · split
    · simp_all
    · simp_all
theorem cmpS_neg {a b : ByteArray} : cmpS a b < 0 ↔ Op.bytesLess a.toList b.toList = true := by
  unfold cmpS
  split
  · simp_all
  · split
    · simp_all
    · simp_all
theorem cmpL_neg (a b : Ln) : decide (cmpL a b < 0) = lnLt a b := by
  unfold cmpL lnLt
  by_cases h : cmpS a.acc b.acc = 0
  · rw [if_neg (by simp [h])]
    have e := cmpS_zero.1 h
    have h2 : Op.bytesLess a.acc.toList b.acc.toList = false := by
      cases hh : Op.bytesLess a.acc.toList b.acc.toList
      · rfl
      · have := cmpS_neg.2 hh; omega
    rw [h2, e, Bool.false_or, Bool.true_and]
    rw [Bool.eq_iff_iff, decide_eq_true_eq, cmpS_neg]
  · rw [if_pos h]
    have e : (a.acc.toList == b.acc.toList) = false := by
      cases hh : (a.acc.toList == b.acc.toList)
      · rfl
      · exact absurd (cmpS_zero.2 hh) h
    rw [e, Bool.false_and, Bool.or_false]
    rw [Bool.eq_iff_iff, decide_eq_true_eq, cmpS_neg]
theorem cmpL_zero (a b : Ln) : decide (cmpL a b = 0) = lnEq a b := by
  unfold cmpL lnEq
  by_cases h : cmpS a.acc b.acc = 0
  · rw [if_neg (by simp [h]), cmpS_zero.1 h, Bool.true_and]
    rw [Bool.eq_iff_iff, decide_eq_true_eq, cmpS_zero]
  · rw [if_pos h]
    have e : (a.acc.toList == b.acc.toList) = false := by
      cases hh : (a.acc.toList == b.acc.toList)
      · rfl
      · exact absurd (cmpS_zero.2 hh) h
    rw [e, Bool.false_and]
    simp [h]
theorem cmpS_range (a b : ByteArray) : cmpS a b = -1 ∨ cmpS a b = 0 ∨ cmpS a b = 1 := by
  unfold cmpS
  split
  · simp
  · split <;> simp
theorem cmpL_range (a b : Ln) : cmpL a b = -1 ∨ cmpL a b = 0 ∨ cmpL a b = 1 := by
  unfold cmpL
  split
  · exact cmpS_range _ _
  · exact cmpS_range _ _

theorem cmpNaN_any (s : ByteArray) (w : World) :
    Calls Tryd.prog 70 #[.string s] w fun e w' => e = .returned (.bool false) ∧ w' = w := by
  go_enter Tryd.func70, Tryd.ntmps70
  go_wp2
  go_ret
  exact ⟨rfl, rfl⟩

theorem cmpCompare_any (a b : ByteArray) (w : World) :
    Calls Tryd.prog 63 #[.string a, .string b] w fun e w' => e = .returned (.int .i64 (cmpS a b)) ∧ w' = w := by
  cases h1 : Op.bytesLess a.toList b.toList
  · cases h2 : (a.toList == b.toList)
    · have er : cmpS a b = 1 := by simp only [cmpS]; rw [h1, h2]; rfl
      rw [er]
      have h2' : ¬ a.toList = b.toList := by simpa using h2
      clear er
      go_enter Tryd.func63, Tryd.ntmps63
      go_wp2_with (go_at_call 70; refine (cmpNaN_any _ _).mono ?_; rintro e w' ⟨rfl, rfl⟩)
      go_ret
      exact ⟨rfl, rfl⟩
    · have er : cmpS a b = 0 := by simp only [cmpS]; rw [h1, h2]; rfl
      rw [er]
      have h2' : a = b := toList_inj (by simpa using h2)
      subst h2'
      clear er h2
      go_enter Tryd.func63, Tryd.ntmps63
      go_wp2_with (go_at_call 70; refine (cmpNaN_any _ _).mono ?_; rintro e w' ⟨rfl, rfl⟩)
      go_ret
      exact ⟨rfl, rfl⟩
  · have er : cmpS a b = -1 := by simp only [cmpS]; rw [h1]; rfl
    rw [er]
    clear er
    go_enter Tryd.func63, Tryd.ntmps63
    go_wp2_with (go_at_call 70; refine (cmpNaN_any _ _).mono ?_; rintro e w' ⟨rfl, rfl⟩)
    go_ret
    exact ⟨rfl, rfl⟩

theorem cmpOr_any (b : Nat) (x y : Int) (w : World) (h0 : w.cell? ⟨b, 0, none⟩ = some (.int .i64 x)) (h1 : w.cell? ⟨b, 1, none⟩ = some (.int .i64 y)) :
    Calls Tryd.prog 62 #[.slice (some ⟨b, 0, none⟩) 2 2] w fun e w' => e = .returned (.int .i64 (if x ≠ 0 then x else y)) ∧ w' = w := by
  by_cases hx : x = 0
  · subst hx
    rw [if_neg (by simp)]
    by_cases hy : y = 0
    · subst hy
      go_enter Tryd.func62, Tryd.ntmps62
      go_wp2
      refine wp_loop_rounds 3 ?_
      rw [rounds_succ]
      go_wp2
      rw [rounds_succ]
      go_wp2
      rw [rounds_succ]
      go_wp2
      go_ret
      exact ⟨rfl, rfl⟩
    · have hy' : (y != 0) = true := by simp [hy]
      go_enter Tryd.func62, Tryd.ntmps62
      go_wp2
      refine wp_loop_rounds 3 ?_
      rw [rounds_succ]
      go_wp2
      rw [rounds_succ]
      go_wp2
      go_ret
      exact ⟨rfl, rfl⟩
  · rw [if_pos hx]
    have hx' : (x != 0) = true := by simp [hx]
    go_enter Tryd.func62, Tryd.ntmps62
    go_wp2
    refine wp_loop_rounds 3 ?_
    rw [rounds_succ]
    go_wp2
    go_ret
    exact ⟨rfl, rfl⟩

theorem cell_new (W : World) (ROW : Array Value) (t : TypeId) (b j : Nat) (v : Value) (hb : b = W.heap.size) (hv : ROW[j]? = some v) : ((W.alloc (.cells ROW t)).drew).cell? ⟨b, j, none⟩ = some v :=
  (World.cell?_alloc_at (w := W) ROW t b j hb).trans hv

set_option maxHeartbeats 4000000 in
theorem compare_any (x y : Ln) (w : World) :
    Calls Tryd.prog 55 #[.agg x.cells, .agg y.cells] w fun e w' => e = .returned (.int .i64 (cmpL x y)) ∧ Below w.heap.size w w' := by
  obtain ⟨x0, x1, x2⟩ := x
  obtain ⟨y0, y1, y2⟩ := y
  simp only [Ln.cells, cmpL]
  have c0 : ((((w.alloc (.cells #[.string x0, .string x1, .int .i64 x2] 55)).alloc (.cells #[.string y0, .string y1, .int .i64 y2] 55)).alloc (.cells #[.int .i64 (cmpS x0 y0), .int .i64 (cmpS x1 y1)] 3)).drew).cell? ⟨w.heap.size + 1 + 1, 0, none⟩ = some (.int .i64 (cmpS x0 y0)) := cell_new _ _ _ _ _ _ (by simp) rfl
  have c1 : ((((w.alloc (.cells #[.string x0, .string x1, .int .i64 x2] 55)).alloc (.cells #[.string y0, .string y1, .int .i64 y2] 55)).alloc (.cells #[.int .i64 (cmpS x0 y0), .int .i64 (cmpS x1 y1)] 3)).drew).cell? ⟨w.heap.size + 1 + 1, 1, none⟩ = some (.int .i64 (cmpS x1 y1)) := cell_new _ _ _ _ _ _ (by simp) rfl
  have hO := cmpOr_any _ _ _ _ c0 c1
  have bl : Below w.heap.size w ((((w.alloc (.cells #[.string x0, .string x1, .int .i64 x2] 55)).alloc (.cells #[.string y0, .string y1, .int .i64 y2] 55)).alloc (.cells #[.int .i64 (cmpS x0 y0), .int .i64 (cmpS x1 y1)] 3)).drew) := ((((Below.refl _ w).alloc (Nat.le_refl _) _).alloc (by simp) _).alloc (by simp; omega) _).drew
  clear c0 c1
  obtain ⟨r, hr⟩ : ∃ r, (if cmpS x0 y0 ≠ 0 then cmpS x0 y0 else cmpS x1 y1) = r := ⟨_, rfl⟩
  rw [hr] at hO ⊢
  clear hr
  go_enter Tryd.func55, Tryd.ntmps55
  go_wp2
  go_region_held3 (fun u => u.cell? ⟨w.heap.size, 0, none⟩ = some (.string x0) ∧ u.cell? ⟨w.heap.size, 1, none⟩ = some (.string x1) ∧ u.cell? ⟨w.heap.size + 1, 0, none⟩ = some (.string y0) ∧ u.cell? ⟨w.heap.size + 1, 1, none⟩ = some (.string y1)) (go_keep) (first | (go_at_call 63; refine (cmpCompare_any _ _ _).mono ?_; rintro e w' ⟨rfl, rfl⟩) | (go_at_call 62; refine hO.mono ?_; rintro e w' ⟨rfl, rfl⟩))
  all_goals
    go_wp2
    go_ret
    exact ⟨rfl, bl⟩
end Go.Proofs.YtffekgndlhleiaaDoor
