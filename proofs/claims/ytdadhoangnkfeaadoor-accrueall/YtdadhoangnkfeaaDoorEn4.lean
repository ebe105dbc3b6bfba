/-
  The contracts of cmp.Compare at texts, cmp.Or at two numbers, entry.compare.
-/
import Derived.Test.YtdadhoangnkfeaaDoorEn3
import Derived.Laws.Cover1
import Derived.Deep.RegionWith
import Derived.Deep.RegionHeld3
import Derived.BigRegion
import Derived.Laws.NewBlocks
namespace Go.Proofs.YtdadhoangnkfeaaDoor
set_option linter.unusedVariables false
set_option linter.unusedSimpArgs false
set_option maxRecDepth 100000
open Go.RowKit Go.Lib

/-- Two texts held against each other. -/
def cmpS (a b : ByteArray) : Int := if Op.bytesLess a.toList b.toList = true then -1 else if (a.toList == b.toList) = true then 0 else 1
/-- Two lines held against each other. -/
def cmpL (a b : Ln) : Int := if cmpS a.acc b.acc ≠ 0 then cmpS a.acc b.acc else cmpS a.cur b.cur

theorem cmpS_zero {a b : ByteArray} : cmpS a b = 0 ↔ (a.toList == b.toList) = true := by
  unfold cmpS
  split
  · rename_i h
    refine ⟨fun h => by omega, fun e => ?_⟩
    rw [beq_iff_eq] at e
    rw [e, bl_self] at h
    cases h
  · split
    · simp_all
    · simp_all
theorem cmpS_neg {a b : ByteArray} : cmpS a b < 0 ↔ Op.bytesLess a.toList b.toList = true := by
  unfold cmpS
  split
  · simp_all
  · split
    · simp_all
    · simp_all
theorem cmpL_neg (a b : Ln) : decide (cmpL a b < 0) = lnLt a b := by
  unfold cmpL lnLt
  by_cases h : cmpS a.acc b.acc = 0
  · rw [if_neg (by simp [h])]
    have e := cmpS_zero.1 h
    have h2 : Op.bytesLess a.acc.toList b.acc.toList = false := by
      cases hh : Op.bytesLess a.acc.toList b.acc.toList
      · rfl
      · have := cmpS_neg.2 hh; omega
    rw [h2, e, Bool.false_or, Bool.true_and]
    rw [Bool.eq_iff_iff, decide_eq_true_eq, cmpS_neg]
  · rw [if_pos h]
    have e : (a.acc.toList == b.acc.toList) = false := by
      cases hh : (a.acc.toList == b.acc.toList)
      · rfl
      · exact absurd (cmpS_zero.2 hh) h
    rw [e, Bool.false_and, Bool.or_false]
    rw [Bool.eq_iff_iff, decide_eq_true_eq, cmpS_neg]
theorem cmpL_zero (a b : Ln) : decide (cmpL a b = 0) = lnEq a b := by
  unfold cmpL lnEq
  by_cases h : cmpS a.acc b.acc = 0
  · rw [if_neg (by simp [h]), cmpS_zero.1 h, Bool.true_and]
    rw [Bool.eq_iff_iff, decide_eq_true_eq, cmpS_zero]
  · rw [if_pos h]
    have e : (a.acc.toList == b.acc.toList) = false := by
      cases hh : (a.acc.toList == b.acc.toList)
      · rfl
      · exact absurd (cmpS_zero.2 hh) h
    rw [e, Bool.false_and]
    simp [h]
theorem cmpS_range (a b : ByteArray) : cmpS a b = -1 ∨ cmpS a b = 0 ∨ cmpS a b = 1 := by
  unfold cmpS
  split
  · simp
  · split <;> simp
theorem cmpL_range (a b : Ln) : cmpL a b = -1 ∨ cmpL a b = 0 ∨ cmpL a b = 1 := by
  unfold cmpL
  split
  · exact cmpS_range _ _
  · exact cmpS_range _ _

theorem cell_new (W : World) (ROW : Array Value) (t : TypeId) (b j : Nat) (v : Value) (hb : b = W.heap.size) (hv : ROW[j]? = some v) : ((W.alloc (.cells ROW t)).drew).cell? ⟨b, j, none⟩ = some v :=
  (World.cell?_alloc_at (w := W) ROW t b j hb).trans hv

end Go.Proofs.YtdadhoangnkfeaaDoor
