/-
  The contract of slices.Insert of one line, whole; of entry.together.
-/
import Derived.Test.YtdadhoangnkfeaaDoorEn6b
namespace Go.Proofs.YtdadhoangnkfeaaDoor
set_option linter.unusedVariables false
set_option linter.unusedSimpArgs false
set_option maxRecDepth 100000
open Go.RowKit Go.Lib

theorem grown_any {w w' : World} (h : w.grownBy w' none) (row : Option Nat) : w.grownBy w' row := ⟨h.os, h.tape, h.output, h.size, fun k hk _ => h.block k hk (by simp)⟩

/-- A line of a row that is one's own gets another amount. -/
theorem LnRow.setAmt {W : World} {n0 g cap : Nat} {l : List Ln} (h : LnRow W n0 (.slice (some ⟨g, 0, none⟩) l.length cap) l) (k : Nat) (hk : k < l.length) (a : Int) :
    LnRow (W.setCell ⟨g, k * 3 + 2, none⟩ (.int .i64 a)) n0 (.slice (some ⟨g, 0, none⟩) l.length cap) (l.set k ⟨(l.getD k ln0).acc, (l.getD k ln0).cur, a⟩) ∧ W.frozen? ⟨g, k * 3 + 2, none⟩ = false := by
  rcases h.2 with ⟨hv, _⟩ | ⟨g1, c1, cur, hv, hb, hg, hc, hm, hs, ht⟩
  · cases hv
  cases hv
  have e1 : lnRow (l.set k ⟨(l.getD k ln0).acc, (l.getD k ln0).cur, a⟩) = (lnRow l).set (k * 3 + 2) (.int .i64 a) := by
    apply List.ext_getElem?
    intro j
    obtain ⟨q, r, hr, rfl⟩ : ∃ q r, r < 3 ∧ j = q * 3 + r := ⟨j / 3, j % 3, Nat.mod_lt _ (by omega), by omega⟩
    by_cases hq : q < l.length
    · rw [lnRow_get _ q r (by simpa using hq) hr, List.getElem?_set]
      by_cases hqk : q = k
      · subst hqk
        rw [List.getD_eq_getElem?_getD, List.getElem?_set_self hq, Option.getD_some]
        by_cases hr2 : r = 2
        · subst hr2
          rw [if_pos rfl, if_pos (by rw [lnRow_length]; omega)]
          rfl
        · rw [if_neg (by omega), lnRow_get l q r hq hr]
          rcases (by omega : r = 0 ∨ r = 1) with rfl | rfl <;> rfl
      · rw [if_neg (by omega), lnRow_get l q r hq hr, List.getD_eq_getElem?_getD, List.getElem?_set_ne (fun e => hqk e.symm), ← List.getD_eq_getElem?_getD]
    · rw [List.getElem?_eq_none (by rw [lnRow_length, List.length_set]; omega), List.getElem?_eq_none (by rw [List.length_set, lnRow_length]; omega)]
  refine ⟨⟨by rw [lnRow_length, List.length_set], .inr ⟨g, cap, cur.setIfInBounds (k * 3 + 2) (.int .i64 a), by rw [List.length_set], hb, ?_, by rw [List.length_set]; exact hc, hm, by simpa using hs, ?_⟩⟩, by simp [World.frozen?, hg]⟩
  · rw [setCell_eq_setRow W g (k * 3 + 2) cur 46 (0, 0) _ hg]
    exact setRow_heap W g cur _ 46 (0, 0) hg
  · rw [e1, List.length_set, ← ht, Array.toList_setIfInBounds, List.take_set]

theorem grown_setCell (W : World) (g o : Nat) (v : Value) : W.grownBy (W.setCell ⟨g, o, none⟩ v) (some g) :=
  ⟨rfl, rfl, rfl, by simp, fun k hk hne => Below.heap_setCell _ _ _ k (fun e => hne (by rw [e]))⟩

/-- The sums of each currency. -/
def curSums (l : List Ln) : List Ln := grp (l.map bareL)
theorem within_bare {m : Int} {l : List Ln} (h : Within m l) : Within m (l.map bareL) := by
  intro z hz
  obtain ⟨y, hy, rfl⟩ := List.mem_map.1 hz
  exact h y hy

end Go.Proofs.YtdadhoangnkfeaaDoor
