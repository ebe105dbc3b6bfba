/-
  The contract of block.marked: which numbers below one are in a list.
-/
import Derived.Test.YtcoobcfdilnkhaaBk2
namespace Go.Proofs.Ytcoobcfdilnkhaa
set_option linter.unusedVariables false
set_option linter.unusedSimpArgs false
set_option maxRecDepth 100000
open Go.RowKit Go.Lib

/-- A slice of numbers. -/
structure IsIn (w : World) (a : Option Addr) (l : List Int) (cap : Nat) : Prop where
  cap : l.length ≤ cap
  lies : l = [] ∨ ∃ b off, a = some ⟨b, off, none⟩ ∧ b < w.heap.size ∧ ∀ k, k < l.length → w.cell? ⟨b, off + k, none⟩ = some (.int .i64 (l.getD k 0))
theorem IsIn.below {w w' : World} {a : Option Addr} {l : List Int} {cap : Nat} (h : IsIn w a l cap) (hb : Below w.heap.size w w') : IsIn w' a l cap := by
  refine ⟨h.cap, ?_⟩
  rcases h.lies with h | ⟨b, off, e, hlt, hc⟩
  · exact .inl h
  · exact .inr ⟨b, off, e, by have := hb.size; omega, fun k hk => (hb.cell (p := ⟨b, off + k, none⟩) hlt).trans (hc k hk)⟩

def markL (l : List Int) (n : Nat) : List Bool := (List.range n).map fun (i : Nat) => decide ((i : Int) ∈ l)
theorem markL_length (l : List Int) (n : Nat) : (markL l n).length = n := by simp [markL]
theorem markL_get (l : List Int) (n i : Nat) (h : i < n) : (markL l n).getD i false = decide ((i : Int) ∈ l) := by simp [markL, List.getD, h]
theorem markL_in (l : List Int) (n : Nat) (x : Int) (h0 : 0 ≤ x) (h1 : x < n) : (markL l n).set x.toNat true = markL (l ++ [x]) n := by
  apply List.ext_getElem
  · simp [markL]
  · intro i h2 h3
    simp only [markL, List.getElem_set, List.getElem_map, List.getElem_range, List.mem_append, List.mem_singleton]
    by_cases e : x.toNat = i
    · rw [if_pos e]
      have : (i : Int) = x := by omega
      simp [this]
    · rw [if_neg e]
      have : ¬ (i : Int) = x := by omega
      simp [this]
theorem markL_out (l : List Int) (n : Nat) (x : Int) (h : ¬ (0 ≤ x ∧ x < n)) : markL (l ++ [x]) n = markL l n := by
  apply List.ext_getElem
  · simp [markL]
  · intro i h2 h3
    have hi : i < n := by simpa [markL] using h3
    simp only [markL, List.getElem_map, List.getElem_range, List.mem_append, List.mem_singleton]
    have : ¬ (i : Int) = x := by omega
    simp [this]

def BoRow (w : World) (g : Nat) (bs : List Bool) : Prop := w.heap[g]? = some (.cells (bs.map Value.bool).toArray 4 (0, 0))
theorem BoRow.cell {w : World} {g : Nat} {r : List Bool} (h : BoRow w g r) {i : Nat} (hi : i < r.length) : w.cell? ⟨g, i, none⟩ = some (.bool (r.getD i false)) := by
  unfold BoRow at h
  simp [World.cell?, h, hi]
theorem BoRow.frozen {w : World} {g : Nat} {r : List Bool} (h : BoRow w g r) (i : Nat) : w.frozen? ⟨g, i, none⟩ = false := by
  unfold BoRow at h
  simp [World.frozen?, h]
theorem BoRow.set {w : World} {g : Nat} {r : List Bool} (h : BoRow w g r) (i : Nat) (x : Bool) : BoRow (w.setCell ⟨g, i, none⟩ (.bool x)) g (r.set i x) := by
  unfold BoRow at *
  rw [setCell_eq_setRow w g i _ 4 (0, 0) _ h, setRow_heap w g _ _ 4 (0, 0) h]
  simp [List.map_set]
theorem BoRow.lt {w : World} {g : Nat} {r : List Bool} (h : BoRow w g r) : g < w.heap.size := (Array.getElem?_eq_some_iff.1 h).1
theorem bool_info : (Try.prog.info? 4).map (fun i => (i.zero, i.size, i.bytes)) = some (some (.bool false), 1, 1) := by kernel_rfl
theorem BoRow.made (w : World) (n : Nat) : BoRow (w.alloc (.cells (madeCells #[.bool false] n) 4)) w.heap.size (markL [] n) := by
  unfold BoRow
  rw [new_heap]
  congr 2
  apply Array.ext
  · simp [madeCells, markL]
  · intro i h1 h2
    simp [madeCells, Nat.mod_one, markL]

theorem ints_take (l : List Int) (k : Nat) (h : k < l.length) : l.take (k + 1) = l.take k ++ [l.getD k 0] := by
  rw [List.take_add_one, List.getElem?_eq_getElem h, List.getD_eq_getElem?_getD, List.getElem?_eq_getElem h]
  rfl

end Go.Proofs.Ytcoobcfdilnkhaa
