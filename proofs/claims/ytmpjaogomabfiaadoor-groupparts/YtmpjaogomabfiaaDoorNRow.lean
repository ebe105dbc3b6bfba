/-
  Rows of numbers in memory; slices of numbers that are read.
-/
import Derived.Test.YtmpjaogomabfiaaDoorProg
import Derived.WalkKit
import Derived.WalkSpells
import Derived.Lib.OthersKept
import Derived.Laws.NewBlocks
import Derived.Below
namespace Go.Proofs.YtmpjaogomabfiaaDoor
set_option linter.unusedVariables false
set_option linter.unusedSimpArgs false
set_option maxRecDepth 100000
open Go.RowKit Go.Lib

/-- A row of numbers. -/
def NRow (w : World) (g : Nat) (r : List Int) : Prop := w.heap[g]? = some (.cells (r.map (Value.int .i64)).toArray 3 (0, 0))
theorem NRow.cell {w : World} {g : Nat} {r : List Int} (h : NRow w g r) {i : Nat} (hi : i < r.length) : w.cell? ⟨g, i, none⟩ = some (.int .i64 (r.getD i 0)) := by
  unfold NRow at h
  simp [World.cell?, h, hi]
theorem NRow.frozen {w : World} {g : Nat} {r : List Int} (h : NRow w g r) (i : Nat) : w.frozen? ⟨g, i, none⟩ = false := by
  unfold NRow at h
  simp [World.frozen?, h]
theorem NRow.set {w : World} {g : Nat} {r : List Int} (h : NRow w g r) (i : Nat) (x : Int) : NRow (w.setCell ⟨g, i, none⟩ (.int .i64 x)) g (r.set i x) := by
  unfold NRow at *
  rw [setCell_eq_setRow w g i _ 3 (0, 0) _ h, setRow_heap w g _ _ 3 (0, 0) h]
  simp [List.map_set]
/-- All but one block is as it was. -/
structure But (g : Nat) (V W : World) : Prop where
  os : W.os = V.os
  tape : W.tape = V.tape
  output : W.output = V.output
  size : V.heap.size = W.heap.size
  block : ∀ b, b ≠ g → W.heap[b]? = V.heap[b]?
theorem But.refl (g : Nat) (V : World) : But g V V := ⟨rfl, rfl, rfl, rfl, fun _ _ => rfl⟩
theorem But.trans {g : Nat} {A B C : World} (h : But g A B) (k : But g B C) : But g A C := ⟨k.os.trans h.os, k.tape.trans h.tape, k.output.trans h.output, h.size.trans k.size, fun b hb => (k.block b hb).trans (h.block b hb)⟩
theorem But.drew {g : Nat} {A B : World} (h : But g A B) : But g A B.drew := h.trans ⟨rfl, rfl, rfl, rfl, fun _ _ => rfl⟩
theorem But.set {g : Nat} {A B : World} (h : But g A B) (o : Nat) (v : Value) : But g A (B.setCell ⟨g, o, none⟩ v) :=
  h.trans ⟨rfl, rfl, rfl, by simp [World.setCell], fun b hb => Below.heap_setCell _ _ _ _ hb⟩

theorem nrow_made (w : World) (n : Nat) : NRow (w.alloc (.cells (madeCells #[.int .i64 0] n) 3)) w.heap.size (List.replicate n 0) := by
  unfold NRow
  rw [show (w.alloc (.cells (madeCells #[.int .i64 0] n) 3)).heap[w.heap.size]? = some (.cells (madeCells #[.int .i64 0] n) 3 (0, 0)) by unfold World.alloc; simp only [Array.getElem?_push_size]]
  congr 2
  apply Array.ext
  · simp [madeCells]
  · intro i h1 h2
    simp [madeCells, Nat.mod_one]
theorem NRow.ltS {w : World} {g : Nat} {r : List Int} (h : NRow w g r) : g < w.heap.size := (Array.getElem?_eq_some_iff.1 h).1
theorem NRow.belowS {w w' : World} {g n : Nat} {r : List Int} (h : NRow w g r) (hb : Below n w w') (hg : g < n) : NRow w' g r := (hb.block g hg).trans h
theorem NRow.other {w : World} {g g' : Nat} {r : List Int} (h : NRow w g r) (hn : g ≠ g') (i : Nat) (v : Value) : NRow (w.setCell ⟨g', i, none⟩ v) g r := (Below.heap_setCell _ _ _ _ hn).trans h
/-- A slice of numbers that is read. -/
structure IsW (w : World) (a : Option Addr) (l : List Int) (cap : Nat) : Prop where
  cap : l.length ≤ cap
  lies : l = [] ∨ ∃ b off, a = some ⟨b, off, none⟩ ∧ b < w.heap.size ∧ ∀ k, k < l.length → w.cell? ⟨b, off + k, none⟩ = some (.int .i64 (l.getD k 0))
theorem IsW.below {w w' : World} {a : Option Addr} {l : List Int} {cap : Nat} (h : IsW w a l cap) (hb : Below w.heap.size w w') : IsW w' a l cap := by
  refine ⟨h.cap, ?_⟩
  rcases h.lies with h | ⟨b, off, e, hlt, hc⟩
  · exact .inl h
  · exact .inr ⟨b, off, e, by have := hb.size; omega, fun k hk => (hb.cell (p := ⟨b, off + k, none⟩) hlt).trans (hc k hk)⟩
theorem IsW.at {w : World} {a : Option Addr} {l : List Int} {cap : Nat} (h : IsW w a l cap) {k : Nat} (hk : k < l.length) : ∃ b off, a = some ⟨b, off, none⟩ ∧ b < w.heap.size ∧ w.cell? ⟨b, off + k, none⟩ = some (.int .i64 (l.getD k 0)) := by
  rcases h.lies with h | ⟨b, off, e, hlt, hc⟩
  · subst h; simp at hk
  · exact ⟨b, off, e, hlt, hc k hk⟩
theorem NRow.isW {w : World} {g : Nat} {r : List Int} (h : NRow w g r) (cap : Nat) (hc : r.length ≤ cap) : IsW w (some ⟨g, 0, none⟩) r cap :=
  ⟨hc, .inr ⟨g, 0, rfl, h.ltS, fun k hk => by rw [Nat.zero_add]; exact h.cell hk⟩⟩
end Go.Proofs.YtmpjaogomabfiaaDoor
