/-
  The contracts of entry.Sums, entry.Net, entry.Reverse.
-/
import Derived.Test.YtpohlhejeaafdaaGreatDoorZj3
namespace Go.Proofs.YtpohlhejeaafdaaGreatDoor
set_option linter.unusedVariables false
set_option linter.unusedSimpArgs false
set_option maxRecDepth 100000
open Go.RowKit Go.Lib

/-- An entry in a box. -/
def Box4 (W : World) (b : Nat) (r : ByteArray) (en pe : Int) (v : Value) : Prop := W.heap[b]? = some (.cells #[.string r, .int .i64 en, .int .i64 pe, v] 29 (0, 0))
theorem Box4.c0 {W : World} {b : Nat} {r : ByteArray} {en pe : Int} {v : Value} (h : Box4 W b r en pe v) : W.cell? ⟨b, 0, none⟩ = some (.string r) := by unfold Box4 at h; simp [World.cell?, h]
theorem Box4.c1 {W : World} {b : Nat} {r : ByteArray} {en pe : Int} {v : Value} (h : Box4 W b r en pe v) : W.cell? ⟨b, 1, none⟩ = some (.int .i64 en) := by unfold Box4 at h; simp [World.cell?, h]
theorem Box4.c2 {W : World} {b : Nat} {r : ByteArray} {en pe : Int} {v : Value} (h : Box4 W b r en pe v) : W.cell? ⟨b, 2, none⟩ = some (.int .i64 pe) := by unfold Box4 at h; simp [World.cell?, h]
theorem Box4.c3 {W : World} {b : Nat} {r : ByteArray} {en pe : Int} {v : Value} (h : Box4 W b r en pe v) : W.cell? ⟨b, 3, none⟩ = some v := by unfold Box4 at h; simp [World.cell?, h]
theorem Box4.fz {W : World} {b : Nat} {r : ByteArray} {en pe : Int} {v : Value} (h : Box4 W b r en pe v) (o : Nat) : W.frozen? ⟨b, o, none⟩ = false := by unfold Box4 at h; simp [World.frozen?, h]
theorem Box4.below {W W' : World} {b n : Nat} {r : ByteArray} {en pe : Int} {v : Value} (h : Box4 W b r en pe v) (hb : Below n W W') (hn : b < n) : Box4 W' b r en pe v := (hb.block b hn).trans h
theorem Box4.new (W : World) (r : ByteArray) (en pe : Int) (v : Value) : Box4 (W.alloc (.cells #[.string r, .int .i64 en, .int .i64 pe, v] 29)) W.heap.size r en pe v := World.alloc_heap_new W _
theorem Box4.alloc {W : World} {b : Nat} {r : ByteArray} {en pe : Int} {v : Value} (h : Box4 W b r en pe v) (o : Obj) : Box4 (W.alloc o) b r en pe v := ((World.grownBy_alloc W o none).block b (Array.getElem?_eq_some_iff.1 h).1 (by simp)).trans h
theorem Box4.set0 {W : World} {b : Nat} {r : ByteArray} {en pe : Int} {v : Value} (h : Box4 W b r en pe v) (r' : ByteArray) : Box4 (W.setCell ⟨b, 0, none⟩ (.string r')) b r' en pe v := by
  unfold Box4 at *
  rw [setCell_eq_setRow W b 0 _ 29 (0, 0) _ h, setRow_heap W b _ _ 29 (0, 0) h]
  rfl
theorem Box4.other {W : World} {b b' o : Nat} {r : ByteArray} {en pe : Int} {v u : Value} (h : Box4 W b r en pe v) (hne : b ≠ b') : Box4 (W.setCell ⟨b', o, none⟩ u) b r en pe v :=
  (Below.heap_setCell _ _ _ b (fun e => hne e)).trans h
theorem LnRow.setOther {W : World} {n b o : Nat} {v u : Value} {l : List Ln} (h : LnRow W n v l) (hb : b < n) : LnRow (W.setCell ⟨b, o, none⟩ u) n v l := by
  rcases h.2 with ⟨hv, hn⟩ | ⟨g1, c1, cur, hv, hb1, hh, r⟩
  · exact ⟨h.1, .inl ⟨hv, hn⟩⟩
  · exact ⟨h.1, .inr ⟨g1, c1, cur, hv, hb1, (Below.heap_setCell _ _ _ g1 (fun e => by simp only at e; omega)).trans hh, r⟩⟩


/-- A line of nothing. -/
def nullL (x : Ln) : Bool := decide (x.amt = 0)

/-- What is wrong with turning an entry round. -/
def revBad (ref : ByteArray) (l : List Ln) : Int := if isRefB ref = false then 2 else fewBad l
end Go.Proofs.YtpohlhejeaafdaaGreatDoor
