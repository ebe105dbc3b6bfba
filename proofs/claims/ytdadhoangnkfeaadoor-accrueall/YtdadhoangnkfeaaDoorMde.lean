/-
  Entries that a call has made.
-/
import Derived.Test.YtdadhoangnkfeaaDoorJn1
import Derived.Laws.NewBlocks
namespace Go.Proofs.YtdadhoangnkfeaaDoor
set_option linter.unusedVariables false
set_option linter.unusedSimpArgs false
set_option maxRecDepth 100000
open Go.RowKit Go.Lib

/-- An entry, wherever it lies. -/
structure Ep where
  ref : ByteArray
  ent : Int
  per : Int
  lns : List Ln
def Je.ep (x : Je) : Ep := ⟨x.ref, x.ent, x.per, x.lns⟩
/-- Entries that a call has made, with their lines. -/
structure Made (W : World) (n0 : Nat) (v : Value) (L : List Je) : Prop where
  row : JeRow W n0 v L
  lns : ∀ x ∈ L, LnRow W n0 (.slice x.adr x.lns.length x.cap) x.lns
theorem Made.nil (W : World) (n0 : Nat) : Made W n0 (.slice none 0 0) [] := ⟨JeRow.nil W n0, by simp⟩
theorem Made.below {W W' : World} {n0 : Nat} {v : Value} {L : List Je} (h : Made W n0 v L) (hb : Below W.heap.size W W') : Made W' n0 v L := ⟨h.row.below hb, fun x hx => (h.lns x hx).below hb⟩
theorem Made.isJs {W : World} {n0 : Nat} {v : Value} {L : List Je} (h : Made W n0 v L) : ∃ a cap, v = .slice a L.length cap ∧ IsJs W a L cap := by
  obtain ⟨a, cap, e, h1, h2⟩ := h.row.lies
  refine ⟨a, cap, e, h1, h2, fun x hx => ?_⟩
  obtain ⟨a', c', e', h'⟩ := (h.lns x hx).isLn
  cases e'
  exact h'
theorem made_typ {w : World} {n : Nat} {v : Value} {xs : List Je} (h : JeRow w n v xs) : ∀ j, v.ownBlock = some j → ∃ cs, w.heap[j]? = some (.cells cs 42 (0, 0)) := fun j ej => by
  rcases h.2 with ⟨rfl, _⟩ | ⟨g, cp, cur, rfl, hg, hh, _⟩
  · cases ej
  · cases ej; exact ⟨cur, hh⟩
theorem Made.add {W W1 : World} {n0 : Nat} {v v' : Value} {L : List Je} {x : Je} (h : Made W n0 v L) (hx : LnRow W n0 (.slice x.adr x.lns.length x.cap) x.lns) (ho : W1.ownsRow n0 42 4 v' (L.length + 1) (jeRow L ++ x.cells.toList)) (hg : W.grownBy W1 v.ownBlock) : Made W1 n0 v' (L ++ [x]) := by
  have keep : ∀ y : Je, LnRow W n0 (.slice y.adr y.lns.length y.cap) y.lns → LnRow W1 n0 (.slice y.adr y.lns.length y.cap) y.lns := fun y hy => by
    rcases hy.2 with ⟨hv, hn⟩ | ⟨g1, c1, cur, hv, hb1, hh, r⟩
    · exact ⟨hy.1, .inl ⟨hv, hn⟩⟩
    · refine ⟨hy.1, .inr ⟨g1, c1, cur, hv, hb1, (hg.block g1 (Array.getElem?_eq_some_iff.1 hh).1 fun e => ?_).trans hh, r⟩⟩
      obtain ⟨cs, h2⟩ := made_typ h.row g1 e.symm
      rw [hh] at h2
      cases h2
  refine ⟨?_, fun y hy => ?_⟩
  · unfold JeRow
    rw [jeRow_append, jeRow_one, List.length_append]
    exact ho
  · rcases List.mem_append.1 hy with hy | hy
    · exact keep y (h.lns y hy)
    · rw [List.mem_singleton] at hy
      subst hy
      exact keep _ hx

end Go.Proofs.YtdadhoangnkfeaaDoor
