/-
  The contracts of chart.Under, chart.Leaves and chart.Find.
-/
import Derived.Test.YtcpaaaidjmfibaaDoorCh6
namespace Go.Proofs.YtcpaaaidjmfibaaDoor
set_option linter.unusedVariables false
set_option linter.unusedSimpArgs false
set_option maxRecDepth 100000
open Go.RowKit Go.Lib

/-- The codes of those that are under one. -/
def undC (l : List Ac) (c : ByteArray) : List ByteArray := (und l c).map fun i => (l.getD i ac0).code

theorem placeBad_ok {l : List Ac} {c : ByteArray} (h : placeBad l c = 0) : chBad l = 0 ∧ 0 ≤ idxP (hasCode c) l := by
  unfold placeBad at h
  split at h
  · omega
  · split at h
    · omega
    · exact ⟨by omega, by omega⟩

theorem TxtRow.below {w w' : World} {n : Nat} {v : Value} {fs : List ByteArray} (h : TxtRow w n v fs) (hb : Below w.heap.size w w') : TxtRow w' n v fs := by
  rcases h.2 with ⟨hv, hn⟩ | ⟨g1, c1, cur, hv, hb1, hh, r⟩
  · exact ⟨h.1, .inl ⟨hv, hn⟩⟩
  · exact ⟨h.1, .inr ⟨g1, c1, cur, hv, hb1, (hb.block g1 (Array.getElem?_eq_some_iff.1 hh).1).trans hh, r⟩⟩

theorem row_mono {w : World} {n m : Nat} {v : Value} {fs : List ByteArray} (h : TxtRow w n v fs) (hm : m ≤ n) : TxtRow w m v fs := by
  rcases h.2 with ⟨hv, hn⟩ | ⟨g1, c1, cur, hv, hb1, r⟩
  · exact ⟨h.1, .inl ⟨hv, hn⟩⟩
  · exact ⟨h.1, .inr ⟨g1, c1, cur, hv, by omega, r⟩⟩

/-- An account whose parent is a code. -/
def hasPar (c : ByteArray) (a : Ac) : Bool := decide (a.par = c)
def leafB (l : List Ac) (a : Ac) : Bool := decide (idxP (hasPar a.code) l < 0)
/-- The codes of the leaves. -/
def lvs (l : List Ac) : List ByteArray := (l.filter (leafB l)).map Ac.code

theorem lvs_step (l : List Ac) (k : Nat) (h : k < l.length) : ((l.take (k + 1)).filter (leafB l)).map Ac.code = ((l.take k).filter (leafB l)).map Ac.code ++ (if leafB l (l.getD k ac0) = true then [(l.getD k ac0).code] else []) := by
  have e2 : l.take (k + 1) = l.take k ++ [l.getD k ac0] := by
    rw [List.take_succ_eq_append_getElem h, List.getD_eq_getElem?_getD, List.getElem?_eq_getElem h]; rfl
  rw [e2, List.filter_append, List.map_append]
  congr 1
  by_cases hh : leafB l (l.getD k ac0) = true
  · rw [if_pos hh, List.filter_cons_of_pos hh]; rfl
  · rw [if_neg hh, List.filter_cons_of_neg hh]; rfl

end Go.Proofs.YtcpaaaidjmfibaaDoor
