/-
  The contracts of rate.Cur, of strings.ContainsFunc at its closure, and of rate.isUpTo.
-/
import Derived.Test.YtkaoiljepabmeaaZe6
import Derived.Deep.RegionLaw
import Derived.Test.YtkaoiljepabmeaaProg
import Derived.WalkKit
import Derived.WalkSpells
import Derived.Lib.OthersKept
import Derived.Lib.TrimU
import Derived.Deep.LoopGhost
namespace Go.Proofs.Ytkaoiljepabmeaa
set_option linter.unusedVariables false
set_option linter.unusedSimpArgs false
set_option maxRecDepth 100000
open Go.RowKit Go.Lib

theorem cell_grown {W W' : World} {row : Option Nat} {b o : Nat} {v : Value} (h : W.cell? ⟨b, o, none⟩ = some v) (hg : W.grownBy W' row) (hr : row ≠ some b) : W'.cell? ⟨b, o, none⟩ = some v := by
  have hlt : b < W.heap.size := World.block_lt_of_cell? _ _ h
  exact (World.cell?_of_block (w := W) (a := ⟨b, o, none⟩) (hg.block b hlt (fun e => hr e.symm))).trans h

/-- Behind 'x = append(x, y)' in a box. -/
theorem box_end {W w1 : World} {n0 B1 : Nat} {T e : TypeId} (hte : T ≠ e) {v : Value} {g' cap' k : Nat} {xs ys : List Value} {o : Obj} (bx : Boxed W B1 T v) (hB : B1 < n0) (hn : n0 ≤ W.heap.size) (hrow : W.ownsRow n0 e 1 v k xs)
    (hown' : w1.ownsRow n0 e 1 (.slice (some ⟨g', 0, none⟩) (k + 1) cap') (k + 1) ys) (hgrow : (W.alloc o).drew.grownBy w1 v.ownBlock) (hat : v.ownBlock = some g' ∨ g' = W.heap.size + 1) :
    Boxed (w1.setCell ⟨B1, 0, none⟩ (.slice (some ⟨g', 0, none⟩) (k + 1) cap')) B1 T (.slice (some ⟨g', 0, none⟩) (k + 1) cap') ∧ (w1.setCell ⟨B1, 0, none⟩ (.slice (some ⟨g', 0, none⟩) (k + 1) cap')).ownsRow n0 e 1 (.slice (some ⟨g', 0, none⟩) (k + 1) cap') (k + 1) ys ∧
    (some g' = v.ownBlock ∨ ∃ h, some g' = some h ∧ W.heap.size ≤ h) ∧ W.heap.size ≤ (w1.setCell ⟨B1, 0, none⟩ (.slice (some ⟨g', 0, none⟩) (k + 1) cap')).heap.size ∧
    (∀ b, b < W.heap.size → b ≠ B1 → some b ≠ v.ownBlock → (w1.setCell ⟨B1, 0, none⟩ (.slice (some ⟨g', 0, none⟩) (k + 1) cap')).heap[b]? = W.heap[b]?) ∧
    ∀ m w0, m ≤ B1 → Below m w0 W → Below m w0 (w1.setCell ⟨B1, 0, none⟩ (.slice (some ⟨g', 0, none⟩) (k + 1) cap')) := by
  have hown : ∀ x, v.ownBlock = some x → n0 ≤ x := fun x hx => by
    rcases hrow.2 with ⟨rfl, _⟩ | ⟨g, cp, cur, rfl, hg, _⟩
    · cases hx
    · cases hx; exact hg
  have bx2 : Boxed (W.alloc o).drew B1 T v := bx.alloc o
  have hrow2 : (W.alloc o).drew.ownsRow n0 e 1 v k xs := World.ownsRow.drew (World.ownsRow.alloc hrow o)
  have bx3 : Boxed w1 B1 T v := bx2.kept hgrow (bx2.not_row hte hrow2)
  have hs0 : (W.alloc o).drew.heap.size = W.heap.size + 1 := by simp
  have hs1 := hgrow.size
  have hs2 := (grownBy_setCell' w1 B1 (.slice (some ⟨g', 0, none⟩) (k + 1) cap')).size
  refine ⟨bx3.set _, hown'.kept (grownBy_setCell' w1 B1 _) (.inr (bx3.not_row hte hown').symm), ?_, by omega, ?_, ?_⟩
  · rcases hat with h | h
    · exact .inl h.symm
    · exact .inr ⟨g', rfl, by omega⟩
  · intro b hb hne hr
    rw [Below.heap_setCell _ _ _ b (fun e => hne e), hgrow.block b (by omega) hr]
    exact heap_alloc_lt W o b hb
  · intro m w0 hm hbel
    refine hbel.trans ((((Below.refl m W).alloc (by omega) o).drew.grown hgrow (by omega) (fun j ej => ?_)).setCell (p := ⟨B1, 0, none⟩) hm _)
    have := hown j ej
    omega

end Go.Proofs.Ytkaoiljepabmeaa

namespace Go.Proofs.Ytkaoiljepabmeaa
set_option linter.unusedVariables false
set_option linter.unusedSimpArgs false
set_option maxRecDepth 100000
open Go.RowKit Go.Lib

/-- The codes of those that are under one. -/
def undC (l : List Ac) (c : ByteArray) : List ByteArray := (und l c).map fun i => (l.getD i ac0).code

theorem placeBad_ok {l : List Ac} {c : ByteArray} (h : placeBad l c = 0) : chBad l = 0 ∧ 0 ≤ idxP (hasCode c) l := by
  unfold placeBad at h
  split at h
  · omega
  · split at h
    · omega
    · exact ⟨by omega, by omega⟩

theorem TxtRow.below {w w' : World} {n : Nat} {v : Value} {fs : List ByteArray} (h : TxtRow w n v fs) (hb : Below w.heap.size w w') : TxtRow w' n v fs := by
  rcases h.2 with ⟨hv, hn⟩ | ⟨g1, c1, cur, hv, hb1, hh, r⟩
  · exact ⟨h.1, .inl ⟨hv, hn⟩⟩
  · exact ⟨h.1, .inr ⟨g1, c1, cur, hv, hb1, (hb.block g1 (Array.getElem?_eq_some_iff.1 hh).1).trans hh, r⟩⟩

theorem row_mono {w : World} {n m : Nat} {v : Value} {fs : List ByteArray} (h : TxtRow w n v fs) (hm : m ≤ n) : TxtRow w m v fs := by
  rcases h.2 with ⟨hv, hn⟩ | ⟨g1, c1, cur, hv, hb1, r⟩
  · exact ⟨h.1, .inl ⟨hv, hn⟩⟩
  · exact ⟨h.1, .inr ⟨g1, c1, cur, hv, by omega, r⟩⟩

/-- An account whose parent is a code. -/
def hasPar (c : ByteArray) (a : Ac) : Bool := decide (a.par = c)
def leafB (l : List Ac) (a : Ac) : Bool := decide (idxP (hasPar a.code) l < 0)
/-- The codes of the leaves. -/
def lvs (l : List Ac) : List ByteArray := (l.filter (leafB l)).map Ac.code

theorem lvs_step (l : List Ac) (k : Nat) (h : k < l.length) : ((l.take (k + 1)).filter (leafB l)).map Ac.code = ((l.take k).filter (leafB l)).map Ac.code ++ (if leafB l (l.getD k ac0) = true then [(l.getD k ac0).code] else []) := by
  have e2 : l.take (k + 1) = l.take k ++ [l.getD k ac0] := by
    rw [List.take_succ_eq_append_getElem h, List.getD_eq_getElem?_getD, List.getElem?_eq_getElem h]; rfl
  rw [e2, List.filter_append, List.map_append]
  congr 1
  by_cases hh : leafB l (l.getD k ac0) = true
  · rw [if_pos hh, List.filter_cons_of_pos hh]; rfl
  · rw [if_neg hh, List.filter_cons_of_neg hh]; rfl

end Go.Proofs.Ytkaoiljepabmeaa

namespace Go.Proofs.Ytkaoiljepabmeaa
set_option linter.unusedVariables false
open Go.RowKit Go.Lib

/-- A sign that is no letter A to Z. -/
def other (r : Nat) : Bool := decide (r < 65) || decide (90 < r)

/-- Is there such a sign, from a place on, among at most so many? -/
def otherFrom (s : ByteArray) : Nat → Nat → Int
  | 0, _ => -1
  | f + 1, pos => if pos < s.size then (if other (Utf8.decode s pos).1 = true then (pos : Int) else otherFrom s f (pos + (Utf8.decode s pos).2)) else -1

theorem otherFrom_end (s : ByteArray) (f pos : Nat) (h : ¬ pos < s.size) : otherFrom s f pos = -1 := by cases f <;> simp [otherFrom, h]

theorem otherFrom_ge (s : ByteArray) : ∀ (f pos : Nat), -1 ≤ otherFrom s f pos
  | 0, _ => by simp [otherFrom]
  | f + 1, pos => by
    unfold otherFrom
    split
    · split
      · omega
      · exact otherFrom_ge s f _
    · omega

/-- Is a text a currency? -/
def isCur (s : ByteArray) : Bool := s.size == 3 && decide (otherFrom s s.size 0 < 0)

/-- Is a number from 1 to another one? -/
def upTo (n m : Int) : Bool := decide (1 ≤ n) && decide (n ≤ m)

end Go.Proofs.Ytkaoiljepabmeaa
