/-
  The contract of chart.Under.
-/
import Derived.Test.YtffekgndlhleiaaDoorCh5
import Derived.Deep.RegionLaw
namespace Go.Proofs.YtffekgndlhleiaaDoor
set_option linter.unusedVariables false
set_option linter.unusedSimpArgs false
set_option maxRecDepth 100000
open Go.RowKit Go.Lib

/-- What chart.Under's function has done. -/
def UJ (w0 : World) (n0 B1 B2 : Nat) (a : Option Addr) (l : List Ac) (cap : Nat) (gc : Option Nat) (pre : List Nat) (W : World) : Prop :=
  ∃ v, Boxed W B1 74 v ∧ TxtRow W n0 v (pre.map fun i => (l.getD i ac0).code) ∧ v.ownBlock = gc ∧ W.cell? ⟨B2, 0, none⟩ = some (.slice a l.length cap) ∧ Below w0.heap.size w0 W

theorem cell_grown {W W' : World} {row : Option Nat} {b o : Nat} {v : Value} (h : W.cell? ⟨b, o, none⟩ = some v) (hg : W.grownBy W' row) (hr : row ≠ some b) : W'.cell? ⟨b, o, none⟩ = some v := by
  have hlt : b < W.heap.size := World.block_lt_of_cell? _ _ h
  exact (World.cell?_of_block (w := W) (a := ⟨b, o, none⟩) (hg.block b hlt (fun e => hr e.symm))).trans h

/-- Behind 'x = append(x, y)' in a box. -/
theorem box_end {W w1 : World} {n0 B1 : Nat} {T e : TypeId} (hte : T ≠ e) {v : Value} {g' cap' k : Nat} {xs ys : List Value} {o : Obj} (bx : Boxed W B1 T v) (hB : B1 < n0) (hn : n0 ≤ W.heap.size) (hrow : W.ownsRow n0 e 1 v k xs)
    (hown' : w1.ownsRow n0 e 1 (.slice (some ⟨g', 0, none⟩) (k + 1) cap') (k + 1) ys) (hgrow : (W.alloc o).drew.grownBy w1 v.ownBlock) (hat : v.ownBlock = some g' ∨ g' = W.heap.size + 1) :
    Boxed (w1.setCell ⟨B1, 0, none⟩ (.slice (some ⟨g', 0, none⟩) (k + 1) cap')) B1 T (.slice (some ⟨g', 0, none⟩) (k + 1) cap') ∧ (w1.setCell ⟨B1, 0, none⟩ (.slice (some ⟨g', 0, none⟩) (k + 1) cap')).ownsRow n0 e 1 (.slice (some ⟨g', 0, none⟩) (k + 1) cap') (k + 1) ys ∧
    (some g' = v.ownBlock ∨ ∃ h, some g' = some h ∧ W.heap.size ≤ h) ∧ W.heap.size ≤ (w1.setCell ⟨B1, 0, none⟩ (.slice (some ⟨g', 0, none⟩) (k + 1) cap')).heap.size ∧
    (∀ b, b < W.heap.size → b ≠ B1 → some b ≠ v.ownBlock → (w1.setCell ⟨B1, 0, none⟩ (.slice (some ⟨g', 0, none⟩) (k + 1) cap')).heap[b]? = W.heap[b]?) ∧
    ∀ m w0, m ≤ B1 → Below m w0 W → Below m w0 (w1.setCell ⟨B1, 0, none⟩ (.slice (some ⟨g', 0, none⟩) (k + 1) cap')) := by
  have hown : ∀ x, v.ownBlock = some x → n0 ≤ x := fun x hx => by
    rcases hrow.2 with ⟨rfl, _⟩ | ⟨g, cp, cur, rfl, hg, _⟩
    · cases hx
    · cases hx; exact hg
  have bx2 : Boxed (W.alloc o).drew B1 T v := bx.alloc o
  have hrow2 : (W.alloc o).drew.ownsRow n0 e 1 v k xs := World.ownsRow.drew (World.ownsRow.alloc hrow o)
  have bx3 : Boxed w1 B1 T v := bx2.kept hgrow (bx2.not_row hte hrow2)
  have hs0 : (W.alloc o).drew.heap.size = W.heap.size + 1 := by simp
  have hs1 := hgrow.size
  have hs2 := (grownBy_setCell' w1 B1 (.slice (some ⟨g', 0, none⟩) (k + 1) cap')).size
  refine ⟨bx3.set _, hown'.kept (grownBy_setCell' w1 B1 _) (.inr (bx3.not_row hte hown').symm), ?_, by omega, ?_, ?_⟩
  · rcases hat with h | h
    · exact .inl h.symm
    · exact .inr ⟨g', rfl, by omega⟩
  · intro b hb hne hr
    rw [Below.heap_setCell _ _ _ b (fun e => hne e), hgrow.block b (by omega) hr]
    exact heap_alloc_lt W o b hb
  · intro m w0 hm hbel
    refine hbel.trans ((((Below.refl m W).alloc (by omega) o).drew.grown hgrow (by omega) (fun j ej => ?_)).setCell (p := ⟨B1, 0, none⟩) hm _)
    have := hown j ej
    omega

end Go.Proofs.YtffekgndlhleiaaDoor
