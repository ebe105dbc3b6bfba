/-
  The contract of a store's Commit, where the disk does not fail.
-/
import Derived.Test.YtidccclfngcpgaaSt13
namespace Go.Proofs.Ytidccclfngcpgaa
set_option linter.unusedVariables false
set_option linter.unusedSimpArgs false
set_option maxRecDepth 100000
open Go.RowKit Go.Lib
section
variable {w W : World} {p nb sb : Nat} {cv : Value} {n : Nat} {D : Dk} {s mb : Nat} {h : Hd} {P : List (Nat × List UInt8)} {lost : Bool}
/-- The head that Commit writes. -/
def nxH (h : Hd) (P : List (Nat × List UInt8)) : Hd := ⟨1 - h.blk, h.turn + 1, h.ver + 1, wpW h P h.whr 40⟩
/-- The disk that Commit leaves. -/
def nxD (D : Dk) (h : Hd) (P : List (Nat × List UInt8)) : Dk := (hwR (wpD h P D.flush 40) (nxH h P)).2
theorem neg_flR {D : Dk} (hf : D.fail < 0) : flR D = (0, D.flush) := by unfold flR; rw [if_neg (by rw [failing_neg hf]; decide)]
theorem neg_wrR {D : Dk} (hf : D.fail < 0) (i : Nat) (l : List UInt8) : wrR D i l = (0, D.write i l) := by unfold wrR; rw [if_neg (by rw [failing_neg hf]; decide)]
theorem neg_hwR {D : Dk} (hf : D.fail < 0) (h : Hd) : hwR D h = (0, (D.flush.write h.blk (hdB h)).flush) := by
  unfold hwR
  simp only
  rw [neg_flR hf, if_pos rfl, neg_wrR (by exact hf), if_pos rfl, neg_flR (by exact hf)]
/-- A head's first cells are set. -/
theorem NxAt.set3 {nx : Nat} {y : Hd} (a : NxAt w W nx y) (b : Nat) (hb : b ≤ 1) (t : UInt8) (v : Nat) (hv : v ≤ 1000000) : NxAt w (((W.setCell ⟨nx, 0, none⟩ (.int .i64 (b : Int))).setCell ⟨nx, 1, none⟩ (.int .u8 (t.toNat : Int))).setCell ⟨nx, 2, none⟩ (.int .i64 (v : Int))) nx ⟨b, t, v, y.whr⟩ := by
  have h1 : (W.setCell ⟨nx, 0, none⟩ (.int .i64 (b : Int))).heap[nx]? = some (.cells (Hd.mk b y.turn y.ver y.whr).cells.toArray 50 (0, 0)) := by
    rw [setCell_eq_setRow W nx _ _ _ (0, 0) _ a.1, setRow_heap W nx _ _ _ (0, 0) a.1]
    simp [Hd.cells]
  have h2 : ((W.setCell ⟨nx, 0, none⟩ (.int .i64 (b : Int))).setCell ⟨nx, 1, none⟩ (.int .u8 (t.toNat : Int))).heap[nx]? = some (.cells (Hd.mk b t y.ver y.whr).cells.toArray 50 (0, 0)) := by
    rw [setCell_eq_setRow _ nx _ _ _ (0, 0) _ h1, setRow_heap _ nx _ _ _ (0, 0) h1]
    simp [Hd.cells]
  refine ⟨?_, a.2.1, ⟨hb, hv, a.2.2.w⟩⟩
  rw [setCell_eq_setRow _ nx _ _ _ (0, 0) _ h2, setRow_heap _ nx _ _ _ (0, 0) h2]
  simp [Hd.cells]
theorem StAt.setBox (a : StAt w W p nb sb cv n D s mb h P lost) (h' : Hd) (k' : h'.ok) : (Instr.storeAt 50 (.pointer (some ⟨s, 1, none⟩)) (.agg h'.cells.toArray)).run Try.prog W = .ok () (W.setRow s (stCells p h' mb lost).toArray) ∧ StAt w (W.setRow s (stCells p h' mb lost).toArray) p nb sb cv n D s mb h' P lost ∧ KeepC w.heap.size stT W (W.setRow s (stCells p h' mb lost).toArray) := by
  have hk : KeepC w.heap.size stT W (W.setRow s (stCells p h' mb lost).toArray) := (KeepC.refl _ _ W).setRow a.box (by decide) a.ls _
  have d := a.tn.1
  have ne : ∀ (j : Nat) (cs : Array Value) (t : TypeId), W.heap[j]? = some (.cells cs t (0, 0)) → t ≠ 55 → j ≠ s := fun j cs t e ht e2 => by
    rw [e2, a.box] at e
    cases e
    exact ht rfl
  have oth : ∀ j, j ≠ s → (W.setRow s (stCells p h' mb lost).toArray).heap[j]? = W.heap[j]? := fun j hj => setRow_other _ _ _ _ hj
  obtain ⟨es, c, h1, h2⟩ := a.mp
  refine ⟨?_, ⟨⟨⟨(oth p (ne p _ _ d.box (by decide))).trans d.box, (oth nb (ne nb _ _ d.now (by decide))).trans d.now, (oth sb (ne sb _ _ d.safe (by decide))).trans d.safe, d.ne, d.lp, d.ln, d.ls, ownsRow_keep d.chg (fun b' cs e _ => oth b' (ne b' _ _ e (by decide))), d.ok⟩, a.tn.2.trans (hk.below a.tn.2.size)⟩, setRow_heap W s _ _ _ (0, 0) a.box, a.ls, a.lm, ⟨es, c, (oth mb (fun e => a.ne e.symm)).trans h1, h2.keep hk⟩, k'⟩, hk⟩
  have := store_head (u := W) (o := 1) k' a.box (by rw [stCells_length a.ok]; omega)
  rw [this]
  congr 3
  unfold stCells
  rw [List.take_succ_cons, List.take_zero, List.drop_succ_cons, List.drop_append_of_le_length (by rw [Hd.cells_length a.ok]; exact Nat.le_refl _), List.drop_eq_nil_of_le (by rw [Hd.cells_length a.ok]; exact Nat.le_refl _)]
  simp
end
end Go.Proofs.Ytidccclfngcpgaa
