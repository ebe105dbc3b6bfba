/-
  The walk of daylaw5.StoreApart.
-/
import Derived.Test.YtcoobcfdilnkhaaSt16
import Derived.Below
namespace Go.Proofs.Ytcoobcfdilnkhaa
set_option linter.unusedVariables false
set_option linter.unusedSimpArgs false
set_option maxRecDepth 100000
open Go.RowKit Go.Lib
/-- A page that has one byte, or none. -/
def pgF (la : List UInt8) (k : Nat) : List UInt8 := if la.getD k 0 = 0 then [] else [la.getD k 0]
structure Sa (w wr : World) (p nb sb s mb lb : Nat) (cv : Value) (D : Dk) (h : Hd) (la : List UInt8) (i : Nat) : Prop where
  st : StAt w wr p nb sb cv 90 D s mb h [] false
  fl : D.fail < 0
  lm : D.lim (3 + 50 * i)
  vr : h.ver ≤ i
  pg : Pages D 90 h (pgF la)
  ro : wr.heap[lb]? = some (.cells (byC la).toArray 33 (0, 0))
  ln : la.length = 40
  lo : w.heap.size ≤ lb
section
variable {w wr : World} {p nb sb s mb lb : Nat} {cv : Value} {D : Dk} {h : Hd} {la : List UInt8} {i : Nat}
theorem Sa.below (a : Sa w wr p nb sb s mb lb cv D h la i) {U : World} (hb : Below wr.heap.size wr U) : Sa w U p nb sb s mb lb cv D h la i :=
  ⟨a.st.below hb, a.fl, a.lm, a.vr, a.pg, (hb.block _ (Array.getElem?_eq_some_iff.1 a.ro).1).trans a.ro, a.ln, a.lo⟩
theorem Sa.mono (a : Sa w wr p nb sb s mb lb cv D h la i) {j : Nat} (hj : i ≤ j) : Sa w wr p nb sb s mb lb cv D h la j :=
  ⟨a.st, a.fl, a.lm.mono (by omega), Nat.le_trans a.vr hj, a.pg, a.ro, a.ln, a.lo⟩
theorem Sa.cell (a : Sa w wr p nb sb s mb lb cv D h la i) (k : Nat) (hk : k < 40) : wr.cell? ⟨lb, k, none⟩ = some (.int .u8 ((la.getD k 0).toNat : Int)) := by
  rw [cell_of_row wr lb _ _ _ (0, 0) a.ro, List.getElem?_toArray, byC_get _ _ (by rw [a.ln]; exact hk)]
  simp [List.getD_eq_getElem?_getD, List.getElem?_eq_getElem (show k < la.length by rw [a.ln]; exact hk)]
end
theorem arr_zero : (Try.prog.info? 33).map (·.zero) = some (some (.agg (byC (List.replicate 40 0)).toArray)) := by kernel_rfl
theorem alloc_arr (w : World) : (Instr.alloc 33 true (.tuple #[])).run Try.prog w = .ok (.pointer (some ⟨w.heap.size, 0, none⟩)) (w.alloc (.cells (byC (List.replicate 40 0)).toArray 33)) := by
  cases hq : Try.prog.info? 33 with
  | none => have := arr_zero; simp [hq] at this
  | some q =>
    have hz : q.zero = some (.agg (byC (List.replicate 40 0)).toArray) := by have := arr_zero; simpa [hq] using this
    simp [Instr.alloc, zeroValue, typeInfo, hq, hz, newVar, newRow, Value.cells]
theorem pgF_next (la : List UInt8) (hl : la.length = 40) (k : Nat) (hk : k < 40) (x : UInt8) (hx : x ≠ 0) : ∀ j, j < 40 → (look [(k, [x])] j).getD (pgF la j) = pgF (la.set k x) j := by
  intro j hj
  unfold pgF look
  by_cases e : k = j
  · subst e
    rw [if_pos rfl, getD_set_eq _ _ _ _ (by omega), if_neg hx]
    rfl
  · rw [if_neg e, getD_set_ne _ _ _ _ _ e]
    rfl
theorem Pages.congr {D : Dk} {n : Nat} {h : Hd} {f g : Nat → List UInt8} (a : Pages D n h f) (e : ∀ j, j < 40 → f j = g j) : Pages D n h g := ⟨a.1, fun k hk => by rw [← e k hk]; exact a.2 k hk⟩
theorem look_one (k : Nat) (x : UInt8) : ∀ j l, look [(k, [x])] j = some l → l.length ≤ 60 := by
  intro j l e
  unfold look at e
  split at e
  · cases e; simp
  · cases e
/-- What comes of a round. -/
theorem Sa.commit {w wr U : World} {p nb sb s mb lb : Nat} {cv cv' : Value} {D : Dk} {h : Hd} {la : List UInt8} {i : Nat} (a : Sa w wr p nb sb s mb lb cv D h la i) (k : Nat) (hk : k < 40) (x : UInt8) (hx : x ≠ 0) (hi : i < 40)
    (hs : StAt w U p nb sb cv' 90 (nxD D h [(k, [x])]) s mb (nxH h [(k, [x])]) [] false) (hc : KeepC w.heap.size stT wr U) : Sa w (U.setCell ⟨lb, k, none⟩ (.int .u8 (x.toNat : Int))) p nb sb s mb lb cv' (nxD D h [(k, [x])]) (nxH h [(k, [x])]) (la.set k x) (i + 1) ∧ (∃ z, U.cell? ⟨lb, k, none⟩ = some (.int .u8 z)) ∧ U.frozen? ⟨lb, k, none⟩ = false := by
  have hro : U.heap[lb]? = some (.cells (byC la).toArray 33 (0, 0)) := hc.row a.ro (by decide)
  have hd := a.st.tn.1.ok.nowL
  have ne : ∀ (j : Nat) (cs : Array Value) (t : TypeId), U.heap[j]? = some (.cells cs t (0, 0)) → t ≠ 33 → j ≠ lb := fun j cs t e ht e2 => by
    rw [e2, hro] at e
    cases e
    exact ht rfl
  have oth : ∀ j, j ≠ lb → (U.setCell ⟨lb, k, none⟩ (.int .u8 (x.toNat : Int))).heap[j]? = U.heap[j]? := fun j hj => Below.heap_setCell _ _ _ _ hj
  have d := hs.tn.1
  obtain ⟨es, c, h1, h2⟩ := hs.mp
  have hmn : mb ≠ lb := fun e => by rw [e, hro] at h1; cases h1
  have hbl : Below w.heap.size w (U.setCell ⟨lb, k, none⟩ (.int .u8 (x.toNat : Int))) := hs.tn.2.setCell (p := ⟨lb, k, none⟩) a.lo _
  have hnil : es.toList = [] := List.eq_nil_of_length_eq_zero (by rw [h2.length]; rfl)
  refine ⟨⟨⟨⟨⟨(oth p (ne p _ _ d.box (by decide))).trans d.box, (oth nb (ne nb _ _ d.now (by decide))).trans d.now, (oth sb (ne sb _ _ d.safe (by decide))).trans d.safe, d.ne, d.lp, d.ln, d.ls, ownsRow_keep d.chg (fun b' cs e _ => oth b' (ne b' _ _ e (by decide))), d.ok⟩, hbl⟩, (oth s (ne s _ _ hs.box (by decide))).trans hs.box, hs.ls, hs.lm, ⟨es, c, (oth mb hmn).trans h1, by rw [hnil]; exact .nil⟩, hs.ok⟩, nxD_fail D h _ a.fl, (nxD_lim a.fl a.lm).mono (by omega), by have := a.vr; show h.ver + 1 ≤ i + 1; omega, ?_, ?_, by simp [a.ln], a.lo⟩, ?_, ?_⟩
  · exact (a.pg.next a.st.ok hd (by omega) _ (look_one k x) a.fl).congr (fun j hj => pgF_next la a.ln k hk x hx j hj)
  · rw [setCell_eq_setRow U lb _ _ _ (0, 0) _ hro, setRow_heap U lb _ _ _ (0, 0) hro]
    simp [byC, List.map_set]
  · exact ⟨_, by rw [cell_of_row U lb _ _ _ (0, 0) hro, List.getElem?_toArray, byC_get _ _ (by rw [a.ln]; exact hk)]⟩
  · simp [World.frozen?, hro]
end Go.Proofs.Ytcoobcfdilnkhaa
