/-
  A disk behind one step of memory: a new block of memory, a block of the disk set, a change more, a number set.
-/
import Derived.Test.YtidccclfngcpgaaBk3
namespace Go.Proofs.Ytidccclfngcpgaa
set_option linter.unusedVariables false
set_option linter.unusedSimpArgs false
set_option maxRecDepth 100000
open Go.RowKit Go.Lib

section
variable {w w' : World} {lo p nb sb : Nat} {cv : Value} {n : Nat} {D : Dk}

theorem DkAt.alloc (h : DkAt w lo p nb sb cv n D) (o : Obj) : DkAt (w.alloc o) lo p nb sb cv n D := h.below ((Below.refl _ w).alloc (Nat.le_refl _) o)
theorem DkAt.drew (h : DkAt w lo p nb sb cv n D) : DkAt w.drew lo p nb sb cv n D := h.still (Still.drew w)
theorem DkAt.pnb (h : DkAt w lo p nb sb cv n D) : p ≠ nb := fun e => by
  have h1 := h.box
  rw [e, h.now] at h1
  simp at h1
theorem DkAt.psb (h : DkAt w lo p nb sb cv n D) : p ≠ sb := fun e => by
  have h1 := h.box
  rw [e, h.safe] at h1
  simp at h1
theorem DkAt.pcv (h : DkAt w lo p nb sb cv n D) (j : Nat) (hj : cv.ownBlock = some j) : j ≠ p ∧ j ≠ nb ∧ j ≠ sb ∧ lo ≤ j ∧ ∃ cs, w.heap[j]? = some (.cells cs 68 (0, 0)) := by
  rcases h.chg.2 with ⟨rfl, _⟩ | ⟨g1, c1, cur, rfl, hb1, hh, r⟩
  · cases hj
  · cases hj
    refine ⟨fun e => ?_, fun e => ?_, fun e => ?_, hb1, _, hh⟩
    · simp only at e; subst e
      rw [h.box] at hh; simp at hh
    · simp only at e; subst e
      rw [h.now] at hh; simp at hh
    · simp only at e; subst e
      rw [h.safe] at hh; simp at hh

/-- A block of the disk is set. -/
theorem DkAt.setNow (h : DkAt w lo p nb sb cv n D) (l : List Bk) (hl : l.length = n) (ho : ∀ x ∈ l, x.ok) : DkAt (w.setRow nb (rowOf Bk.cells l).toArray) lo p nb sb cv n { D with now := l } :=
  ⟨(setRow_other _ _ _ _ h.pnb).trans h.box, setRow_heap w nb _ _ _ _ h.now, (setRow_other _ _ _ _ (fun e => h.ne e.symm)).trans h.safe, h.ne, h.lp, h.ln, h.ls,
    ownsRow_keep h.chg (fun b cs e _ => setRow_other _ _ _ _ (fun eb => by subst eb; rw [h.now] at e; simp at e)), ⟨hl, h.ok.safeL, ho, h.ok.safeO, h.ok.chgO⟩⟩
theorem DkAt.setSafe (h : DkAt w lo p nb sb cv n D) (l : List Bk) (hl : l.length = n) (ho : ∀ x ∈ l, x.ok) : DkAt (w.setRow sb (rowOf Bk.cells l).toArray) lo p nb sb cv n { D with safe := l } :=
  ⟨(setRow_other _ _ _ _ h.psb).trans h.box, (setRow_other _ _ _ _ h.ne).trans h.now, setRow_heap w sb _ _ _ _ h.safe, h.ne, h.lp, h.ln, h.ls,
    ownsRow_keep h.chg (fun b cs e _ => setRow_other _ _ _ _ (fun eb => by subst eb; rw [h.safe] at e; simp at e)), ⟨h.ok.nowL, hl, h.ok.nowO, ho, h.ok.chgO⟩⟩

theorem box_set {b : Nat} {v0 v1 v2 v3 v4 : Value} {t : TypeId} (h : w.heap[b]? = some (.cells #[v0, v1, v2, v3, v4] t (0, 0))) (o : Nat) (v : Value) : (w.setCell ⟨b, o, none⟩ v).heap[b]? = some (.cells (#[v0, v1, v2, v3, v4].setIfInBounds o v) t (0, 0)) := by
  rw [setCell_eq_setRow w b o _ t (0, 0) _ h, setRow_heap w b _ _ t (0, 0) h]

theorem DkAt.setP (h : DkAt w lo p nb sb cv n D) (o : Nat) (v : Value) (cv' : Value) (D' : Dk) (hb : (#[.slice (some ⟨nb, 0, none⟩) n n, .slice (some ⟨sb, 0, none⟩) n n, cv, .int .i64 (D.steps : Int), .int .i64 D.fail] : Array Value).setIfInBounds o v = #[.slice (some ⟨nb, 0, none⟩) n n, .slice (some ⟨sb, 0, none⟩) n n, cv', .int .i64 (D'.steps : Int), .int .i64 D'.fail])
    (h1 : D'.now = D.now) (h2 : D'.safe = D.safe) (h3 : (w.setCell ⟨p, o, none⟩ v).ownsRow lo 68 66 cv' D'.chg.length (rowOf Cg.cells D'.chg)) (h4 : D'.ok n) : DkAt (w.setCell ⟨p, o, none⟩ v) lo p nb sb cv' n D' :=
  ⟨(box_set h.box o v).trans (by rw [hb]), by rw [h1]; exact (Below.heap_setCell _ _ _ _ (fun e => h.pnb e.symm)).trans h.now, by rw [h2]; exact (Below.heap_setCell _ _ _ _ (fun e => h.psb e.symm)).trans h.safe, h.ne, h.lp, h.ln, h.ls, h3, h4⟩
theorem DkAt.chgP (h : DkAt w lo p nb sb cv n D) (o : Nat) (v : Value) : (w.setCell ⟨p, o, none⟩ v).ownsRow lo 68 66 cv D.chg.length (rowOf Cg.cells D.chg) :=
  ownsRow_keep h.chg (fun b cs e _ => Below.heap_setCell _ _ _ _ (fun eb => by simp only at eb; subst eb; rw [h.box] at e; simp at e))

theorem DkAt.setSteps (h : DkAt w lo p nb sb cv n D) (s : Nat) : DkAt (w.setCell ⟨p, 3, none⟩ (.int .i64 (s : Int))) lo p nb sb cv n { D with steps := s } :=
  h.setP 3 _ cv _ rfl rfl rfl (h.chgP 3 _) ⟨h.ok.nowL, h.ok.safeL, h.ok.nowO, h.ok.safeO, h.ok.chgO⟩
theorem DkAt.setFail (h : DkAt w lo p nb sb cv n D) (f : Int) : DkAt (w.setCell ⟨p, 4, none⟩ (.int .i64 f)) lo p nb sb cv n { D with fail := f } :=
  h.setP 4 _ cv _ rfl rfl rfl (h.chgP 4 _) ⟨h.ok.nowL, h.ok.safeL, h.ok.nowO, h.ok.safeO, h.ok.chgO⟩
theorem DkAt.setNone (h : DkAt w lo p nb sb cv n D) : DkAt (w.setCell ⟨p, 2, none⟩ (.slice none 0 0)) lo p nb sb (.slice none 0 0) n { D with chg := [] } :=
  h.setP 2 _ (.slice none 0 0) _ rfl rfl rfl (World.ownsRow_nil _ _ _ _) ⟨h.ok.nowL, h.ok.safeL, h.ok.nowO, h.ok.safeO, by simp⟩
/-- A change more. -/
theorem DkAt.more (h : DkAt w lo p nb sb cv n D) (c : Cg) (hc : c.to.ok ∧ c.at_ < n) (v : Value) (hg : w.grownBy w' cv.ownBlock) (hr : w'.ownsRow lo 68 66 v (D.chg.length + 1) (rowOf Cg.cells D.chg ++ c.cells)) :
    DkAt (w'.setCell ⟨p, 2, none⟩ v) lo p nb sb v n { D with chg := D.chg ++ [c] } := by
  have g1 : w'.heap[p]? = w.heap[p]? := hg.block p h.lt (fun e => (h.pcv p e.symm).1 rfl)
  have g2 : w'.heap[nb]? = w.heap[nb]? := hg.block nb (Array.getElem?_eq_some_iff.1 h.now).1 (fun e => (h.pcv nb e.symm).2.1 rfl)
  have g3 : w'.heap[sb]? = w.heap[sb]? := hg.block sb (Array.getElem?_eq_some_iff.1 h.safe).1 (fun e => (h.pcv sb e.symm).2.2.1 rfl)
  have b1 := g1.trans h.box
  refine ⟨(box_set b1 2 v).trans rfl, (Below.heap_setCell _ _ _ _ (fun e => h.pnb e.symm)).trans (g2.trans h.now), (Below.heap_setCell _ _ _ _ (fun e => h.psb e.symm)).trans (g3.trans h.safe), h.ne, h.lp, h.ln, h.ls, ?_, ⟨h.ok.nowL, h.ok.safeL, h.ok.nowO, h.ok.safeO, ?_⟩⟩
  · have e : rowOf Cg.cells (D.chg ++ [c]) = rowOf Cg.cells D.chg ++ c.cells := by rw [rowOf_append, rowOf_one]
    show (w'.setCell ⟨p, 2, none⟩ v).ownsRow lo 68 66 v (D.chg ++ [c]).length (rowOf Cg.cells (D.chg ++ [c]))
    rw [e, List.length_append, List.length_singleton]
    exact ownsRow_keep hr (fun b cs e _ => Below.heap_setCell _ _ _ _ (fun eb => by simp only at eb; subst eb; rw [b1] at e; simp at e))
  · intro x hx
    rcases List.mem_append.1 hx with hx | hx
    · exact h.ok.chgO x hx
    · rw [List.mem_singleton.1 hx]; exact hc
end

theorem Keeps.setCell {lo : Nat} {T : List TypeId} {V W : World} {b o : Nat} {cs : Array Value} {t : TypeId} (h : Keeps lo T V W) (hb : W.heap[b]? = some (.cells cs t (0, 0))) (ht : t ∈ T) (hl : lo ≤ b) (v : Value) : Keeps lo T V (W.setCell ⟨b, o, none⟩ v) := by
  rw [setCell_eq_setRow W b o cs t (0, 0) v hb]
  exact h.setRow hb ht hl _

theorem getD_ok {l : List Bk} (h : ∀ x ∈ l, x.ok) (i : Nat) : (l.getD i bk0).ok := by
  by_cases hi : i < l.length
  · rw [List.getD_eq_getElem?_getD, List.getElem?_eq_getElem hi]; exact h _ (List.getElem_mem hi)
  · rw [List.getD_eq_getElem?_getD, List.getElem?_eq_none (by omega)]; exact bk0_ok
/-- A block's cells, in its row. -/
theorem row_range {w : World} {g : Nat} {l : List Bk} {t : TypeId} (h : w.heap[g]? = some (.cells (rowOf Bk.cells l).toArray t (0, 0))) (ho : ∀ x ∈ l, x.ok) (i : Nat) (hi : i < l.length) : w.rangeAt g (i * 65) (l.getD i bk0).cells := by
  intro j v hv
  have hj : j < 65 := by
    have := (List.getElem?_eq_some_iff.1 hv).1
    rw [Bk.cells_length (getD_ok ho i)] at this
    exact this
  have e := rowOf_get Bk.cells 65 l i j hi (fun x hx => Bk.cells_length (ho x hx)) hj
  rw [List.getD_eq_getElem?_getD, List.getElem?_eq_getElem hi] at hv
  rw [cell_of_row w g _ _ t (0, 0) h]
  simp only [List.getElem?_toArray]
  rw [e]
  exact hv
theorem content_size : (Try.prog.info? 66).map (·.size) = some 65 := by kernel_rfl
theorem change_size : (Try.prog.info? 68).map (·.size) = some 66 := by kernel_rfl
theorem load_block {w : World} {g : Nat} {l : List Bk} {t : TypeId} (h : w.heap[g]? = some (.cells (rowOf Bk.cells l).toArray t (0, 0))) (ho : ∀ x ∈ l, x.ok) (i : Nat) (hi : i < l.length) :
    (Instr.loadAt 66 (.pointer (some ⟨g, i * 65, none⟩))).run Try.prog w = .ok (.agg (l.getD i bk0).cells.toArray) w :=
  run_loadAt_mid w g (i * 65) 66 _ _ (row_range h ho i hi) Try.underlying66 rfl (by rw [Bk.cells_length (getD_ok ho i)]; exact content_size)
theorem store_block {w : World} {g : Nat} {l : List Bk} {t : TypeId} (h : w.heap[g]? = some (.cells (rowOf Bk.cells l).toArray t (0, 0))) (ho : ∀ x ∈ l, x.ok) (i : Nat) (hi : i < l.length) (x : Bk) (hx : x.ok) :
    (Instr.storeAt 66 (.pointer (some ⟨g, i * 65, none⟩)) (.agg x.cells.toArray)).run Try.prog w = .ok () (w.setRow g (rowOf Bk.cells (l.set i x)).toArray) := by
  have hL := rowOf_length Bk.cells 65 l (fun y hy => Bk.cells_length (ho y hy))
  have := run_storeCells_at Try.prog g (i * 65) t x.cells 0 (rowOf Bk.cells l).toArray w h (by rw [Bk.cells_length hx, List.size_toArray, hL]; omega) x.cells_one
  rw [Nat.add_zero, Bk.cells_length hx, rowOf_set Bk.cells 65 l i x (fun y hy => Bk.cells_length (ho y hy)) hi] at this
  cases hq : Try.prog.info? 66 with
  | none => have := content_size; simp [hq] at this
  | some q =>
    have hs : q.size = 65 := by have := content_size; simpa [hq] using this
    simp [Instr.storeAt, Instr.sureAddr, storeVar, sizeOf, typeInfo, hq, Value.cells, hs, Bk.cells_length hx, this]
end Go.Proofs.Ytidccclfngcpgaa
