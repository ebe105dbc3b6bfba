/-
  What a walk of daylaw2.StorePlays keeps.
-/
import Derived.Test.YteffpglmgekkiaaDoorSp4
namespace Go.Proofs.YteffpglmgekkiaaDoor
set_option linter.unusedVariables false
set_option linter.unusedSimpArgs false
set_option maxRecDepth 100000
open Go.RowKit Go.Lib
structure Sg (w W : World) (p nb sb n s NB TB UB : Nat) (cv : Value) (mb : Nat) (D : Dk) (h : Hd) (P : List (Nat × List UInt8)) (f L T : Nat → List UInt8) (g : Nat → Bool) (i : Nat) : Prop where
  st : StAt w W p nb sb cv n D s mb h P false
  gd : Gd D n h f
  ks : Ks P
  lm : D.lim (3 + 50 * i)
  vr : h.ver ≤ i
  nw : ∃ vs, Ar W NB vs L
  th : ∃ vs, Ar W TB vs T
  tc : Tc W UB g
  ne : NB ≠ TB
  l1 : w.heap.size ≤ NB
  l2 : w.heap.size ≤ TB
  l3 : w.heap.size ≤ UB
section
variable {w W U : World} {p nb sb n s NB TB UB : Nat} {cv : Value} {mb : Nat} {D : Dk} {h : Hd} {P : List (Nat × List UInt8)} {f L T : Nat → List UInt8} {g : Nat → Bool} {i : Nat}
theorem Sg.call (a : Sg w W p nb sb n s NB TB UB cv mb D h P f L T g i) (hk : KeepC w.heap.size stT W U) {s' mb' : Nat} {cv' : Value} {D' : Dk} {h' : Hd} {P' : List (Nat × List UInt8)} {f' : Nat → List UInt8} {i' : Nat} (st : StAt w U p nb sb cv' n D' s' mb' h' P' false) (gd : Gd D' n h' f') (ks : Ks P') (lm : D'.lim (3 + 50 * i')) (vr : h'.ver ≤ i') : Sg w U p nb sb n s' NB TB UB cv' mb' D' h' P' f' L T g i' := by
  obtain ⟨v1, h1⟩ := a.nw
  obtain ⟨v2, h2⟩ := a.th
  exact ⟨st, gd, ks, lm, vr, ⟨v1, h1.keep hk⟩, ⟨v2, h2.keep hk⟩, a.tc.keep hk, a.ne, a.l1, a.l2, a.l3⟩
theorem Sg.below (a : Sg w W p nb sb n s NB TB UB cv mb D h P f L T g i) (hb : Below W.heap.size W U) : Sg w U p nb sb n s NB TB UB cv mb D h P f L T g i :=
  a.call (.of_below hb) (a.st.below hb) a.gd a.ks a.lm a.vr
theorem Sg.nu (a : Sg w W p nb sb n s NB TB UB cv mb D h P f L T g i) : NB ≠ UB := fun e => by
  obtain ⟨v1, h1⟩ := a.nw
  have := h1.row
  rw [e, show W.heap[UB]? = _ from a.tc] at this
  cases this
theorem Sg.tu (a : Sg w W p nb sb n s NB TB UB cv mb D h P f L T g i) : TB ≠ UB := fun e => by
  obtain ⟨v1, h1⟩ := a.th
  have := h1.row
  rw [e, show W.heap[UB]? = _ from a.tc] at this
  cases this
theorem Sg.mark (a : Sg w W p nb sb n s NB TB UB cv mb D h P f L T g i) (k : Nat) (hk : k < 40) (x : Bool) : Sg w (W.setCell ⟨UB, k, none⟩ (.bool x)) p nb sb n s NB TB UB cv mb D h P f L T (fun j => if j = k then x else g j) i := by
  obtain ⟨v1, h1⟩ := a.nw
  obtain ⟨v2, h2⟩ := a.th
  have k' := Turn.setCell W UB k (.bool x)
  exact ⟨a.st.own a.tc (by decide) (by decide) a.l3 k', a.gd, a.ks, a.lm, a.vr, ⟨v1, h1.turn a.tc (by decide) a.nu k'⟩, ⟨v2, h2.turn a.tc (by decide) a.tu k'⟩, a.tc.set k hk x, a.ne, a.l1, a.l2, a.l3⟩
theorem Sg.page (a : Sg w W p nb sb n s NB TB UB cv mb D h P f L T g i) (k : Nat) (hk : k < 40) (v : Value) (l : List UInt8) (hv : OwnBy W v l) : Sg w (W.setCell ⟨NB, k, none⟩ v) p nb sb n s NB TB UB cv mb D h P f (fun j => if j = k then l else L j) T g i := by
  obtain ⟨v1, h1⟩ := a.nw
  obtain ⟨v2, h2⟩ := a.th
  have k' := Turn.setCell W NB k v
  exact ⟨a.st.own h1.row (by decide) (by decide) a.l1 k', a.gd, a.ks, a.lm, a.vr, ⟨_, h1.set k hk v l hv⟩, ⟨v2, h2.turn h1.row (by decide) a.ne.symm k'⟩, a.tc.turn a.nu.symm k', a.ne, a.l1, a.l2, a.l3⟩
/-- 'now = then'. -/
theorem Sg.back (a : Sg w W p nb sb n s NB TB UB cv mb D h P f L T g i) : ∃ V, (Instr.loadAt 34 (.pointer (some ⟨TB, 0, none⟩))).run Tryd.prog W = .ok (.agg V) W ∧ (Instr.storeAt 34 (.pointer (some ⟨NB, 0, none⟩)) (.agg V)).run Tryd.prog W = .ok () (W.setRow NB V) ∧ Sg w (W.setRow NB V) p nb sb n s NB TB UB cv mb D h P f T T g i := by
  obtain ⟨v1, h1⟩ := a.nw
  obtain ⟨v2, h2⟩ := a.th
  have k' := Turn.setRow W NB v2.toArray
  obtain ⟨c1, c2⟩ := h2.copy h1
  exact ⟨v2.toArray, h2.load, c1, a.st.own h1.row (by decide) (by decide) a.l1 k', a.gd, a.ks, a.lm, a.vr, ⟨_, c2⟩, ⟨v2, h2.turn h1.row (by decide) a.ne.symm k'⟩, a.tc.turn a.nu.symm k', a.ne, a.l1, a.l2, a.l3⟩
/-- 'then = now'. -/
theorem Sg.forth (a : Sg w W p nb sb n s NB TB UB cv mb D h P f L T g i) : ∃ V, (Instr.loadAt 34 (.pointer (some ⟨NB, 0, none⟩))).run Tryd.prog W = .ok (.agg V) W ∧ (Instr.storeAt 34 (.pointer (some ⟨TB, 0, none⟩)) (.agg V)).run Tryd.prog W = .ok () (W.setRow TB V) ∧ Sg w (W.setRow TB V) p nb sb n s NB TB UB cv mb D h P f L L g i := by
  obtain ⟨v1, h1⟩ := a.nw
  obtain ⟨v2, h2⟩ := a.th
  have k' := Turn.setRow W TB v1.toArray
  obtain ⟨c1, c2⟩ := h1.copy h2
  exact ⟨v1.toArray, h1.load, c1, a.st.own h2.row (by decide) (by decide) a.l2 k', a.gd, a.ks, a.lm, a.vr, ⟨v1, h1.turn h2.row (by decide) a.ne k'⟩, ⟨_, c2⟩, a.tc.turn a.tu.symm k', a.ne, a.l1, a.l2, a.l3⟩
theorem Sg.congr (a : Sg w W p nb sb n s NB TB UB cv mb D h P f L T g i) {L' T' : Nat → List UInt8} {g' : Nat → Bool} (e1 : ∀ k, k < 40 → L k = L' k) (e2 : ∀ k, k < 40 → T k = T' k) (e3 : ∀ k, k < 40 → g k = g' k) : Sg w W p nb sb n s NB TB UB cv mb D h P f L' T' g' i := by
  obtain ⟨v1, h1⟩ := a.nw
  obtain ⟨v2, h2⟩ := a.th
  refine ⟨a.st, a.gd, a.ks, a.lm, a.vr, ⟨v1, h1.congr e1⟩, ⟨v2, h2.congr e2⟩, ?_, a.ne, a.l1, a.l2, a.l3⟩
  have : tcC g = tcC g' := List.map_congr_left (fun k hk => by rw [e3 k (List.mem_range.1 hk)])
  unfold Tc
  rw [← this]
  exact a.tc
end
/-- At a round's head. -/
def Spx (w W : World) (p nb sb n NB TB UB s ver i : Nat) : Prop := ∃ cv mb D h P f, Sg w W p nb sb n s NB TB UB cv mb D h P f (fun k => (look P k).getD (f k)) f (isIn P) i ∧ h.ver = ver
end Go.Proofs.YteffpglmgekkiaaDoor
