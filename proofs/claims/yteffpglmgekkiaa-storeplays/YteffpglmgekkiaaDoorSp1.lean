/-
  A row of the law's own is turned: the store does not see it.
-/
import Derived.Test.YteffpglmgekkiaaDoorSp0
namespace Go.Proofs.YteffpglmgekkiaaDoor
set_option linter.unusedVariables false
set_option linter.unusedSimpArgs false
set_option maxRecDepth 100000
open Go.RowKit Go.Lib
theorem OwnBy.mono {V W : World} {v : Value} {l : List UInt8} (h : OwnBy V v l) (hk : ∀ (b : Nat) (cs : Array Value), V.heap[b]? = some (.cells cs 5 (0, 0)) → W.heap[b]? = some (.cells cs 5 (0, 0))) : OwnBy W v l := by
  obtain ⟨a, cap, e, hc, hn, h⟩ := h
  refine ⟨a, cap, e, hc, hn, ?_⟩
  rcases h with h | ⟨b, off, cs, e, hb, hx⟩
  · exact .inl h
  · exact .inr ⟨b, off, cs, e, hk b cs hb, hx⟩
theorem PRel.mono {V W : World} {es : List MapEntry} {P : List (Nat × List UInt8)} (h : PRel V es P) (hk : ∀ (b : Nat) (cs : Array Value), V.heap[b]? = some (.cells cs 5 (0, 0)) → W.heap[b]? = some (.cells cs 5 (0, 0))) : PRel W es P := by
  induction h using PRel.ind with
  | nil => exact .nil
  | cons e1 e2 _ ih => exact .cons e1 (e2.mono hk) ih
/-- One block alone is another. -/
structure Turn (b : Nat) (V W : World) : Prop where
  os : W.os = V.os
  tape : W.tape = V.tape
  output : W.output = V.output
  size : W.heap.size = V.heap.size
  oth : ∀ j, j ≠ b → W.heap[j]? = V.heap[j]?
theorem Turn.setCell (W : World) (b o : Nat) (v : Value) : Turn b W (W.setCell ⟨b, o, none⟩ v) := by
  have hb := (Below.refl 0 W).setCell (p := ⟨b, o, none⟩) (Nat.zero_le b) v
  exact ⟨hb.os, hb.tape, hb.output, by simp, fun j hj => Below.heap_setCell _ _ _ _ hj⟩
theorem Turn.setRow (W : World) (b : Nat) (cs : Array Value) : Turn b W (W.setRow b cs) :=
  ⟨rfl, rfl, rfl, by simp [World.setRow], fun j hj => setRow_other _ _ _ _ hj⟩
section
variable {w W U : World} {p nb sb : Nat} {cv : Value} {n : Nat} {D : Dk} {s mb : Nat} {h : Hd} {P : List (Nat × List UInt8)} {lost : Bool} {b : Nat} {cs : Array Value} {t : TypeId}
theorem StAt.own (a : StAt w W p nb sb cv n D s mb h P lost) (hb : W.heap[b]? = some (.cells cs t (0, 0))) (ht : t ∉ stT) (h8 : t ≠ 5) (hl : w.heap.size ≤ b) (k : Turn b W U) : StAt w U p nb sb cv n D s mb h P lost := by
  have ne : ∀ (j : Nat) (cs' : Array Value) (t' : TypeId), W.heap[j]? = some (.cells cs' t' (0, 0)) → t' ∈ stT → j ≠ b := fun j cs' t' e ht' e2 => by
    rw [e2, hb] at e
    cases e
    exact ht ht'
  have d := a.tn.1
  obtain ⟨es, c, h1, h2⟩ := a.mp
  have hmn : mb ≠ b := fun e => by rw [e, hb] at h1; cases h1
  have hbl : Below w.heap.size W U := ⟨k.os, k.tape, k.output, by rw [k.size]; exact Nat.le_refl _, fun j hj => k.oth j (by omega)⟩
  refine ⟨⟨⟨(k.oth p (ne p _ _ d.box (by decide))).trans d.box, (k.oth nb (ne nb _ _ d.now (by decide))).trans d.now, (k.oth sb (ne sb _ _ d.safe (by decide))).trans d.safe, d.ne, d.lp, d.ln, d.ls, ownsRow_keep d.chg (fun b' cs' e _ => k.oth b' (ne b' _ _ e (by decide))), d.ok⟩, a.tn.2.trans hbl⟩, (k.oth s (ne s _ _ a.box (by decide))).trans a.box, a.ls, a.lm, ⟨es, c, (k.oth mb hmn).trans h1, h2.mono (fun b1 cs1 e => (k.oth b1 (fun e2 => by rw [e2, hb] at e; cases e; exact h8 rfl)).trans e)⟩, a.ok⟩
/-- Get of a page that there is not. -/
theorem get_out (a : StAt w W p nb sb cv n D s mb h P false) (k : Int) (hk : ¬ (0 ≤ k ∧ k < 40)) :
    Calls Tryd.prog 12 #[.pointer (some ⟨s, 0, none⟩), .int .i64 k] W fun e w' => e = .returned (.tuple #[.slice none 0 0, .iface 45 (.int .i64 1)]) ∧ Hid (Still W w') := by
  have cl := a.cl
  have HI : Hid (Calls _ _ _ W _) := isPage_any k W
  rw [decide_eq_false hk] at HI
  clear a hk
  go_enter Tryd.func12, Tryd.ntmps12
  go_wp2_with fail
  refine HI.out.mono ?_
  rintro e w' ⟨rfl, hw⟩
  rw [hw]; clear hw w'
  go_wp2
  go_ret2
  exact ⟨rfl, Still.refl _⟩
end
end Go.Proofs.YteffpglmgekkiaaDoor
