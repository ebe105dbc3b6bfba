/-
  What the steps of daylaw2.StorePlays leave.
-/
import Derived.Test.YteffpglmgekkiaaDoorSp6
namespace Go.Proofs.YteffpglmgekkiaaDoor
set_option linter.unusedVariables false
set_option linter.unusedSimpArgs false
set_option maxRecDepth 100000
open Go.RowKit Go.Lib
section
variable {w W U : World} {p nb sb n s NB TB UB : Nat} {cv : Value} {mb : Nat} {D : Dk} {h : Hd} {P : List (Nat × List UInt8)} {f L T : Nat → List UInt8} {g : Nat → Bool} {i : Nat}
theorem Sg.more (a : Sg w W p nb sb n s NB TB UB cv mb D h P f L T g i) : Sg w W p nb sb n s NB TB UB cv mb D h P f L T g (i + 1) :=
  ⟨a.st, a.gd, a.ks, a.lm.mono (by omega), by have := a.vr; omega, a.nw, a.th, a.tc, a.ne, a.l1, a.l2, a.l3⟩
/-- A mark is taken away. -/
theorem Sg.clear (q : Nat) (a : Sg w W p nb sb n s NB TB UB cv mb D h P f L T (fun j => if j < q then false else g j) i) (hq : q < 40) : W.cell? ⟨UB, q, none⟩ = some (.bool (g q)) ∧ W.frozen? ⟨UB, q, none⟩ = false ∧ Sg w (W.setCell ⟨UB, q, none⟩ (.bool false)) p nb sb n s NB TB UB cv mb D h P f L T (fun j => if j < q + 1 then false else g j) i := by
  refine ⟨?_, a.tc.fz q, (a.mark q hq false).congr (fun _ _ => rfl) (fun _ _ => rfl) (fun k hk => ?_)⟩
  · have := a.tc.cell q hq
    simp only [if_neg (Nat.lt_irrefl q)] at this
    exact this
  · by_cases e : k = q
    · subst e; simp
    · by_cases e2 : k < q
      · rw [if_neg e, if_pos e2, if_pos (by omega)]
      · rw [if_neg e, if_neg e2, if_neg (by omega)]
theorem Sg.start (a : Sg w W p nb sb n s NB TB UB cv mb D h P f L T g i) : Sg w W p nb sb n s NB TB UB cv mb D h P f L T (fun j => if j < 0 then false else g j) i := a.congr (fun _ _ => rfl) (fun _ _ => rfl) (fun k _ => by simp)
/-- Nothing is pending any more. -/
theorem Sg.done (a : Sg w W p nb sb n s NB TB UB cv mb D h [] f L T (fun j => if j < 40 then false else g j) i) (hL : ∀ k, k < 40 → L k = f k) (hT : ∀ k, k < 40 → T k = f k) : Spx w W p nb sb n NB TB UB s h.ver i :=
  ⟨cv, mb, D, h, [], f, a.congr hL hT (fun k hk => by rw [if_pos hk]; rfl), rfl⟩
/-- A Put that is right: what the stores ahead of it ask, and leave. -/
theorem Sg.putC (a : Sg w W p nb sb n s NB TB UB cv mb D h P f (fun k => (look P k).getD (f k)) f (isIn P) i) (k : Nat) (hk : k < 40) (v : Value) (l : List UInt8) (hl : l.length ≤ 60) (hv : OwnBy W v l) {B : Nat} {cs : Array Value} (hB : W.heap[B]? = some (.cells cs 36 (0, 0))) :
    (∃ x, W.cell? ⟨NB, k, none⟩ = some x) ∧ W.frozen? ⟨NB, k, none⟩ = false ∧ (W.setCell ⟨NB, k, none⟩ v).heap[B]? = some (.cells cs 36 (0, 0)) ∧ (∃ x, (W.setCell ⟨NB, k, none⟩ v).cell? ⟨UB, k, none⟩ = some x) ∧ (W.setCell ⟨NB, k, none⟩ v).frozen? ⟨UB, k, none⟩ = false ∧ ((W.setCell ⟨NB, k, none⟩ v).setCell ⟨UB, k, none⟩ (.bool true)).heap[B]? = some (.cells cs 36 (0, 0)) := by
  obtain ⟨v1, h1⟩ := a.nw
  have a1 := a.page k hk v l hv
  have n1 : B ≠ NB := fun e => by rw [e, h1.row] at hB; cases hB
  have n2 : B ≠ UB := fun e => by rw [e, show W.heap[UB]? = _ from a.tc] at hB; cases hB
  have e1 : (W.setCell ⟨NB, k, none⟩ v).heap[B]? = some (.cells cs 36 (0, 0)) := (Below.heap_setCell _ _ _ _ n1).trans hB
  exact ⟨⟨_, h1.cell k hk⟩, h1.fz k, e1, ⟨_, a1.tc.cell k hk⟩, a1.tc.fz k, (Below.heap_setCell _ _ _ _ n2).trans e1⟩
theorem cnt_step (g : Nat → Bool) (q : Nat) : cnt g (q + 1) = cnt g q + (if g q = true then 1 else 0) := rfl
end
end Go.Proofs.YteffpglmgekkiaaDoor
