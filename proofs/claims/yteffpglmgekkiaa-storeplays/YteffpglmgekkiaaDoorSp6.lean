/-
  The head of daylaw2.StorePlays's loop, and a Put.
-/
import Derived.Test.YteffpglmgekkiaaDoorSp5
import Derived.Test.YteffpglmgekkiaaDoorRws
import Derived.Test.YteffpglmgekkiaaDoorBkK0
namespace Go.Proofs.YteffpglmgekkiaaDoor
set_option linter.unusedVariables false
set_option linter.unusedSimpArgs false
set_option maxRecDepth 100000
open Go.RowKit Go.Lib
theorem Spx.start {w W : World} {p nb sb n s mb : Nat} {cv : Value} (hn : 90 ≤ n) (st : StAt w W p nb sb cv n (fmtD n) s mb (fmtH none) [] false) :
    Spx w (((W.alloc (.cells (List.replicate 40 (Value.slice none 0 0)).toArray 34)).alloc (.cells (List.replicate 40 (Value.slice none 0 0)).toArray 34)).alloc (.cells (List.replicate 40 (Value.bool false)).toArray 35)) p nb sb n W.heap.size (W.heap.size + 1) (W.heap.size + 1 + 1) s 0 0 := by
  obtain ⟨X, hX⟩ : ∃ X : Obj, Obj.cells (List.replicate 40 (Value.slice none 0 0)).toArray 34 = X := ⟨_, rfl⟩
  obtain ⟨Y, hY⟩ : ∃ Y : Obj, Obj.cells (List.replicate 40 (Value.bool false)).toArray 35 = Y := ⟨_, rfl⟩
  rw [hX, hY]
  have s1 : (W.alloc X).heap.size = W.heap.size + 1 := by simp
  have s2 : ((W.alloc X).alloc X).heap.size = W.heap.size + 1 + 1 := by simp
  have b1 : Below W.heap.size W (W.alloc X) := (Below.refl _ W).alloc (Nat.le_refl _) X
  have b2 : Below (W.alloc X).heap.size (W.alloc X) ((W.alloc X).alloc X) := (Below.refl _ _).alloc (Nat.le_refl _) X
  have b3 : Below ((W.alloc X).alloc X).heap.size ((W.alloc X).alloc X) (((W.alloc X).alloc X).alloc Y) := (Below.refl _ _).alloc (Nat.le_refl _) Y
  have h1 := new_heap W X
  have h2 := new_heap (W.alloc X) X
  have h3 := new_heap ((W.alloc X).alloc X) Y
  rw [s1] at h2
  rw [s2] at h3
  have q1 : (((W.alloc X).alloc X).alloc Y).heap[W.heap.size]? = some X := (b3.block _ (by omega)).trans ((b2.block _ (by omega)).trans h1)
  have q2 : (((W.alloc X).alloc X).alloc Y).heap[W.heap.size + 1]? = some X := (b3.block _ (by omega)).trans h2
  have st3 := ((st.below b1).below b2).below b3
  have hz := st.tn.2.size
  obtain ⟨_, _, _, fl⟩ := fmtD_eq n
  have own : ∀ (V : World) (k : Nat), k < 40 → OwnBy V ((List.replicate 40 (Value.slice none 0 0)).getD k (.slice none 0 0)) ([] : List UInt8) := fun V k hk => by
    rw [List.getD_eq_getElem?_getD, List.getElem?_replicate, if_pos hk]
    exact ⟨none, 0, rfl, Nat.le_refl _, fun _ => rfl, .inl rfl⟩
  refine ⟨cv, mb, fmtD n, fmtH none, [], fun _ => [], ⟨st3, fmt_gd n hn, .nil, fl.mono (by omega), Nat.le_refl 0, ⟨_, by simp, by rw [hX]; exact q1, own _⟩, ⟨_, by simp, by rw [hX]; exact q2, own _⟩, ?_, by omega, by omega, by omega, by omega⟩, rfl⟩
  unfold Tc
  rw [h3, ← hY]
  rfl
/-- A Put, right or wrong. -/
theorem Sg.put {w W : World} {p nb sb n s NB TB UB : Nat} {cv : Value} {mb : Nat} {D : Dk} {h : Hd} {P : List (Nat × List UInt8)} {f T : Nat → List UInt8} {i : Nat} (a : Sg w W p nb sb n s NB TB UB cv mb D h P f (fun k => (look P k).getD (f k)) T (isIn P) i) (k : Nat) (hk : k < 40) (v : Value) (l : List UInt8) (hl : l.length ≤ 60) (hv : OwnBy W v l) :
    StAt w ((W.setCell ⟨NB, k, none⟩ v).setCell ⟨UB, k, none⟩ (.bool true)) p nb sb cv n D s mb h P false ∧ OwnBy ((W.setCell ⟨NB, k, none⟩ v).setCell ⟨UB, k, none⟩ (.bool true)) v l ∧
    ∀ U, StAt w U p nb sb cv n D s mb h (upd P k l) false → KeepC w.heap.size stT ((W.setCell ⟨NB, k, none⟩ v).setCell ⟨UB, k, none⟩ (.bool true)) U → Sg w U p nb sb n s NB TB UB cv mb D h (upd P k l) f (fun j => (look (upd P k l) j).getD (f j)) T (isIn (upd P k l)) i := by
  have a1 := a.page k hk v l hv
  have a2 := a1.mark k hk true
  refine ⟨a2.st, ?_, fun U st hk' => ?_⟩
  · obtain ⟨v1, h1⟩ := a.nw
    obtain ⟨v2, h2⟩ := a2.nw
    refine hv.mono (fun b cs e => ?_)
    have n1 : b ≠ NB := fun e2 => by rw [e2, h1.row] at e; cases e
    have n2 : b ≠ UB := fun e2 => by rw [e2, show W.heap[UB]? = _ from a.tc] at e; cases e
    rw [Below.heap_setCell _ _ _ _ n2, Below.heap_setCell _ _ _ _ n1]
    exact e
  · refine (a2.call hk' st a2.gd (a.ks.upd k l hk hl) a2.lm a2.vr).congr (fun j _ => ?_) (fun _ _ => rfl) (fun j _ => ?_)
    · rw [look_upd]
      by_cases e : j = k
      · rw [if_pos e, if_pos e.symm]; rfl
      · rw [if_neg e, if_neg (fun e2 => e e2.symm)]
    · rw [isIn_upd]
      by_cases e : j = k
      · rw [if_pos e, decide_eq_true e]; rfl
      · rw [if_neg e, decide_eq_false e]; rfl
end Go.Proofs.YteffpglmgekkiaaDoor
