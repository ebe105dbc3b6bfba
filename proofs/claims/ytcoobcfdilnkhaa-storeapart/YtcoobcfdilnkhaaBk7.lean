/-
  The contract of a disk's Crash.
-/
import Derived.Test.YtcoobcfdilnkhaaBk6
namespace Go.Proofs.Ytcoobcfdilnkhaa
set_option linter.unusedVariables false
set_option linter.unusedSimpArgs false
set_option maxRecDepth 100000
open Go.RowKit Go.Lib

/-- What is safe behind a crash: of the changes from number k on those that are marked are done. -/
def crashS (mk : List Bool) (torn : Int) : Nat → List Cg → List Bk → List Bk
  | _, [], s => s
  | k, c :: cs, s => crashS mk torn (k + 1) cs (if mk.getD k false = true then s.set c.at_ ⟨c.to.byt, decide ((k : Int) = torn)⟩ else s)
def Dk.crash (D : Dk) (keep : List Int) (torn : Int) : Dk :=
  ⟨crashS (markL keep D.chg.length) torn 0 D.chg D.safe, crashS (markL keep D.chg.length) torn 0 D.chg D.safe, [], 0, -1⟩
theorem crashS_ok (mk : List Bool) (torn : Int) (n : Nat) : ∀ (cs : List Cg) (k : Nat) (s : List Bk), s.length = n → (∀ x ∈ s, x.ok) → (∀ c ∈ cs, c.to.ok ∧ c.at_ < n) → (crashS mk torn k cs s).length = n ∧ ∀ x ∈ crashS mk torn k cs s, x.ok
  | [], _, s, h1, h2, _ => ⟨h1, h2⟩
  | c :: cs, k, s, h1, h2, h3 => by
    unfold crashS
    refine crashS_ok mk torn n cs (k + 1) _ ?_ ?_ (fun x hx => h3 x (by simp [hx]))
    · split
      · rw [List.length_set]; exact h1
      · exact h1
    · intro x hx
      split at hx
      · rcases List.mem_or_eq_of_mem_set hx with hx | rfl
        · exact h2 x hx
        · exact (h3 c (by simp)).1
      · exact h2 x hx
theorem crashS_step {mk : List Bool} {torn : Int} {l : List Cg} {k : Nat} {s : List Bk} (hk : k < l.length) :
    crashS mk torn k (l.drop k) s = crashS mk torn (k + 1) (l.drop (k + 1)) (if mk.getD k false = true then s.set (l.getD k cg0).at_ ⟨(l.getD k cg0).to.byt, decide ((k : Int) = torn)⟩ else s) := by
  have hc : l.getD k cg0 = l[k] := by rw [List.getD_eq_getElem?_getD, List.getElem?_eq_getElem hk]; rfl
  rw [List.drop_eq_getElem_cons hk, hc]
  rfl

theorem set_torn (c : Cg) (h : c.to.ok) (b : Bool) : c.cells.toArray.setIfInBounds 65 (.bool b) = (Cg.mk c.at_ ⟨c.to.byt, b⟩).cells.toArray := by
  have hl : (byC c.to.byt).length = 64 := by rw [byC_length]; exact h
  simp only [List.setIfInBounds_toArray, Cg.cells, Bk.cells]
  congr 1
  rw [List.set_cons_succ]
  congr 1
  rw [List.set_append_right _ _ (by rw [hl]; exact Nat.le_refl _), hl]
  rfl

/-- A change's cells, in its row. -/
theorem chg_range {w : World} {g : Nat} {cur : Array Value} {t : TypeId} {l : List Cg} (h : w.heap[g]? = some (.cells cur t (0, 0))) (hr : cur.toList.take (l.length * 66) = rowOf Cg.cells l) (ho : ∀ c ∈ l, c.to.ok) (k : Nat) (hk : k < l.length) : w.rangeAt g (k * 66) (l.getD k cg0).cells := by
  intro j v hv
  have hc : (l.getD k cg0) = l[k] := by rw [List.getD_eq_getElem?_getD, List.getElem?_eq_getElem hk]; rfl
  rw [hc] at hv
  have hj : j < 66 := by
    have := (List.getElem?_eq_some_iff.1 hv).1
    rw [Cg.cells_length (ho _ (List.getElem_mem hk))] at this
    exact this
  have e := rowOf_get Cg.cells 66 l k j hk (fun x hx => Cg.cells_length (ho x hx)) hj
  rw [← hr, List.getElem?_take, if_pos (by omega)] at e
  rw [cell_of_row w g _ _ t (0, 0) h, ← Array.getElem?_toList, e]
  exact hv

end Go.Proofs.Ytcoobcfdilnkhaa
