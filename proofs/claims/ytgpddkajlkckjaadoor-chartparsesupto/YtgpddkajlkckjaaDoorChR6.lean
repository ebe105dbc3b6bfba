/-
  What chart.Parse gives, by its lines; a row of accounts that is one's own, as a slice of them.
-/
import Derived.Maps.AppendAt
import Derived.Test.YtgpddkajlkckjaaDoorChR5
namespace Go.Proofs.YtgpddkajlkckjaaDoor
set_option linter.unusedVariables false
set_option linter.unusedSimpArgs false
set_option maxRecDepth 100000
open Go.RowKit Go.Shelf

/-- The accounts of the lines that follow others, or the line that is wrong and its error. -/
def parseGo : List Ac → List (Nat × ByteArray) → List Ac × Nat × Int
  | acc, [] => (acc, 0, 0)
  | acc, x :: r => if lineBad acc x.2 = 0 then parseGo (acc ++ [lineAc acc x.2]) r else ([], x.1, lineBad acc x.2)
def parseS (t : ByteArray) : List Ac × Nat × Int := parseGo [] (linesOf t)

/-- The cells of accounts, one behind the other. -/
def rowOf (l : List Ac) : List Value := l.flatMap fun x => x.cells.toList
theorem Ac.cells_length (x : Ac) : x.cells.toList.length = 5 := rfl
theorem rowOf_length : ∀ l : List Ac, (rowOf l).length = l.length * 5
  | [] => rfl
  | x :: l => by
    have := rowOf_length l
    unfold rowOf at *
    simp only [List.flatMap_cons, List.length_append, Ac.cells_length, this, List.length_cons]
    omega
theorem rowOf_snoc (l : List Ac) (x : Ac) : rowOf (l ++ [x]) = rowOf l ++ x.cells.toList := by
  simp [rowOf]
theorem rowOf_get : ∀ (l : List Ac) (k j : Nat), k < l.length → j < 5 → (rowOf l)[k * 5 + j]? = (l.getD k ac0).cells.toList[j]?
  | [], _, _, h, _ => absurd h (by simp)
  | x :: l, 0, j, _, hj => by
    simp only [rowOf, List.flatMap_cons, Nat.zero_mul, Nat.zero_add, List.getD_cons_zero]
    rw [List.getElem?_append_left (by rw [Ac.cells_length]; exact hj)]
  | x :: l, k + 1, j, h, hj => by
    have ih := rowOf_get l k j (by simpa using h) hj
    simp only [rowOf, List.flatMap_cons, List.getD_cons_succ] at ih ⊢
    rw [List.getElem?_append_right (by rw [Ac.cells_length]; omega), Ac.cells_length, ← ih]
    congr 1
    omega

theorem row_isSl {W : World} {n0 : Nat} {e : TypeId} {v : Value} {l : List Ac} (h : W.ownsRow n0 e 5 v l.length (rowOf l)) :
    ∃ a cap, v = .slice a l.length cap ∧ IsSl W a l cap := by
  obtain ⟨hlen, ⟨rfl, h0⟩ | ⟨g, cap, cur, rfl, hb, hg, hc, hm, hs, ht⟩⟩ := h
  · have : l = [] := List.eq_nil_of_length_eq_zero h0
    subst this
    exact ⟨none, 0, rfl, Nat.le_refl _, .inl rfl⟩
  · refine ⟨_, cap, rfl, hc, .inr ⟨g, 0, rfl, (Array.getElem?_eq_some_iff.1 hg).1, ?_⟩⟩
    intro k hk
    have C : ∀ j, j < 5 → W.cell? ⟨g, 0 + k * 5 + j, none⟩ = (l.getD k ac0).cells.toList[j]? := fun j hj => by
      have e1 : (rowOf l)[k * 5 + j]? = cur[k * 5 + j]? := by
        rw [← ht, List.getElem?_take, if_pos (by omega)]
        simp
      rw [← rowOf_get l k j hk hj, e1]
      simp [World.cell?, hg]
    exact ⟨C 0 (by omega), C 1 (by omega), C 2 (by omega), C 3 (by omega), C 4 (by omega)⟩
end Go.Proofs.YtgpddkajlkckjaaDoor
