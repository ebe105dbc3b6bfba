/-
  Numbers alone: the order by what was cut off, and rows of numbers of parts.
-/
import Derived.Test.YtojmnfckijgofaaSrt0
import Derived.Test.YtojmnfckijgofaaSrt2
namespace Go.Proofs.Ytojmnfckijgofaa
set_option linter.unusedVariables false
set_option linter.unusedSimpArgs false
open Go.RowKit Go.Lib

/-- Who was cut more stands ahead; of two alike who stood ahead. -/
def LT (cut : List Int) (i j : Nat) : Prop := cut.getD j 0 < cut.getD i 0 ∨ (cut.getD i 0 = cut.getD j 0 ∧ i < j)
theorem LT.trans {cut : List Int} {i j k : Nat} (h : LT cut i j) (h' : LT cut j k) : LT cut i k := by unfold LT at *; omega
theorem cutC_neg (cut : List Int) (x y : Nat) : cutC cut x y < 0 ↔ cut.getD y 0 < cut.getD x 0 := by
  unfold cutC cmpN
  constructor
  · intro h
    split at h
    · assumption
    · split at h <;> omega
  · intro h
    rw [if_pos h]
    omega
/-- Numbers of parts, as ints. -/
def toI (l : List Nat) : List Int := l.map fun (i : Nat) => (i : Int)
theorem toI_len (l : List Nat) : (toI l).length = l.length := by simp [toI]
theorem toI_app (a b : List Nat) : toI (a ++ b) = toI a ++ toI b := by simp [toI]
theorem toI_at (B : List Nat) (y : Nat) (R : List Nat) : (toI (B ++ (y :: R))).getD B.length 0 = (y : Int) := by
  simp [toI, List.getD_eq_getElem?_getD]
theorem adj_swap (B : List Nat) (x y : Nat) (R : List Nat) : ((toI (B ++ (x :: y :: R))).set (B.length + 1) (x : Int)).set B.length (y : Int) = toI (B ++ (y :: x :: R)) := by
  rw [toI_app, toI_app, List.set_append_right _ _ (by rw [toI_len]; omega), List.set_append_right _ _ (by rw [toI_len]; omega), toI_len, show B.length + 1 - B.length = 1 by omega, Nat.sub_self]
  rfl
theorem put_sorted {cut : List Int} {P Q : List Nat} {x : Nat} (h : (P ++ Q).Pairwise (LT cut)) (hQ : ∀ z ∈ Q, LT cut x z) (hP : ∀ z ∈ P, LT cut z x) : (P ++ (x :: Q)).Pairwise (LT cut) := by
  obtain ⟨h1, h2, h3⟩ := List.pairwise_append.1 h
  rw [List.pairwise_append]
  refine ⟨h1, List.pairwise_cons.2 ⟨hQ, h2⟩, ?_⟩
  intro a ha b hb
  rcases List.mem_cons.1 hb with rfl | hb
  · exact hP a ha
  · exact h3 a ha b hb
theorem all_ahead {cut : List Int} {P : List Nat} {x y : Nat} (h : (P ++ [y]).Pairwise (LT cut)) (hy : LT cut y x) : ∀ z ∈ P ++ [y], LT cut z x := by
  intro z hz
  rcases List.mem_append.1 hz with hz | hz
  · exact ((List.pairwise_append.1 h).2.2 z hz y (by simp)).trans hy
  · rw [List.mem_singleton.1 hz]; exact hy
end Go.Proofs.Ytojmnfckijgofaa
