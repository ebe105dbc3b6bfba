/-
  Sums of lines: what is alike put together keeps them. It names no call.
-/
import Derived.Test.YtffekgndlhleiaaDoorEn9
namespace Go.Proofs.YtffekgndlhleiaaDoor
set_option linter.unusedVariables false
set_option linter.unusedSimpArgs false
open Go.RowKit Go.Lib

/-- The sum of those amounts that are asked for. -/
def tot (p : Ln → Bool) : List Ln → Int
  | [] => 0
  | x :: l => (if p x = true then x.amt else 0) + tot p l
/-- Only account and currency are asked. -/
def KeyP (p : Ln → Bool) : Prop := ∀ x y, lnEq x y = true → p x = p y

theorem lnEq_refl (x : Ln) : lnEq x x = true := lnEq_iff.2 ⟨rfl, rfl⟩
theorem lnEq_symm {x y : Ln} (h : lnEq x y = true) : lnEq y x = true := by
  obtain ⟨h1, h2⟩ := lnEq_iff.1 h
  exact lnEq_iff.2 ⟨h1.symm, h2.symm⟩
theorem keyP_eq (x : Ln) : KeyP (lnEq x) := fun a b h => by
  obtain ⟨h1, h2⟩ := lnEq_iff.1 h
  unfold lnEq
  rw [h1, h2]

theorem tot_append (p : Ln → Bool) : ∀ l m : List Ln, tot p (l ++ m) = tot p l + tot p m
  | [], m => by simp [tot]
  | x :: l, m => by
    rw [List.cons_append, tot, tot, tot_append p l m]
    omega
theorem tot_ins {p : Ln → Bool} (hp : KeyP p) (x : Ln) : ∀ l : List Ln, tot p (insL x l) = tot p l + (if p x = true then x.amt else 0)
  | [] => by simp [insL, tot]
  | y :: l => by
    rw [insL]
    split
    · rw [tot, tot, tot_ins hp x l]; omega
    · split
      · rename_i h1 h2
        rw [tot, tot]
        have e1 : p ⟨y.acc, y.cur, y.amt + x.amt⟩ = p y := hp _ _ (lnEq_iff.2 ⟨rfl, rfl⟩)
        have e2 : p x = p y := (hp _ _ h2).symm
        rw [e1, e2]
        split
        · simp only; omega
        · omega
      · rw [tot, tot]; omega
theorem tot_grp_from {p : Ln → Bool} (hp : KeyP p) : ∀ l r : List Ln, tot p (l.foldl (fun r x => insL x r) r) = tot p r + tot p l
  | [], r => by simp [tot]
  | x :: l, r => by
    rw [List.foldl_cons, tot_grp_from hp l, tot_ins hp, tot]
    omega
theorem tot_grp {p : Ln → Bool} (hp : KeyP p) (l : List Ln) : tot p (grp l) = tot p l := by
  have := tot_grp_from hp l []
  simpa [grp, tot] using this
theorem tot_turn {p : Ln → Bool} (hp : KeyP p) : ∀ l : List Ln, tot p (l.map turnL) = -tot p l
  | [] => rfl
  | x :: l => by
    rw [List.map_cons, tot, tot, tot_turn hp l]
    have e : p (turnL x) = p x := hp _ _ (lnEq_iff.2 ⟨rfl, rfl⟩)
    rw [e]
    simp only [turnL]
    split <;> omega
theorem tot_none {p : Ln → Bool} : ∀ {l : List Ln}, (∀ x ∈ l, p x = false) → tot p l = 0
  | [], _ => rfl
  | x :: l, h => by
    rw [tot, tot_none (fun y hy => h y (by simp [hy])), h x (by simp)]
    rfl
theorem tot_null (p : Ln → Bool) : ∀ {l : List Ln}, (∀ x ∈ l, x.amt = 0) → tot p l = 0
  | [], _ => rfl
  | x :: l, h => by
    rw [tot, tot_null p (fun y hy => h y (by simp [hy])), h x (by simp)]
    simp
theorem tot_sort : ∀ {l : List Ln}, SortL l → ∀ y ∈ l, tot (lnEq y) l = y.amt
  | [], _, y, hy => by simp at hy
  | z :: l, h, y, hy => by
    have h1 : ∀ x ∈ l, lnLt z x = true := (List.pairwise_cons.1 h).1
    have h2 : SortL l := (List.pairwise_cons.1 h).2
    rw [tot]
    rcases List.mem_cons.1 hy with rfl | hy
    · rw [if_pos (lnEq_refl _), tot_none (fun x hx => ?_)]
      · omega
      · cases hh : lnEq y x
        · rfl
        · have := h1 x hx
          rw [lnLt_eq hh] at this
          cases this
    · have : lnEq y z = false := by
        cases hh : lnEq y z
        · rfl
        · have := h1 y hy
          rw [lnLt_eq (lnEq_symm hh)] at this
          cases this
      rw [this, tot_sort h2 y hy]
      simp
/-- What is alike together is nothing if, and only if, each sum is. -/
theorem grp_null {l : List Ln} : (∀ y ∈ grp l, y.amt = 0) ↔ ∀ p, KeyP p → tot p l = 0 := by
  constructor
  · intro h p hp
    rw [← tot_grp hp l]
    exact tot_null p h
  · intro h y hy
    rw [← tot_sort (grp_sort l) y hy, tot_grp (keyP_eq y)]
    exact h _ (keyP_eq y)
/-- Each currency's sum is nothing. -/
def evenL (l : List Ln) : Prop := ∀ p, KeyP p → tot p (l.map bareL) = 0
theorem even_iff {l : List Ln} : ((curSums l).any fun x => !nullL x) = false ↔ evenL l := by
  unfold evenL
  rw [← grp_null, List.any_eq_false]
  unfold curSums
  constructor
  · intro h y hy
    have := h y hy
    simpa [nullL] using this
  · intro h y hy
    have := h y hy
    simp [nullL, this]
theorem even_append {l m : List Ln} (h1 : evenL l) (h2 : evenL m) : evenL (l ++ m) := fun p hp => by
  rw [List.map_append, tot_append, h1 p hp, h2 p hp]
  rfl
theorem bare_turn (l : List Ln) : (l.map turnL).map bareL = (l.map bareL).map turnL := by
  rw [List.map_map, List.map_map]
  rfl
theorem even_turn {l : List Ln} (h : evenL l) : evenL (l.map turnL) := fun p hp => by
  rw [bare_turn, tot_turn hp, h p hp]
  rfl
end Go.Proofs.YtffekgndlhleiaaDoor
