/-
  What is under all that have no parent is all: the sums, as numbers alone.
-/
import Derived.Test.YtcpaaaidjmfibaaDoorCh10
namespace Go.Proofs.YtcpaaaidjmfibaaDoor
set_option linter.unusedVariables false
set_option linter.unusedSimpArgs false
open Go.RowKit Go.Lib Math

theorem sum_pick {α : Type} (p : α → Bool) (f : α → Int) : ∀ L : List α, ((L.filter p).map f).sum = (L.map fun x => if p x = true then f x else 0).sum
  | [] => rfl
  | x :: L => by
    have ih := sum_pick p f L
    by_cases h : p x = true
    · rw [List.filter_cons_of_pos h, List.map_cons, List.map_cons, List.sum_cons, List.sum_cons, ih, if_pos h]
    · rw [List.filter_cons_of_neg h, List.map_cons, List.sum_cons, ih, if_neg h]; omega

theorem sum_plus {α : Type} (f g : α → Int) : ∀ L : List α, (L.map fun x => f x + g x).sum = (L.map f).sum + (L.map g).sum
  | [] => rfl
  | x :: L => by
    have ih := sum_plus f g L
    simp only [List.map_cons, List.sum_cons]
    rw [ih]; omega

theorem sum_zero' {α : Type} (f : α → Int) : ∀ L : List α, (∀ x ∈ L, f x = 0) → (L.map f).sum = 0
  | [], _ => rfl
  | x :: L, h => by
    rw [List.map_cons, List.sum_cons, h x List.mem_cons_self, sum_zero' f L (fun y hy => h y (List.mem_cons_of_mem _ hy))]; rfl

theorem sum_swap {α β : Type} (g : α → β → Int) (M : List β) : ∀ L : List α, (L.map fun i => (M.map (g i)).sum).sum = (M.map fun k => (L.map fun i => g i k).sum).sum
  | [] => by
    symm
    exact sum_zero' _ M (fun _ _ => rfl)
  | x :: L => by
    rw [List.map_cons, List.sum_cons, sum_swap g M L, ← sum_plus]
    rfl

theorem sum_one (p : Nat → Bool) (c : Int) (r : Nat) : ∀ n, r < n → p r = true → (∀ i, i < n → p i = true → i = r) → ((List.range n).map fun i => if p i = true then c else 0).sum = c
  | 0, h, _, _ => absurd h (Nat.not_lt_zero _)
  | n + 1, h, hr, hu => by
    rw [List.range_succ, List.map_append, List.sum_append]
    by_cases e : r = n
    · subst e
      rw [sum_zero' _ _ (fun i hi => by
        have := List.mem_range.1 hi
        rw [if_neg (fun hp => by have := hu i (by omega) hp; omega)])]
      simp [hr]
    · rw [sum_one p c r n (by omega) hr (fun i hi => hu i (by omega))]
      have : p n ≠ true := fun hp => e (hu n (by omega) hp).symm
      simp [this]

/-- Has it no parent? -/
def isTop (l : List Ac) (i : Nat) : Bool := decide ((l.getD i ac0).par.size = 0)
theorem isTop_iff {l : List Ac} {i : Nat} : isTop l i = true ↔ parOf l i = none := by rw [parOf_none]; simp [isTop]

def topsL (l : List Ac) (am : List Int) (k : Nat) : List Int := ((List.range k).filter (isTop l)).map (rollI l am)

theorem topsL_succ (l : List Ac) (am : List Int) (k : Nat) : topsL l am (k + 1) = topsL l am k ++ if isTop l k = true then [rollI l am k] else [] := by
  unfold topsL
  rw [List.range_succ, List.filter_append, List.map_append]
  congr 1
  by_cases h : isTop l k = true
  · rw [if_pos h, List.filter_cons_of_pos h]; rfl
  · rw [if_neg h, List.filter_cons_of_neg h]; rfl

theorem range_getD (am : List Int) : (List.range am.length).map (fun j => am.getD j 0) = am := by
  apply List.ext_getElem
  · simp
  · intro i h1 h2
    simp [h2]

theorem rollI_eq {l : List Ac} (h : chBad l = 0) (am : List Int) {i : Nat} (hi : i < l.length) : rollI l am i = ((List.range l.length).map fun k => if isU l i k = true then am.getD k 0 else 0).sum := by
  unfold rollI
  rw [und_eq h hi]
  exact sum_pick _ _ _

theorem tops_sum {l : List Ac} (h : chBad l = 0) {am : List Int} (hal : am.length = l.length) : (topsL l am l.length).sum = am.sum := by
  unfold topsL
  rw [sum_pick]
  have e1 : ((List.range l.length).map fun i => if isTop l i = true then rollI l am i else 0) = (List.range l.length).map fun i => ((List.range l.length).map fun k => if (isTop l i && isU l i k) = true then am.getD k 0 else 0).sum := by
    apply List.map_congr_left
    intro i hi
    have hi := List.mem_range.1 hi
    by_cases ht : isTop l i = true
    · rw [if_pos ht, rollI_eq h am hi]
      simp [ht]
    · rw [if_neg ht]
      symm
      apply sum_zero'
      intro k _
      simp [ht]
  rw [e1, sum_swap]
  have e2 : ((List.range l.length).map fun k => ((List.range l.length).map fun i => if (isTop l i && isU l i k) = true then am.getD k 0 else 0).sum) = (List.range l.length).map fun k => am.getD k 0 := by
    apply List.map_congr_left
    intro k hk
    have hk := List.mem_range.1 hk
    obtain ⟨r, hr, ht, hu⟩ := root_ex h (k + 1) k (by omega) hk
    refine sum_one (fun i => isTop l i && isU l i k) _ r l.length (by omega) (by rw [Bool.and_eq_true]; exact ⟨isTop_iff.2 ht, hu⟩) (fun i hi hp => ?_)
    rw [Bool.and_eq_true] at hp
    exact root_one h (isTop_iff.1 hp.1) ht (k + 1) k (by omega) hk hp.2 hu
  rw [e2, ← hal, range_getD]

theorem topsL_len (l : List Ac) (am : List Int) (k : Nat) : (topsL l am k).length ≤ k := by
  unfold topsL
  rw [List.length_map]
  have := List.length_filter_le (isTop l) (List.range k)
  simpa using this

theorem fit_of {l : List Ac} {am : List Int} {n i : Nat} (h : rollOk l am n = true) (hi : i < n) : I64 (rollI l am i) := by
  unfold rollOk at h
  have := List.all_eq_true.1 h i (List.mem_range.2 hi)
  simpa [fitB, I64] using this

theorem topsL_fit {l : List Ac} {am : List Int} (h : rollOk l am l.length = true) : ∀ i, i < (topsL l am l.length).length → I64 ((topsL l am l.length).getD i 0) := by
  intro i hi
  have hm : (topsL l am l.length).getD i 0 ∈ topsL l am l.length := by
    rw [List.getD_eq_getElem?_getD, List.getElem?_eq_getElem hi]
    exact List.getElem_mem hi
  unfold topsL at hm
  rw [List.mem_map] at hm
  obtain ⟨j, hj, e⟩ := hm
  unfold topsL
  rw [← e]
  exact fit_of h (List.mem_range.1 (List.mem_filter.1 hj).1)

theorem rollI_leaf {l : List Ac} (h : chBad l = 0) (am : List Int) {i : Nat} (hi : i < l.length) (h1 : (undL l i).length = 1) : rollI l am i = am.getD i 0 := by
  obtain ⟨r, hr⟩ := undL_head h hi
  rw [hr] at h1
  have : r = [] := List.eq_nil_of_length_eq_zero (by simpa using h1)
  unfold rollI
  rw [und_eq h hi, hr, this]
  simp

theorem rollBad_zero {l : List Ac} {am : List Int} (h : rollBad l am = 0) : chBad l = 0 ∧ am.length = l.length ∧ rollOk l am l.length = true := by
  unfold rollBad at h
  split at h
  · omega
  · split at h
    · omega
    · split at h
      · exact ⟨by omega, by omega, by assumption⟩
      · omega
end Go.Proofs.YtcpaaaidjmfibaaDoor
