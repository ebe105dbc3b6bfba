/-
  Texts cut at one byte, and joined again. It names no call.
-/
import Derived.Test.YtgpddkajlkckjaaDoorProg
import Derived.Lib.Split
import Derived.Lib.Join
namespace Go.Proofs.YtgpddkajlkckjaaDoor
set_option linter.unusedVariables false
set_option linter.unusedSimpArgs false

theorem index_one_miss (c : UInt8) : ∀ w : List UInt8, c ∉ w → Lib.index w [c] = -1
  | [], _ => rfl
  | b :: l, h => by
    have h1 : c ≠ b := fun e => h (by simp [e])
    have h2 : c ∉ l := fun e => h (by simp [e])
    unfold Lib.index
    rw [if_neg (by simp [List.isPrefixOf, h1]), index_one_miss c l h2]
    rfl
theorem index_one_hit (c : UInt8) : ∀ (w r : List UInt8), c ∉ w → Lib.index (w ++ c :: r) [c] = w.length
  | [], r, _ => by
    show Lib.index (c :: r) [c] = 0
    unfold Lib.index
    rw [if_pos (by simp [List.isPrefixOf])]
  | b :: l, r, h => by
    have h1 : c ≠ b := fun e => h (by simp [e])
    have h2 : c ∉ l := fun e => h (by simp [e])
    show Lib.index (b :: (l ++ c :: r)) [c] = _
    unfold Lib.index
    rw [if_neg (by simp [List.isPrefixOf, h1]), index_one_hit c l r h2, if_neg (by simp)]
    simp
theorem index_one_parts (c : UInt8) : ∀ s : List UInt8, (Lib.index s [c] = -1 ∧ c ∉ s) ∨ ∃ w r, s = w ++ c :: r ∧ c ∉ w ∧ Lib.index s [c] = w.length
  | [] => .inl ⟨rfl, by simp⟩
  | b :: l => by
    by_cases h : b = c
    · subst h
      exact .inr ⟨[], l, rfl, by simp, index_one_hit b [] l (by simp)⟩
    · rcases index_one_parts c l with ⟨e, hn⟩ | ⟨w, r, rfl, hn, e⟩
      · have hm : c ∉ b :: l := by
          intro hh
          rcases List.mem_cons.1 hh with e | e
          · exact h e.symm
          · exact hn e
        exact .inl ⟨index_one_miss c _ hm, hm⟩
      · have hm : c ∉ b :: w := by
          intro hh
          rcases List.mem_cons.1 hh with e | e
          · exact h e.symm
          · exact hn e
        exact .inr ⟨b :: w, r, rfl, hm, index_one_hit c (b :: w) r hm⟩

/-- Words joined by a byte. -/
def joinC (c : UInt8) : List (List UInt8) → List UInt8
  | [] => []
  | [w] => w
  | w :: v :: r => w ++ c :: joinC c (v :: r)
theorem joinC_eq (c : UInt8) : ∀ ws : List (List UInt8), Lib.join ws [c] = joinC c ws
  | [] => by simp [Lib.join, joinC, List.intercalate]
  | [w] => by simp [Lib.join, joinC, List.intercalate]
  | w :: v :: r => by
    have := joinC_eq c (v :: r)
    simp [Lib.join, joinC, List.intercalate] at this ⊢
    exact this

/-- What is cut is, joined again, what it was. -/
theorem split_join (c : UInt8) : ∀ (k : Nat) (s : List UInt8), joinC c (Lib.splitK [c] 0 k s) = s ∧ Lib.splitK [c] 0 k s ≠ []
  | 0, s => ⟨rfl, by simp [Lib.splitK]⟩
  | k + 1, s => by
    rcases index_one_parts c s with ⟨e, hn⟩ | ⟨w, r, rfl, hn, e⟩
    · unfold Lib.splitK
      rw [if_pos (by rw [e]; rfl)]
      exact ⟨rfl, by simp⟩
    · unfold Lib.splitK
      rw [if_neg (by rw [e]; simp), e]
      have e1 : (w ++ c :: r).take ((w.length : Int).toNat + 0) = w := by simp
      have e2 : (w ++ c :: r).drop ((w.length : Int).toNat + [c].length) = r := by
        simp
      rw [e1, e2]
      obtain ⟨h1, h2⟩ := split_join c k r
      refine ⟨?_, by simp⟩
      cases hs : Lib.splitK [c] 0 k r with
      | nil => exact absurd hs h2
      | cons v t =>
        rw [hs] at h1
        show w ++ c :: joinC c (v :: t) = _
        rw [h1]
/-- Words without the byte, joined and cut again, are what they were. -/
theorem join_split (c : UInt8) : ∀ (ws : List (List UInt8)) (k : Nat), ws ≠ [] → ws.length ≤ k + 1 → (∀ w ∈ ws, c ∉ w) → Lib.splitK [c] 0 k (joinC c ws) = ws
  | [], _, h, _, _ => absurd rfl h
  | [w], k, _, _, hw => by
    have hn := hw w (by simp)
    cases k with
    | zero => rfl
    | succ k =>
      show Lib.splitK [c] 0 (k + 1) w = [w]
      unfold Lib.splitK
      rw [if_pos (by rw [index_one_miss c w hn]; rfl)]
  | w :: v :: r, k, _, hk, hw => by
    have hn := hw w (by simp)
    obtain ⟨k, rfl⟩ : ∃ k', k = k' + 1 := ⟨k - 1, by simp at hk; omega⟩
    show Lib.splitK [c] 0 (k + 1) (w ++ c :: joinC c (v :: r)) = _
    have e := index_one_hit c w (joinC c (v :: r)) hn
    unfold Lib.splitK
    rw [if_neg (by rw [e]; simp), e]
    have e1 : (w ++ c :: joinC c (v :: r)).take ((w.length : Int).toNat + 0) = w := by simp
    have e2 : (w ++ c :: joinC c (v :: r)).drop ((w.length : Int).toNat + [c].length) = joinC c (v :: r) := by simp
    rw [e1, e2, join_split c (v :: r) k (by simp) (by simp at hk ⊢; omega) (fun x hx => hw x (by simp at hx ⊢; exact .inr hx))]
end Go.Proofs.YtgpddkajlkckjaaDoor
