/-
  A text cut at a byte. It names no call.
-/
import Derived.Test.YtgpddkajlkckjaaDoorChB2
namespace Go.Proofs.YtgpddkajlkckjaaDoor
set_option linter.unusedVariables false
set_option linter.unusedSimpArgs false
set_option maxRecDepth 100000
open Go.RowKit

/-- The parts of a text between its bytes c. -/
def cutL (c : UInt8) : List UInt8 → List (List UInt8)
  | [] => [[]]
  | b :: r => if b = c then [] :: cutL c r else (match cutL c r with | [] => [[b]] | p :: ps => (b :: p) :: ps)
theorem cutL_ne (c : UInt8) : ∀ s, cutL c s ≠ []
  | [] => by simp [cutL]
  | b :: r => by
    rw [cutL]
    split
    · simp
    · split <;> simp
theorem cutL_miss (c : UInt8) : ∀ w : List UInt8, c ∉ w → cutL c w = [w]
  | [], _ => rfl
  | b :: r, h => by
    have h1 : b ≠ c := fun e => h (by simp [e])
    have h2 : c ∉ r := fun e => h (by simp [e])
    rw [cutL, if_neg h1, cutL_miss c r h2]
theorem cutL_hit (c : UInt8) : ∀ (w r : List UInt8), c ∉ w → cutL c (w ++ c :: r) = w :: cutL c r
  | [], r, _ => by rw [List.nil_append, cutL, if_pos rfl]
  | b :: l, r, h => by
    have h1 : b ≠ c := fun e => h (by simp [e])
    have h2 : c ∉ l := fun e => h (by simp [e])
    rw [List.cons_append, cutL, if_neg h1, cutL_hit c l r h2]
theorem cutL_length (c : UInt8) : ∀ s : List UInt8, (cutL c s).length = s.count c + 1
  | [] => rfl
  | b :: r => by
    have ih := cutL_length c r
    rw [cutL]
    split
    · rename_i h
      subst h
      simp [ih]
    · rename_i h
      rw [List.count_cons_of_ne (fun e => h e), ← ih]
      cases hc : cutL c r with
      | nil => exact absurd hc (cutL_ne c r)
      | cons p ps => rfl
theorem cutL_clean (c : UInt8) : ∀ s : List UInt8, ∀ w ∈ cutL c s, c ∉ w
  | [], w, h => by
    simp [cutL] at h
    subst h
    simp
  | b :: r, w, h => by
    have ih := cutL_clean c r
    rw [cutL] at h
    split at h
    · rcases List.mem_cons.1 h with rfl | h
      · simp
      · exact ih w h
    · rename_i hb
      cases hc : cutL c r with
      | nil => exact absurd hc (cutL_ne c r)
      | cons p ps =>
        rw [hc] at h ih
        simp only at h
        rcases List.mem_cons.1 h with rfl | h
        · have := ih p (by simp)
          intro hm
          rcases List.mem_cons.1 hm with e | e
          · exact hb e.symm
          · exact this e
        · exact ih w (by simp [h])
theorem cutL_join (c : UInt8) : ∀ s : List UInt8, joinC c (cutL c s) = s
  | [] => rfl
  | b :: r => by
    have ih := cutL_join c r
    rw [cutL]
    cases hc : cutL c r with
    | nil => exact absurd hc (cutL_ne c r)
    | cons p ps =>
      rw [hc] at ih
      split
      · rename_i h
        subst h
        show [] ++ b :: joinC b (p :: ps) = _
        rw [ih]; rfl
      · cases ps with
        | nil =>
          simp only [joinC] at ih ⊢
          rw [ih]
        | cons v t =>
          simp only [joinC] at ih ⊢
          rw [← ih]
          rfl

theorem split_length (c : UInt8) : ∀ (k : Nat) (s : List UInt8), (Lib.splitK [c] 0 k s).length = min (k + 1) (s.count c + 1)
  | 0, s => by simp [Lib.splitK]
  | k + 1, s => by
    rcases index_one_parts c s with ⟨e, hn⟩ | ⟨w, r, rfl, hn, e⟩
    · unfold Lib.splitK
      rw [if_pos (by rw [e]; rfl), List.count_eq_zero_of_not_mem hn]
      simp
    · unfold Lib.splitK
      rw [if_neg (by rw [e]; simp), e]
      have e2 : (w ++ c :: r).drop ((w.length : Int).toNat + [c].length) = r := by simp
      rw [e2, List.length_cons, split_length c k r, List.count_append, List.count_eq_zero_of_not_mem hn, List.count_cons_self]
      omega
/-- The words of a line, by either way of cutting. -/
theorem words_five (s : ByteArray) : (match wordsOf s with | [a, b, c, d, e] => ofWords a b c d e | _ => none) = (match (cutL 32 (cutNl s).data.toList).map txt with | [a, b, c, d, e] => ofWords a b c d e | _ => none) := by
  obtain ⟨t, ht⟩ : ∃ t, (cutNl s).data.toList = t := ⟨_, rfl⟩
  have hsz : (cutNl s).size = t.length := by rw [← ht]; simp
  have hw : (wordsOf s).map (·.data.toList) = Lib.splitK [32] 0 (min 6 (t.length + 1) - 1) t := by
    unfold wordsOf
    rw [Lib.splitB_data, ht, hsz]
  have hl : (wordsOf s).length = min (min 6 (t.length + 1) - 1 + 1) (t.count 32 + 1) := by
    have := congrArg List.length hw
    rw [List.length_map] at this
    rw [this, split_length]
  have hcl := cutL_length 32 t
  have hcnt : t.count 32 ≤ t.length := List.count_le_length
  rw [ht]
  by_cases h5 : t.count 32 ≤ 5
  · have : wordsOf s = (cutL 32 t).map txt := by
      apply map_data_inj
      rw [hw]
      have := join_split 32 (cutL 32 t) (min 6 (t.length + 1) - 1) (cutL_ne 32 t) (by rw [hcl]; omega) (fun w hw => cutL_clean 32 t w hw)
      rw [cutL_join] at this
      rw [this, List.map_map]
      have : ((fun x : ByteArray => x.data.toList) ∘ txt) = id := by funext l; rfl
      rw [this, List.map_id]
    rw [this]
  · have e1 : (wordsOf s).length ≠ 5 := by rw [hl]; omega
    have e2 : ((cutL 32 t).map txt).length ≠ 5 := by rw [List.length_map, hcl]; omega
    have key : ∀ ws : List ByteArray, ws.length ≠ 5 → (match ws with | [a, b, c, d, e] => ofWords a b c d e | _ => none) = none := by
      intro ws h
      split
      · exact absurd rfl h
      · rfl
    rw [key _ e1, key _ e2]
end Go.Proofs.YtgpddkajlkckjaaDoor
