/-
  A line that is written is read as it was, and what a line is read as is written as that line. It names no call.
-/
import Derived.Test.YtgpddkajlkckjaaDoorChB0
import Derived.Test.YtgpddkajlkckjaaDoorChR4
import Derived.Test.YtgpddkajlkckjaaDoorChT1
namespace Go.Proofs.YtgpddkajlkckjaaDoor
set_option linter.unusedVariables false
set_option linter.unusedSimpArgs false
set_option maxRecDepth 100000
open Go.RowKit

theorem kindB_of {c : ByteArray} (h : kindOf c ≠ 0) : kindB (kindOf c) = c := by
  unfold kindOf at *
  by_cases h1 : c = ⟨#[65]⟩
  · subst h1; rfl
  by_cases h2 : c = ⟨#[76]⟩
  · subst h2; rfl
  by_cases h3 : c = ⟨#[69]⟩
  · subst h3; rfl
  by_cases h4 : c = ⟨#[73]⟩
  · subst h4; rfl
  by_cases h5 : c = ⟨#[88]⟩
  · subst h5; rfl
  · simp [h1, h2, h3, h4, h5] at h
theorem kindOf_B {k : Int} (h1 : 1 ≤ k) (h2 : k ≤ 5) : kindOf (kindB k) = k := by
  rcases (by omega : k = 1 ∨ k = 2 ∨ k = 3 ∨ k = 4 ∨ k = 5) with rfl | rfl | rfl | rfl | rfl <;> decide

theorem bytes_of {p : Nat → Bool} (hp : ∀ r, p r = true → r < 128) {most : Nat} {s : ByteArray} (h : madeOf p most s = true) : ∀ b ∈ s.data.toList, p b.toNat = true := by
  intro b hb
  obtain ⟨i, hi, rfl⟩ := List.getElem_of_mem hb
  have hi' : i < s.size := hi
  have := ((madeOf_iff hp).1 h).2.2 i hi'
  have e : s.get! i = s.data[i]'hi' := getElem!_pos s.data i hi'
  rw [e] at this
  simpa using this
theorem code_clean {s : ByteArray} (h : isCodeB s = true) : ∀ b ∈ s.data.toList, b ≠ 32 ∧ b ≠ 10 := fun b hb => by
  have := bytes_of (fun r => digR_low) h b hb
  constructor <;> (rintro rfl; simp [digR] at this)
theorem name_clean {s : ByteArray} (h : isNameB s = true) : ∀ b ∈ s.data.toList, b ≠ 32 ∧ b ≠ 10 := fun b hb => by
  have := bytes_of (fun r => namR_low) h b hb
  constructor <;> (rintro rfl; simp [namR, digR] at this)

/-- What is asked of an account that is written. -/
structure AcWell (x : Ac) : Prop where
  code : isCodeB x.code = true
  name : isNameB x.name = true
  k1 : 1 ≤ x.kind
  k2 : x.kind ≤ 5
  par : x.par.size = 0 ∨ isCodeB x.par = true

theorem kindB_clean (k : Int) : ∀ b ∈ (kindB k).data.toList, b ≠ 32 ∧ b ≠ 10 := by
  unfold kindB
  split
  · decide
  · split
    · decide
    · split
      · decide
      · split <;> decide
theorem monB_clean (m : Bool) : ∀ b ∈ (monB m).data.toList, b ≠ 32 ∧ b ≠ 10 := by cases m <;> decide
theorem parB_clean {p : ByteArray} (h : p.size = 0 ∨ isCodeB p = true) : ∀ b ∈ (parB p).data.toList, b ≠ 32 ∧ b ≠ 10 := by
  unfold parB
  by_cases h0 : p.size = 0
  · rw [if_pos h0]; decide
  · rw [if_neg h0]
    rcases h with h | h
    · exact absurd h h0
    · exact code_clean h
theorem words_clean {x : Ac} (h : AcWell x) : ∀ w ∈ (wordsB x).map (·.data.toList), ∀ b ∈ w, b ≠ 32 ∧ b ≠ 10 := by
  intro w hw
  simp only [wordsB, List.map_cons, List.map_nil, List.mem_cons, List.not_mem_nil, or_false] at hw
  rcases hw with rfl | rfl | rfl | rfl | rfl
  · exact code_clean h.code
  · exact name_clean h.name
  · exact kindB_clean _
  · exact monB_clean _
  · exact parB_clean h.par

theorem suffix_nl (l : List UInt8) : Lib.hasSuffix (l ++ [10]) [10] = true := by
  unfold Lib.hasSuffix
  exact List.isSuffixOf_iff_suffix.2 ⟨l, rfl⟩
theorem cutNl_txt (l : List UInt8) : cutNl (txt (l ++ [10])) = txt l := by
  unfold cutNl Lib.trimSuffix
  rw [txt_list, if_pos (suffix_nl l)]
  simp [txt]
theorem cutNl_back {s : ByteArray} (h : Lib.hasSuffix s.data.toList [10] = true) : s.data.toList = (cutNl s).data.toList ++ [10] := by
  unfold Lib.hasSuffix at h
  obtain ⟨l, hl⟩ := List.isSuffixOf_iff_suffix.1 h
  have : cutNl s = txt l := by
    have e : s = txt (l ++ [10]) := by rw [txt_of s, ← hl]
    rw [e, cutNl_txt]
  rw [this, ← hl]; rfl

theorem map_data_inj : ∀ {a b : List ByteArray}, a.map (·.data.toList) = b.map (·.data.toList) → a = b
  | [], [], _ => rfl
  | [], _ :: _, h => by simp at h
  | _ :: _, [], h => by simp at h
  | x :: a, y :: b, h => by
    simp only [List.map_cons, List.cons.injEq] at h
    rw [map_data_inj h.2, txt_of x, txt_of y, h.1]

theorem read_line {x : Ac} (h : AcWell x) : readS (txt (lineL x)) = some x := by
  have hw : wordsOf (txt (lineL x)) = wordsB x := by
    apply map_data_inj
    unfold wordsOf
    rw [Lib.splitB_data]
    unfold lineL
    rw [cutNl_txt, txt_list, joinC_eq]
    have hl : 5 ≤ (joinC 32 ((wordsB x).map (·.data.toList))).length := by
      simp only [wordsB, List.map_cons, List.map_nil, joinC, List.length_append, List.length_cons, kindB_size, monB_size]
      omega
    have hk : min 6 ((txt (joinC 32 ((wordsB x).map (·.data.toList)))).size + 1) - 1 = 5 := by rw [txt_size]; omega
    rw [hk]
    exact join_split 32 _ 5 (by simp [wordsB]) (by simp [wordsB]) (fun w hw hb => (words_clean h w hw 32 hb).1 rfl)
  unfold readS
  rw [hw]
  have hs : Lib.hasSuffix (txt (lineL x)).data.toList [10] = true := by rw [txt_list]; exact suffix_nl _
  rw [if_pos hs]
  show ofWords x.code x.name (kindB x.kind) (monB x.mon) (parB x.par) = some x
  obtain ⟨a, b, k, p, m⟩ := x
  have hk := kindOf_B h.k1 h.k2
  simp only at hk ⊢
  unfold ofWords
  rw [hk]
  have h1 := h.k1
  simp only at h1
  have hm : (monB m = ⟨#[109]⟩ ∨ monB m = ⟨#[45]⟩) ∧ decide (monB m = ⟨#[109]⟩) = m := by cases m <;> decide
  have hp : ((decide (parB p = ⟨#[45]⟩) || isCodeB (parB p)) = true) ∧ (if parB p = ⟨#[45]⟩ then (⟨#[]⟩ : ByteArray) else parB p) = p := by
    unfold parB
    by_cases h0 : p.size = 0
    · rw [if_pos h0]
      refine ⟨by decide, ?_⟩
      rw [if_pos rfl]
      have : p.data.toList = [] := List.eq_nil_of_length_eq_zero h0
      rw [txt_of p, this]; rfl
    · rw [if_neg h0]
      have hc : isCodeB p = true := by
        rcases h.par with h' | h'
        · exact absurd h' h0
        · exact h'
      have hne : p ≠ ⟨#[45]⟩ := fun e => by
        rw [e] at hc
        exact absurd (bytes_of (fun r => digR_low) hc 45 (by decide)) (by decide)
      exact ⟨by rw [hc]; simp, by rw [if_neg hne]⟩
  rw [if_pos ⟨by omega, hm.1, hp.1⟩, hm.2, hp.2]

theorem read_back {s : ByteArray} {x : Ac} (h : readS s = some x) : s = txt (lineL x) := by
  unfold readS at h
  split at h
  · rename_i hs
    split at h
    · rename_i a b c d e hw
      unfold ofWords at h
      split at h
      · rename_i hh
        obtain ⟨h1, h2, h3⟩ := hh
        cases h
        have hj : joinC 32 ([a, b, c, d, e].map (·.data.toList)) = (cutNl s).data.toList := by
          rw [← hw]
          unfold wordsOf
          rw [Lib.splitB_data]
          exact (split_join 32 _ _).1
        have hm : monB (decide (d = ⟨#[109]⟩)) = d := by
          rcases h2 with rfl | rfl <;> decide
        have hp : parB (if e = ⟨#[45]⟩ then ⟨#[]⟩ else e) = e := by
          by_cases he : e = ⟨#[45]⟩
          · rw [if_pos he, he]; rfl
          · rw [if_neg he]
            unfold parB
            rw [if_neg]
            have hc : isCodeB e = true := by simpa [he] using h3
            exact ((madeOf_iff (fun r => digR_low)).1 hc).1
        rw [txt_of s, cutNl_back hs, ← hj]
        unfold lineL wordsB
        rw [joinC_eq]
        simp only
        rw [kindB_of h1, hm, hp]
      · cases h
    · cases h
  · cases h
end Go.Proofs.YtgpddkajlkckjaaDoor
