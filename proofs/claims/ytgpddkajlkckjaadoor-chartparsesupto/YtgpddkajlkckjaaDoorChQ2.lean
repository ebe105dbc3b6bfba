/-
  A text read part by part, against the same text read line by line. It names no call.
-/
import Derived.Test.YtgpddkajlkckjaaDoorChQ1
namespace Go.Proofs.YtgpddkajlkckjaaDoor
set_option linter.unusedVariables false
set_option linter.unusedSimpArgs false
set_option maxRecDepth 100000
open Go.RowKit

/-- The account of a part. -/
def partAc (p : List UInt8) : Option Ac := match (cutL 32 p).map txt with | [a, b, c, d, e] => ofWords a b c d e | _ => none
theorem read_part (p : List UInt8) : readS (txt (p ++ [10])) = partAc p := by
  unfold readS partAc
  rw [if_pos (by rw [txt_list]; exact suffix_nl p)]
  have := words_five (txt (p ++ [10]))
  rw [cutNl_txt, txt_list] at this
  exact this
theorem read_open {s : List UInt8} (h : (10 : UInt8) ∉ s) : readS (txt s) = none := by
  unfold readS
  rw [if_neg]
  intro hs
  rw [txt_list] at hs
  unfold Lib.hasSuffix at hs
  obtain ⟨l, hl⟩ := List.isSuffixOf_iff_suffix.1 hs
  exact h (by rw [← hl]; simp)
/-- What is wrong with a part that follows others. -/
def partBad (pre : List Ac) (p : List UInt8) : Int :=
  match partAc p with
  | none => 2
  | some x => if 60 ≤ pre.length then 4 else nextBad pre x
theorem part_bad (pre : List Ac) (p : List UInt8) : lineBad pre (txt (p ++ [10])) = partBad pre p := by
  unfold lineBad partBad
  rw [read_part]
  cases partAc p <;> rfl
/-- The accounts of the parts that follow others, or the part that is wrong and its error. -/
def partsGo : List Ac → Nat → List (List UInt8) → List Ac × Nat × Int
  | acc, _, [] => (acc, 0, 0)
  | acc, i, [p] => if p = [] then (acc, 0, 0) else ([], i, 2)
  | acc, i, p :: q :: r => if partBad acc p = 0 then partsGo (acc ++ [(partAc p).getD ac0]) (i + 1) (q :: r) else ([], i, partBad acc p)

theorem indexByte_miss (c : UInt8) : ∀ w : List UInt8, c ∉ w → Lib.indexByte w c = -1
  | [], _ => rfl
  | b :: l, h => by
    have h1 : b ≠ c := fun e => h (by simp [e])
    have h2 : c ∉ l := fun e => h (by simp [e])
    simp [Lib.indexByte, indexByte_miss c l h2, h1]
theorem lines_last {s : List UInt8} (k : Nat) (h : (10 : UInt8) ∉ s) (h0 : s ≠ []) : linesGo (txt s).size k (txt s) = [(k, txt s)] := by
  have hs : (txt s).size = s.length := txt_size s
  have hl : 0 < s.length := List.length_pos_iff.2 h0
  have e1 : lineLen (txt s) = (txt s).size := by
    unfold lineLen
    rw [txt_list, indexByte_miss 10 s h, if_pos (by omega)]
  have e2 : (txt s).extract (txt s).size (txt s).size = txt [] := by
    rw [txt_extract, hs, List.take_length, List.drop_length]
  have e3 : (txt s).extract 0 (txt s).size = txt s := by
    rw [txt_extract, hs, List.take_length, List.drop_zero]
  rw [linesGo_step (by omega), e1, e2, e3, linesGo_nil rfl]

theorem parts_eq : ∀ (n : Nat) (s : List UInt8) (acc : List Ac) (i : Nat), s.length ≤ n → partsGo acc i (cutL 10 s) = parseGo acc (linesGo (txt s).size i (txt s))
  | n, s, acc, i, hn => by
    by_cases hm : (10 : UInt8) ∈ s
    · rcases index_one_parts 10 s with ⟨_, hh⟩ | ⟨w, r, rfl, hw, _⟩
      · exact absurd hm hh
      · cases n with
        | zero => simp at hn
        | succ n =>
          rw [cutL_hit 10 w r hw, lines_first i hw]
          cases hc : cutL 10 r with
          | nil => exact absurd hc (cutL_ne 10 r)
          | cons q t =>
            have ih := parts_eq n r
            rw [hc] at ih
            simp only [partsGo, parseGo, part_bad]
            by_cases hb : partBad acc w = 0
            · rw [if_pos hb, if_pos hb]
              have hla : lineAc acc (txt (w ++ [10])) = (partAc w).getD ac0 := by
                unfold lineAc
                rw [if_pos (by rw [part_bad]; exact hb), read_part]
              rw [hla]
              exact ih _ (i + 1) (by simp at hn; omega)
            · rw [if_neg hb, if_neg hb]
    · rw [cutL_miss 10 s hm]
      by_cases h0 : s = []
      · subst h0
        rw [linesGo_nil rfl]
        simp [partsGo, parseGo]
      · rw [lines_last i hm h0]
        have hb : lineBad acc (txt s) = 2 := by
          unfold lineBad
          rw [read_open hm]
        simp only [partsGo, parseGo, hb]
        rw [if_neg h0]
        simp
theorem parts_parse (t : ByteArray) : partsGo [] 0 (cutL 10 t.data.toList) = parseS t := by
  rw [parts_eq _ _ _ _ (Nat.le_refl _), ← txt_of t]
  rfl
end Go.Proofs.YtgpddkajlkckjaaDoor
