/-
  A chart as text, and a text as a chart: each is the other one back. It names no call.
-/
import Derived.Test.YtgpddkajlkckjaaDoorChB1
import Derived.Test.YtgpddkajlkckjaaDoorChR6
import Derived.Test.YtgpddkajlkckjaaDoorChT2
namespace Go.Proofs.YtgpddkajlkckjaaDoor
set_option linter.unusedVariables false
set_option linter.unusedSimpArgs false
set_option maxRecDepth 100000
open Go.RowKit

theorem indexByte_hit (c : UInt8) : ∀ (w r : List UInt8), c ∉ w → Lib.indexByte (w ++ c :: r) c = w.length
  | [], r, _ => by simp [Lib.indexByte]
  | b :: l, r, h => by
    have h1 : b ≠ c := fun e => h (by simp [e])
    have h2 : c ∉ l := fun e => h (by simp [e])
    have ih := indexByte_hit c l r h2
    simp only [List.cons_append, Lib.indexByte, ih, List.length_cons]
    simp [h1]
theorem txt_extract (l : List UInt8) (a b : Nat) : (txt l).extract a b = txt ((l.take b).drop a) := by
  have h : ((txt l).extract a b).data.toList = (l.take b).drop a := by simp [txt, List.drop_take]
  rw [txt_of ((txt l).extract a b), h]
theorem lineLen_of {w r : List UInt8} (h : (10 : UInt8) ∉ w) : lineLen (txt (w ++ 10 :: r)) = w.length + 1 := by
  unfold lineLen
  rw [txt_list, indexByte_hit 10 w r h, if_neg (by omega)]
  omega
/-- The first line of a text. -/
theorem lines_first {w r : List UInt8} (k : Nat) (h : (10 : UInt8) ∉ w) :
    linesGo (txt (w ++ 10 :: r)).size k (txt (w ++ 10 :: r)) = (k, txt (w ++ [10])) :: linesGo (txt r).size (k + 1) (txt r) := by
  have hs : (txt (w ++ 10 :: r)).size = w.length + 1 + r.length := by rw [txt_size]; simp; omega
  have e1 : (txt (w ++ 10 :: r)).extract 0 (w.length + 1) = txt (w ++ [10]) := by
    rw [txt_extract]
    congr 1
    rw [List.drop_zero, show w ++ 10 :: r = (w ++ [10]) ++ r by simp]
    exact List.take_left' (by simp)
  have e2 : (txt (w ++ 10 :: r)).extract (w.length + 1) (txt (w ++ 10 :: r)).size = txt r := by
    rw [txt_extract, txt_size, List.take_length]
    congr 1
    rw [show w ++ 10 :: r = (w ++ [10]) ++ r by simp]
    exact List.drop_left' (by simp)
  rw [linesGo_step (by omega), lineLen_of h, e1, e2]

theorem line_body {x : Ac} (h : AcWell x) : ∃ w : List UInt8, lineL x = w ++ [10] ∧ (10 : UInt8) ∉ w := by
  refine ⟨joinC 32 ((wordsB x).map (·.data.toList)), by unfold lineL; rw [joinC_eq], ?_⟩
  have key : ∀ ws : List (List UInt8), (∀ w ∈ ws, ∀ b ∈ w, b ≠ 32 ∧ b ≠ 10) → (10 : UInt8) ∉ joinC 32 ws := by
    intro ws
    induction ws with
    | nil => intro _; simp [joinC]
    | cons v r ih =>
      intro hw hm
      cases r with
      | nil => exact (hw v (by simp) 10 hm).2 rfl
      | cons u s =>
        rw [joinC] at hm
        rcases List.mem_append.1 hm with h1 | h1
        · exact (hw v (by simp) 10 h1).2 rfl
        · rcases List.mem_cons.1 h1 with h2 | h2
          · exact absurd h2 (by decide)
          · exact ih (fun w hw' => hw w (by simp at hw' ⊢; exact .inr hw')) h2
  exact key _ (words_clean h)

theorem parse_lines : ∀ (xs pre : List Ac) (k : Nat), (∀ x ∈ xs, AcWell x) → chGo pre xs = 0 → pre.length + xs.length ≤ 60 →
    parseGo pre (linesGo (txt ((xs.map lineL).flatten)).size k (txt ((xs.map lineL).flatten))) = (pre ++ xs, 0, 0)
  | [], pre, k, _, _, _ => by
    show parseGo pre (linesGo (txt []).size k (txt [])) = _
    rw [linesGo_nil rfl]
    simp [parseGo]
  | x :: xs, pre, k, hf, hc, hl => by
    have hx := hf x (by simp)
    obtain ⟨w, e, hn⟩ := line_body hx
    have e2 : ((x :: xs).map lineL).flatten = w ++ 10 :: (xs.map lineL).flatten := by simp [e]
    rw [e2, lines_first k hn, ← e]
    rw [chGo] at hc
    split at hc
    · rename_i hb; exact absurd hc hb
    · rename_i hb
      have hb : nextBad pre x = 0 := by simpa using hb
      have hlb : lineBad pre (txt (lineL x)) = 0 := by
        unfold lineBad
        rw [read_line hx]
        simp only
        rw [if_neg (by simp at hl; omega), hb]
      have hla : lineAc pre (txt (lineL x)) = x := by
        unfold lineAc
        rw [if_pos hlb, read_line hx]
        rfl
      rw [parseGo, if_pos hlb, hla, parse_lines xs (pre ++ [x]) (k + 1) (fun y hy => hf y (by simp [hy])) hc (by simp at hl ⊢; omega)]
      simp

theorem ok_of {l : List Ac} (h : chBad l = 0) : ∀ x ∈ l, AcWell x := by
  intro x hx
  obtain ⟨k, hk, rfl⟩ := List.getElem_of_mem hx
  have eg : l.getD k ac0 = l[k] := by rw [List.getD_eq_getElem?_getD, List.getElem?_eq_getElem hk]; rfl
  rw [← eg]
  obtain ⟨h1, h2, h3, h4, _, _⟩ := nextBad_zero (chBad_next h k hk)
  refine ⟨h1, h2, h3, h4, ?_⟩
  cases hp : parOf l k with
  | none => exact .inl (parOf_none.1 hp)
  | some j =>
    obtain ⟨q1, q2, _⟩ := parOf_some h hk hp
    rw [← q2]
    exact .inr (nextBad_zero (chBad_next h j (by omega))).1
theorem chTxt_all (l : List Ac) : chTxt l l.length = (l.map lineL).flatten := by unfold chTxt; rw [List.take_length]
/-- What is printed is read as it was. -/
theorem parse_print {l : List Ac} (h : chBad l = 0) : parseS (txt (chTxt l l.length)) = (l, 0, 0) := by
  have hl := chBad_len h
  have hc : chGo [] l = 0 := by unfold chBad at h; rwa [if_neg (by omega)] at h
  have := parse_lines l [] 0 (ok_of h) hc (by simpa using hl)
  rw [chTxt_all]
  exact this

theorem parse_back : ∀ (f : Nat) (s : ByteArray) (acc l : List Ac) (k a : Nat), s.size ≤ f → acc.length ≤ 60 → parseGo acc (linesGo s.size k s) = (l, a, 0) →
    ∃ xs, l = acc ++ xs ∧ (xs.map lineL).flatten = s.data.toList ∧ chGo acc xs = 0 ∧ l.length ≤ 60
  | f, s, acc, l, k, a, hf, hl, h => by
    by_cases h0 : s.size = 0
    · rw [linesGo_nil h0] at h
      simp only [parseGo, Prod.mk.injEq] at h
      obtain ⟨rfl, _, _⟩ := h
      refine ⟨[], by simp, ?_, rfl, hl⟩
      have : s.data.toList = [] := List.eq_nil_of_length_eq_zero h0
      rw [this]; rfl
    · cases f with
      | zero => omega
      | succ f =>
        rw [linesGo_step h0, parseGo] at h
        have hp := lineLen_pos h0
        have hle := lineLen_le s
        split at h
        · rename_i hb
          simp only at hb h
          have hb' := hb
          unfold lineBad at hb
          cases hr : readS (s.extract 0 (lineLen s)) with
          | none => rw [hr] at hb; simp at hb
          | some x =>
            rw [hr] at hb
            simp only at hb
            split at hb
            · omega
            · rename_i h60
              have hla : lineAc acc (s.extract 0 (lineLen s)) = x := by
                unfold lineAc
                rw [if_pos hb', hr]
                rfl
              rw [hla] at h
              obtain ⟨xs, e1, e2, e3, e4⟩ := parse_back f (s.extract (lineLen s) s.size) (acc ++ [x]) l (k + 1) a (by rw [rest_size]; omega) (by simp; omega) h
              refine ⟨x :: xs, by rw [e1]; simp, ?_, ?_, e4⟩
              · have er := read_back hr
                have q1 : lineL x = (s.extract 0 (lineLen s)).data.toList := by rw [er]; rfl
                rw [List.map_cons, List.flatten_cons, e2, q1]
                have t1 := txt_extract s.data.toList 0 (lineLen s)
                have t2 := txt_extract s.data.toList (lineLen s) s.size
                rw [← txt_of s] at t1 t2
                rw [t1, t2, txt_list, txt_list, List.drop_zero]
                have hsz : s.size = s.data.toList.length := by simp
                rw [hsz, List.take_length, List.take_append_drop]
              · rw [chGo, if_neg (by simpa using hb)]
                exact e3
        · rename_i hb
          simp only [Prod.mk.injEq] at h
          exact absurd h.2.2 hb
/-- What a text is read as is printed as that text. -/
theorem print_parse {t : ByteArray} {l : List Ac} {a : Nat} (h : parseS t = (l, a, 0)) : chBad l = 0 ∧ txt (chTxt l l.length) = t := by
  obtain ⟨xs, e1, e2, e3, e4⟩ := parse_back t.size t [] l 0 a (Nat.le_refl _) (by simp) h
  simp only [List.nil_append] at e1
  subst e1
  refine ⟨?_, ?_⟩
  · unfold chBad
    rw [if_neg (by omega), e3]
  · rw [chTxt_all, e2, ← txt_of t]
end Go.Proofs.YtgpddkajlkckjaaDoor
