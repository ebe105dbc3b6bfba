/-
  The contract of slices.rotateCmpFunc on a row of numbers: two neighbours of any lengths change places.
-/
import Derived.Test.YtojmnfckijgofaaSrt1
namespace Go.Proofs.Ytojmnfckijgofaa
set_option linter.unusedVariables false
set_option linter.unusedSimpArgs false
set_option maxRecDepth 100000
open Go.RowKit Go.Lib

theorem swp_get (l : List Int) (i j q : Nat) (hi : i < l.length) (hj : j < l.length) : (swp l i j).getD q 0 = if q = j then l.getD i 0 else if q = i then l.getD j 0 else l.getD q 0 := by
  unfold swp
  by_cases h1 : q = j
  · subst h1
    rw [if_pos rfl, List.getD_eq_getElem?_getD, List.getElem?_set_self (by simpa using hj)]
    rfl
  · rw [if_neg h1, List.getD_eq_getElem?_getD, List.getElem?_set_ne (fun e => h1 e.symm)]
    by_cases h2 : q = i
    · subst h2
      rw [if_pos rfl, List.getElem?_set_self hi]
      rfl
    · rw [if_neg h2, List.getElem?_set_ne (fun e => h2 e.symm), ← List.getD_eq_getElem?_getD]
theorem swapR_get (l : List Int) (a b : Nat) : ∀ (n : Nat), a + n ≤ b → b + n ≤ l.length → ∀ q, (swapR l a b n).getD q 0 = if a ≤ q ∧ q < a + n then l.getD (q - a + b) 0 else if b ≤ q ∧ q < b + n then l.getD (q - b + a) 0 else l.getD q 0
  | 0, h1, h2, q => by
    rw [if_neg (by omega), if_neg (by omega)]
    rfl
  | n + 1, h1, h2, q => by
    have ih := swapR_get l a b n (by omega) (by omega)
    rw [swapR, swp_get _ _ _ _ (by rw [swapR_length]; omega) (by rw [swapR_length]; omega), ih, ih, ih]
    by_cases e1 : q = b + n
    · subst e1
      rw [if_pos rfl, if_neg (by omega), if_neg (by omega), if_neg (by omega), if_pos (by omega)]
      congr 1
      omega
    · rw [if_neg e1]
      by_cases e2 : q = a + n
      · subst e2
        rw [if_pos rfl, if_neg (by omega), if_neg (by omega), if_pos (by omega)]
        congr 1
        omega
      · rw [if_neg e2]
        by_cases e3 : a ≤ q ∧ q < a + n
        · rw [if_pos e3, if_pos (by omega)]
        · rw [if_neg e3, if_neg (show ¬ (a ≤ q ∧ q < a + (n + 1)) by omega)]
          by_cases e4 : b ≤ q ∧ q < b + n
          · rw [if_pos e4, if_pos (by omega)]
          · rw [if_neg e4, if_neg (show ¬ (b ≤ q ∧ q < b + (n + 1)) by omega)]
theorem getD_app (x y : List Int) (q : Nat) : (x ++ y).getD q 0 = if q < x.length then x.getD q 0 else y.getD (q - x.length) 0 := by
  by_cases h : q < x.length
  · rw [if_pos h, List.getD_eq_getElem?_getD, List.getElem?_append_left h, ← List.getD_eq_getElem?_getD]
  · rw [if_neg h, List.getD_eq_getElem?_getD, List.getElem?_append_right (by omega), ← List.getD_eq_getElem?_getD]
theorem ext_getD {x y : List Int} (hl : x.length = y.length) (h : ∀ q, q < x.length → x.getD q 0 = y.getD q 0) : x = y := by
  apply List.ext_getElem hl
  intro i h1 h2
  have := h i h1
  rwa [List.getD_eq_getElem?_getD, List.getD_eq_getElem?_getD, List.getElem?_eq_getElem h1, List.getElem?_eq_getElem h2] at this
/-- Two parts of one length change places. -/
theorem swapR_parts (A x q y Z : List Int) (h : x.length = y.length) : swapR (A ++ (x ++ (q ++ (y ++ Z)))) A.length (A.length + x.length + q.length) x.length = A ++ (y ++ (q ++ (x ++ Z))) := by
  apply ext_getD
  · rw [swapR_length]; simp; omega
  · intro i hi
    rw [swapR_length] at hi
    simp only [List.length_append] at hi
    rw [swapR_get _ _ _ _ (by omega) (by simp only [List.length_append]; omega)]
    simp only [getD_app]
    by_cases h1 : i < A.length
    · rw [if_neg (by omega), if_neg (by omega), if_pos h1, if_pos h1]
    · by_cases h2 : i < A.length + x.length
      · rw [if_pos (by omega), if_neg (by omega), if_neg (by omega), if_neg (by omega), if_pos (by omega), if_neg h1, if_pos (by omega)]
        congr 1
        omega
      · by_cases h3 : i < A.length + x.length + q.length
        · rw [if_neg (by omega), if_neg (by omega), if_neg h1, if_neg (by omega), if_pos (by omega), if_neg h1, if_neg (by omega), if_pos (by omega)]
          congr 1
          omega
        · by_cases h4 : i < A.length + x.length + q.length + x.length
          · rw [if_neg (by omega), if_pos (by omega), if_neg (by omega), if_pos (by omega), if_neg h1, if_neg (by omega), if_neg (by omega), if_pos (by omega)]
            congr 1
            omega
          · rw [if_neg (by omega), if_neg (by omega), if_neg h1, if_neg (by omega), if_neg (by omega), if_neg (by omega), if_neg h1, if_neg (by omega), if_neg (by omega), if_neg (by omega)]
            congr 1
            omega

/-- What is left to rotate. -/
def RotSt (wr w : World) (g L m i j : Nat) (F : List Int) : Prop := ∃ A u v Z : List Int, NRow wr g (A ++ (u ++ (v ++ Z))) ∧ (A ++ (u ++ (v ++ Z))).length = L ∧ A.length + i = m ∧ u.length = i ∧ v.length = j ∧ A ++ (v ++ (u ++ Z)) = F ∧ But g w wr
theorem RotSt.more {wr w : World} {g L m i j : Nat} {F : List Int} (h : RotSt wr w g L m i j F) (hij : j < i) (f : Value) (cap : Nat) (hL : L ≤ 1000000) :
    Calls Try.prog 30 #[.slice (some ⟨g, 0, none⟩) L cap, .int .i64 ((m : Int) - i), .int .i64 (m : Int), .int .i64 (j : Int), f] wr fun e w' => e = .returned (.tuple #[]) ∧ Hid (RotSt w' w g L m (i - j) j F) := by
  obtain ⟨A, u, v, Z, hr, hl, hA, hu, hv, hF, hB⟩ := h
  have hu2 : u = u.take j ++ u.drop j := (List.take_append_drop j u).symm
  have e1 : A ++ (u ++ (v ++ Z)) = A ++ (u.take j ++ (u.drop j ++ (v ++ Z))) := by rw [← List.append_assoc (u.take j), List.take_append_drop]
  rw [e1] at hr hl
  have c := swapRange_any g cap A.length m j _ f wr hr (by omega) (by simp only [List.length_append] at hl ⊢; omega) (by simp only [List.length_append, List.length_take, List.length_drop] at hl ⊢; omega)
  rw [hl] at c
  rw [show (A.length : Int) = (m : Int) - i by omega] at c
  refine c.mono ?_
  rintro e w' ⟨rfl, h2⟩
  obtain ⟨h3, h4⟩ := h2.out
  have hx : (u.take j).length = j := by rw [List.length_take]; omega
  have sp := swapR_parts A (u.take j) (u.drop j) v Z (by rw [hx, hv])
  rw [hx] at sp
  have em : A.length + j + (u.drop j).length = m := by rw [List.length_drop]; omega
  rw [em] at sp
  rw [sp] at h3
  refine ⟨rfl, A ++ v, u.drop j, u.take j, Z, ?_, ?_, ?_, ?_, hx, ?_, hB.trans h4⟩
  · rw [List.append_assoc]; exact h3
  · rw [List.append_assoc]
    simp only [List.length_append] at hl ⊢
    omega
  · rw [List.length_append]; omega
  · rw [List.length_drop]; omega
  · rw [← hF, List.append_assoc, ← List.append_assoc (u.take j), List.take_append_drop]
theorem RotSt.less {wr w : World} {g L m i j : Nat} {F : List Int} (h : RotSt wr w g L m i j F) (hij : i < j) (f : Value) (cap : Nat) (hL : L ≤ 1000000) :
    Calls Try.prog 30 #[.slice (some ⟨g, 0, none⟩) L cap, .int .i64 ((m : Int) - i), .int .i64 ((m : Int) + j - i), .int .i64 (i : Int), f] wr fun e w' => e = .returned (.tuple #[]) ∧ Hid (RotSt w' w g L m i (j - i) F) := by
  obtain ⟨A, u, v, Z, hr, hl, hA, hu, hv, hF, hB⟩ := h
  have e1 : A ++ (u ++ (v ++ Z)) = A ++ (u ++ (v.take (j - i) ++ (v.drop (j - i) ++ Z))) := by rw [← List.append_assoc (v.take (j - i)), List.take_append_drop]
  rw [e1] at hr hl
  have c := swapRange_any g cap A.length (m + j - i) i _ f wr hr (by omega) (by simp only [List.length_append] at hl ⊢; omega) (by simp only [List.length_append, List.length_take, List.length_drop] at hl ⊢; omega)
  rw [hl] at c
  rw [show (A.length : Int) = (m : Int) - i by omega, show ((m + j - i : Nat) : Int) = (m : Int) + j - i by omega] at c
  refine c.mono ?_
  rintro e w' ⟨rfl, h2⟩
  obtain ⟨h3, h4⟩ := h2.out
  have hx : (v.drop (j - i)).length = i := by rw [List.length_drop]; omega
  have sp := swapR_parts A u (v.take (j - i)) (v.drop (j - i)) Z (by rw [hx, hu])
  rw [hu] at sp
  have em : A.length + i + (v.take (j - i)).length = m + j - i := by rw [List.length_take]; omega
  rw [em] at sp
  rw [sp] at h3
  refine ⟨rfl, A, v.drop (j - i), v.take (j - i), u ++ Z, h3, ?_, hA, hx, ?_, ?_, hB.trans h4⟩
  · simp only [List.length_append] at hl ⊢
    omega
  · rw [List.length_take]; omega
  · rw [← hF, ← List.append_assoc (v.take (j - i)), List.take_append_drop]
theorem RotSt.last {wr w : World} {g L m i : Nat} {F : List Int} (h : RotSt wr w g L m i i F) (f : Value) (cap : Nat) (hL : L ≤ 1000000) :
    Calls Try.prog 30 #[.slice (some ⟨g, 0, none⟩) L cap, .int .i64 ((m : Int) - i), .int .i64 (m : Int), .int .i64 (i : Int), f] wr fun e w' => e = .returned (.tuple #[]) ∧ Hid (NRow w' g F ∧ But g w w') := by
  obtain ⟨A, u, v, Z, hr, hl, hA, hu, hv, hF, hB⟩ := h
  have c := swapRange_any g cap A.length m i _ f wr hr (by omega) (by simp only [List.length_append] at hl ⊢; omega) (by simp only [List.length_append] at hl ⊢; omega)
  rw [hl] at c
  rw [show (A.length : Int) = (m : Int) - i by omega] at c
  refine c.mono ?_
  rintro e w' ⟨rfl, h2⟩
  obtain ⟨h3, h4⟩ := h2.out
  have sp := swapR_parts A u [] v Z (by rw [hu, hv])
  rw [hu] at sp
  simp only [List.nil_append, List.length_nil, Nat.add_zero] at sp
  rw [hA] at sp
  rw [sp, hF] at h3
  exact ⟨rfl, h3, hB.trans h4⟩

set_option maxHeartbeats 4000000 in
theorem rotate_any (g cap : Nat) (A u v Z : List Int) (f : Value) (w : World) (h : NRow w g (A ++ (u ++ (v ++ Z)))) (hl : (A ++ (u ++ (v ++ Z))).length ≤ 1000000) (hu : 0 < u.length) (hv : 0 < v.length) :
    Calls Try.prog 29 #[.slice (some ⟨g, 0, none⟩) (A ++ (u ++ (v ++ Z))).length cap, .int .i64 (A.length : Int), .int .i64 ((A.length + u.length : Nat) : Int), .int .i64 ((A.length + u.length + v.length : Nat) : Int), f] w fun e w' => e = .returned (.tuple #[]) ∧ Hid (NRow w' g (A ++ (v ++ (u ++ Z))) ∧ But g w w') := by
  have HS : Hid (RotSt w w g (A ++ (u ++ (v ++ Z))).length (A.length + u.length) u.length v.length (A ++ (v ++ (u ++ Z)))) := ⟨A, u, v, Z, h, rfl, rfl, rfl, rfl, rfl, But.refl _ _⟩
  have hm : A.length + u.length + v.length ≤ (A ++ (u ++ (v ++ Z))).length := by simp only [List.length_append]; omega
  clear h
  generalize (A ++ (u ++ (v ++ Z))).length = L at *
  generalize A ++ (v ++ (u ++ Z)) = F at *
  obtain ⟨m, hmm⟩ : ∃ m, A.length + u.length = m := ⟨_, rfl⟩
  rw [hmm] at HS hm ⊢
  obtain ⟨i0, hi0⟩ : ∃ i0, u.length = i0 := ⟨_, rfl⟩
  obtain ⟨j0, hj0⟩ : ∃ j0, v.length = j0 := ⟨_, rfl⟩
  rw [hi0] at HS hu hmm
  rw [hj0] at HS hv hm ⊢
  have e1 : (A.length : Int) = (m : Int) - i0 := by omega
  rw [e1]
  have s1 : (m : Int) - ((m : Int) - i0) = i0 := by omega
  have s2 : (m : Int) + j0 - m = j0 := by omega
  have mL : (m : Int) ≤ 1000000 := by omega
  have jL : (m : Int) + j0 ≤ 1000000 := by omega
  rw [show ((m + j0 : Nat) : Int) = (m : Int) + j0 by omega]
  have im : (i0 : Int) ≤ m := by omega
  have Him : Hid (m + j0 ≤ L ∧ L ≤ 1000000 ∧ i0 ≤ m) := ⟨hm, hl, by omega⟩
  have i00 : (0 : Int) ≤ i0 := by omega
  clear e1 hmm hi0 hj0
  go_enter Try.func29, Try.ntmps29
  go_wp2
  go_loopw [10, 11] (fun ti tj wr => ∃ i j : Nat, 0 < i ∧ 0 < j ∧ i ≤ m ∧ m + j ≤ L ∧ ti = .int .i64 i ∧ tj = .int .i64 j ∧ Hid (RotSt wr w g L m i j F)) (fun ti tj _ => (intOf ti).toNat + (intOf tj).toNat)
  case atStart => exact ⟨i0, j0, hu, hv, Him.out.2.2, Him.out.1, by first | rfl | simp [s1], by first | rfl | simp [s2], HS⟩
  case round =>
    obtain ⟨i, j, hi, hj, him, hjL, rfl, rfl, H⟩ := hrel
    have i1 : (i : Int) ≤ m := by omega
    have i2 : (0 : Int) ≤ i := by omega
    have j1 : (m : Int) + j ≤ 1000000 := by have := Him.out.2.1; omega
    have j2 : (0 : Int) ≤ j := by omega
    clear s1 s2
    by_cases hij : i = j
    · subst hij
      have HC : Hid (Calls _ _ _ _ _) := H.out.last f cap Him.out.2.1
      have hne : ((i : Int) != (i : Int)) = false := by simp
      go_wp2_with fail
      refine HC.out.mono ?_
      rintro e w' ⟨rfl, hh⟩
      go_wp2
      go_end0
      exact ⟨rfl, hh⟩
    · have hne : ((i : Int) == (j : Int)) = false := by rw [beq_eq_false_iff_ne]; omega
      by_cases hgt : j < i
      · have HC : Hid (Calls _ _ _ _ _) := H.out.more hgt f cap Him.out.2.1
        have hg1 : (j : Int) < i := by omega
        go_wp2_with fail
        refine HC.out.mono ?_
        rintro e w' ⟨rfl, hh⟩
        go_wp2_with fail
        refine ⟨⟨i - j, j, by omega, hj, by omega, hjL, by congr 1; omega, rfl, hh⟩, ?_⟩
        simp [intOf]; omega
      · have HC : Hid (Calls _ _ _ _ _) := H.out.less (by omega) f cap Him.out.2.1
        have hg1 : ¬ (j : Int) < i := by omega
        have hg2 : (i : Int) ≤ j := by omega
        go_wp2_with fail
        refine HC.out.mono ?_
        rintro e w' ⟨rfl, hh⟩
        go_wp2_with fail
        refine ⟨⟨i, j - i, hi, by omega, him, by omega, rfl, by congr 1; omega, hh⟩, ?_⟩
        simp [intOf]; omega
end Go.Proofs.Ytojmnfckijgofaa
