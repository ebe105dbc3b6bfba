/-
  What is in a table: each pair both ways; numbers in their range. The contract of rate.Find.
-/
import Derived.Test.YtoggclbhjoodoaaDoorRate3
import Derived.Test.YtoggclbhjoodoaaDoorRate4
namespace Go.Proofs.YtoggclbhjoodoaaDoor
set_option linter.unusedVariables false
open Go.RowKit Go.Lib Go.Maps

theorem cur_size {s : ByteArray} (h : isCur s = true) : s.size ≤ maxLen := by
  have : s.size = 3 := by
    unfold isCur at h
    simp only [Bool.and_eq_true, beq_iff_eq] at h
    exact h.1
  rw [this]; unfold maxLen; omega
theorem upTo_bd {n m : Int} (h : upTo n m = true) : 1 ≤ n ∧ n ≤ m := by simpa [upTo] using h
theorem upTo_wf {p : Int} (h : upTo p 120 = true) : (Lit.int .i64 p).wf = true := by
  have := upTo_bd h
  exact WalkArith.wf_i64 (by omega)

theorem rateBad_zero {r : Rt} (h : rateBad r = 0) : isCur r.frm = true ∧ isCur r.dst = true ∧ r.frm ≠ r.dst ∧ upTo r.per 120 = true ∧ upTo r.num 1000000000 = true ∧ upTo r.den 1000000000 = true := by
  unfold rateBad at h
  split at h
  · cases h
  · rename_i a
    split at h
    · cases h
    · rename_i b
      split at h
      · cases h
      · rename_i c
        simp only [not_or, Bool.not_eq_false] at a c
        exact ⟨a.1, a.2, b, c.1, c.2.1, c.2.2⟩

def num2 : DataW Unit → Int × Int
  | .agg [.lit (.int .i64 n), .lit (.int .i64 d)] => (n, d)
  | _ => (0, 0)
theorem num2_wD (n d : Int) : num2 (wD n d) = (n, d) := rfl

def tabNum (D : DataW Unit) (kl : Lit) : Int × Int := num2 (D.atKey kl (wD 0 0))

/-- What is there has numbers in their range. -/
def TabGood (D : DataW Unit) : Prop := ∀ kl, has D kl = true → (1 ≤ (tabNum D kl).1 ∧ (tabNum D kl).1 ≤ 1000000000) ∧ 1 ≤ (tabNum D kl).2 ∧ (tabNum D kl).2 ≤ 1000000000
/-- Each pair is there both ways. -/
def TabSym (D : DataW Unit) : Prop := ∀ f t p, isCur f = true → isCur t = true → upTo p 120 = true → has D (keyL f t p) = has D (keyL t f p) ∧ (tabNum D (keyL f t p)).1 = (tabNum D (keyL t f p)).2
/-- Nothing is there of one currency alone. -/
def TabApart (D : DataW Unit) : Prop := ∀ f p, isCur f = true → upTo p 120 = true → has D (keyL f f p) = false

theorem key_eq {f t f' t' : ByteArray} {p p' : Int} (hf : isCur f = true) (ht : isCur t = true) (hp : upTo p 120 = true) (hf' : isCur f' = true) (ht' : isCur t' = true) (hp' : upTo p' 120 = true) : keyL f t p = keyL f' t' p' ↔ f = f' ∧ t = t' ∧ p = p' :=
  ⟨fun h => keyL_inj (cur_size hf) (cur_size ht) (upTo_wf hp) (cur_size hf') (cur_size ht') (upTo_wf hp') h, fun ⟨h1, h2, h3⟩ => by rw [h1, h2, h3]⟩

open Classical in
theorem has_put2 {D : DataW Unit} (hD : IsMap D) (k1 k2 kl : Lit) (h1 : WideAt.IsKeyLit k1) (h2 : WideAt.IsKeyLit k2) (a b : DataW Unit) : has ((D.put k1 a).put k2 b) kl = (decide (kl = k2) || (decide (kl = k1) || has D kl)) := by
  by_cases e2 : kl = k2
  · subst e2; rw [has_put_same (hD.put _ _) h2]; simp
  · rw [has_put_other e2]
    by_cases e1 : kl = k1
    · subst e1; rw [has_put_same hD h1]; simp
    · rw [has_put_other e1]; simp [e1, e2]

open Classical in
theorem num_put2 {D : DataW Unit} (hD : IsMap D) (k1 k2 kl : Lit) (h1 : WideAt.IsKeyLit k1) (h2 : WideAt.IsKeyLit k2) (a b c d : Int) : tabNum ((D.put k1 (wD a b)).put k2 (wD c d)) kl = if kl = k2 then (c, d) else if kl = k1 then (a, b) else tabNum D kl := by
  unfold tabNum
  by_cases e2 : kl = k2
  · subst e2; rw [atKey_put_same (hD.put _ _) h2, if_pos rfl]; rfl
  · rw [atKey_put_other e2, if_neg e2]
    by_cases e1 : kl = k1
    · subst e1; rw [atKey_put_same hD h1, if_pos rfl]; rfl
    · rw [atKey_put_other e1, if_neg e1]

theorem tab_step {D : DataW Unit} {r : Rt} (hb : rateBad r = 0) (hD : IsMap D) (hg : TabGood D) (hs : TabSym D) (ha : TabApart D) : IsMap (tabPut D r) ∧ TabGood (tabPut D r) ∧ TabSym (tabPut D r) ∧ TabApart (tabPut D r) := by
  obtain ⟨b1, b2, b3, b4, b5, b6⟩ := rateBad_zero hb
  have n5 := upTo_bd b5
  have n6 := upTo_bd b6
  refine ⟨(hD.put _ _).put _ _, ?_, ?_, ?_⟩
  · intro kl h
    unfold tabPut at h ⊢
    rw [num_put2 hD _ _ _ (keyL_isKey _ _ _) (keyL_isKey _ _ _)]
    rw [has_put2 hD _ _ _ (keyL_isKey _ _ _) (keyL_isKey _ _ _)] at h
    by_cases e2 : kl = keyL r.dst r.frm r.per
    · rw [if_pos e2]; exact ⟨n6, n5⟩
    · rw [if_neg e2]
      by_cases e1 : kl = keyL r.frm r.dst r.per
      · rw [if_pos e1]; exact ⟨n5, n6⟩
      · rw [if_neg e1]
        simp [e1, e2] at h
        exact hg kl h
  · intro f t p hf ht hp
    unfold tabPut
    rw [has_put2 hD _ _ _ (keyL_isKey _ _ _) (keyL_isKey _ _ _), has_put2 hD _ _ _ (keyL_isKey _ _ _) (keyL_isKey _ _ _), num_put2 hD _ _ _ (keyL_isKey _ _ _) (keyL_isKey _ _ _), num_put2 hD _ _ _ (keyL_isKey _ _ _) (keyL_isKey _ _ _)]
    have q1 := key_eq hf ht hp b2 b1 b4
    have q2 := key_eq hf ht hp b1 b2 b4
    have q3 := key_eq ht hf hp b2 b1 b4
    have q4 := key_eq ht hf hp b1 b2 b4
    obtain ⟨s1, s2⟩ := hs f t p hf ht hp
    by_cases e1 : f = r.dst ∧ t = r.frm ∧ p = r.per
    · have z1 := q1.2 e1
      have z4 := q4.2 ⟨e1.2.1, e1.1, e1.2.2⟩
      have z3 : ¬ keyL t f p = keyL r.dst r.frm r.per := fun h => b3 (by have := q3.1 h; rw [← this.2.1, e1.1])
      rw [if_pos z1, if_neg z3, if_pos z4]
      simp [z1, z4]
    · by_cases e2 : f = r.frm ∧ t = r.dst ∧ p = r.per
      · have z2 := q2.2 e2
        have z1 : ¬ keyL f t p = keyL r.dst r.frm r.per := fun h => e1 (q1.1 h)
        have z3 := q3.2 ⟨e2.2.1, e2.1, e2.2.2⟩
        rw [if_neg z1, if_pos z2, if_pos z3]
        simp [z2, z3]
      · have z1 : ¬ keyL f t p = keyL r.dst r.frm r.per := fun h => e1 (q1.1 h)
        have z2 : ¬ keyL f t p = keyL r.frm r.dst r.per := fun h => e2 (q2.1 h)
        have z3 : ¬ keyL t f p = keyL r.dst r.frm r.per := fun h => e2 (by have := q3.1 h; exact ⟨this.2.1, this.1, this.2.2⟩)
        have z4 : ¬ keyL t f p = keyL r.frm r.dst r.per := fun h => e1 (by have := q4.1 h; exact ⟨this.2.1, this.1, this.2.2⟩)
        rw [if_neg z1, if_neg z2, if_neg z3, if_neg z4]
        simp only [z1, z2, z3, z4, decide_false, Bool.false_or]
        exact ⟨s1, s2⟩
  · intro f p hf hp
    unfold tabPut
    rw [has_put2 hD _ _ _ (keyL_isKey _ _ _) (keyL_isKey _ _ _)]
    have z1 : ¬ keyL f f p = keyL r.dst r.frm r.per := fun h => b3 (by have := (key_eq hf hf hp b2 b1 b4).1 h; rw [← this.1, ← this.2.1])
    have z2 : ¬ keyL f f p = keyL r.frm r.dst r.per := fun h => b3 (by have := (key_eq hf hf hp b1 b2 b4).1 h; rw [← this.1, ← this.2.1])
    simp only [z1, z2, decide_false, Bool.false_or]
    exact ha f p hf hp

theorem tabGo_good : ∀ (rs : List Rt) (D : DataW Unit), IsMap D → TabGood D → TabSym D → TabApart D → TabGood (tabGo D rs).2 ∧ TabSym (tabGo D rs).2 ∧ TabApart (tabGo D rs).2
  | [], D, _, h1, h2, h3 => ⟨h1, h2, h3⟩
  | r :: rs, D, h0, h1, h2, h3 => by
    by_cases hb : rateBad r = 0
    · cases hh : has D (keyL r.frm r.dst r.per)
      · rw [tabGo_step hb hh]
        obtain ⟨g0, g1, g2, g3⟩ := tab_step hb h0 h1 h2 h3
        exact tabGo_good rs _ g0 g1 g2 g3
      · rw [tabGo_clash hb hh]; exact ⟨h1, h2, h3⟩
    · rw [tabGo_bad hb]; exact ⟨h1, h2, h3⟩

theorem empty_good : TabGood (.map []) ∧ TabSym (.map []) ∧ TabApart (.map []) :=
  ⟨fun kl h => by simp [has] at h, fun f t p _ _ _ => ⟨rfl, rfl⟩, fun f p _ _ => rfl⟩

theorem tabS_good (rs : List Rt) : TabGood (tabS rs).2 ∧ TabSym (tabS rs).2 ∧ TabApart (tabS rs).2 := by
  obtain ⟨e1, e2, e3⟩ := empty_good
  unfold tabS
  split
  · exact ⟨e1, e2, e3⟩
  · exact tabGo_good rs _ isMap_empty e1 e2 e3

/-- What rate.Find hands back. -/
def findS (S : Int × DataW Unit) (base f t : ByteArray) (p : Int) : Int × Int × Int :=
  if S.1 ≠ 0 then (0, 0, S.1)
  else if isCur base = false ∨ isCur f = false ∨ isCur t = false then (0, 0, 2)
  else if upTo p 120 = false then (0, 0, 1)
  else if f = t then (1, 1, 0)
  else if has S.2 (keyL f t p) = true then ((tabNum S.2 (keyL f t p)).1, (tabNum S.2 (keyL f t p)).2, 0)
  else if has S.2 (keyL f base p) = false ∨ has S.2 (keyL base t p) = false then (0, 0, 6)
  else chainS (tabNum S.2 (keyL f base p)).1.toNat (tabNum S.2 (keyL f base p)).2.toNat (tabNum S.2 (keyL base t p)).1.toNat (tabNum S.2 (keyL base t p)).2.toNat
end Go.Proofs.YtoggclbhjoodoaaDoor
