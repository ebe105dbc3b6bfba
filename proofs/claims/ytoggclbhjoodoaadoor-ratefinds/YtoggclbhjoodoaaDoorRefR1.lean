/-
  What the document's answer says of rates, as a list: it is what a table of them says. It names no call.
-/
import Derived.Test.YtoggclbhjoodoaaDoorRateF
import Derived.Laws.RangeAny
namespace Go.Proofs.YtoggclbhjoodoaaDoor
set_option linter.unusedVariables false
set_option maxRecDepth 100000
open Go.RowKit Go.Lib Go.Maps

/-- Is a rate of just these, in this order? -/
def hit1 (x : Rt) (f t : ByteArray) (p : Int) : Bool := decide (x.per = p) && (decide (x.frm = f) && decide (x.dst = t))
def hit (x : Rt) (f t : ByteArray) (p : Int) : Bool := hit1 x f t p || hit1 x t f p

/-- The first rate of both. -/
def dirS : List Rt → ByteArray → ByteArray → Int → Option (Int × Int)
  | [], _, _, _ => none
  | x :: xs, f, t, p => if hit1 x f t p = true then some (x.num, x.den) else if hit1 x t f p = true then some (x.den, x.num) else dirS xs f t p

theorem dirS_snoc (r : Rt) (f t : ByteArray) (p : Int) : ∀ pre : List Rt, dirS (pre ++ [r]) f t p = match dirS pre f t p with | some v => some v | none => dirS [r] f t p
  | [] => rfl
  | x :: xs => by
    simp only [List.cons_append, dirS]
    split
    · rfl
    · split
      · rfl
      · rw [dirS_snoc r f t p xs]; rfl

theorem dirS_any (f t : ByteArray) (p : Int) : ∀ pre : List Rt, pre.any (fun x => hit x f t p) = (dirS pre f t p).isSome
  | [] => rfl
  | x :: xs => by
    rw [List.any_cons, dirS_any f t p xs]
    simp only [dirS, hit]
    cases h1 : hit1 x f t p
    · cases h2 : hit1 x t f p
      · simp
      · simp
    · simp

/-- What is wrong with rates, from one on. -/
def ratesGo : List Rt → List Rt → Int
  | _, [] => 0
  | pre, r :: rs => if rateBad r ≠ 0 then rateBad r else if pre.any (fun x => hit x r.frm r.dst r.per) = true then 8 else ratesGo (pre ++ [r]) rs
def ratesS (rs : List Rt) : Int := if 100 < rs.length then 4 else ratesGo [] rs

/-- A table has just what the list has. -/
def TabRel (D : DataW Unit) (pre : List Rt) : Prop := ∀ f t p, isCur f = true → isCur t = true → f ≠ t → upTo p 120 = true →
  (dirS pre f t p = none → has D (keyL f t p) = false) ∧ ∀ v, dirS pre f t p = some v → has D (keyL f t p) = true ∧ tabNum D (keyL f t p) = v

theorem hit1_iff {x : Rt} {f t : ByteArray} {p : Int} : hit1 x f t p = true ↔ x.per = p ∧ x.frm = f ∧ x.dst = t := by simp [hit1]

theorem tabRel_step {D : DataW Unit} {pre : List Rt} {r : Rt} (hb : rateBad r = 0) (hD : IsMap D) (hs : TabSym D) (h : TabRel D pre) (hh : has D (keyL r.frm r.dst r.per) = false) : TabRel (tabPut D r) (pre ++ [r]) := by
  obtain ⟨b1, b2, b3, b4, b5, b6⟩ := rateBad_zero hb
  have hh2 : has D (keyL r.dst r.frm r.per) = false := by rw [← (hs r.frm r.dst r.per b1 b2 b4).1]; exact hh
  intro f t p hf ht hne hp
  obtain ⟨g1, g2⟩ := h f t p hf ht hne hp
  have q1 := key_eq hf ht hp b2 b1 b4
  have q2 := key_eq hf ht hp b1 b2 b4
  rw [dirS_snoc]
  unfold tabPut
  rw [has_put2 hD _ _ _ (keyL_isKey _ _ _) (keyL_isKey _ _ _), num_put2 hD _ _ _ (keyL_isKey _ _ _) (keyL_isKey _ _ _)]
  by_cases e2 : f = r.frm ∧ t = r.dst ∧ p = r.per
  · have z2 := q2.2 e2
    have z1 : ¬ keyL f t p = keyL r.dst r.frm r.per := fun h => b3 (by have := q1.1 h; rw [← e2.1, this.1])
    have hn : dirS pre f t p = none := by
      cases hd : dirS pre f t p with
      | none => rfl
      | some v =>
        have := (g2 v hd).1
        rw [z2, hh] at this
        cases this
    have hr : dirS [r] f t p = some (r.num, r.den) := by
      simp only [dirS]
      rw [if_pos (hit1_iff.2 ⟨e2.2.2.symm, e2.1.symm, e2.2.1.symm⟩)]
    rw [hn, hr, if_neg z1, if_pos z2]
    refine ⟨(fun h => by cases h), fun v hv => ?_⟩
    cases hv
    exact ⟨by simp [z2], rfl⟩
  · by_cases e1 : f = r.dst ∧ t = r.frm ∧ p = r.per
    · have z1 := q1.2 e1
      have hn : dirS pre f t p = none := by
        cases hd : dirS pre f t p with
        | none => rfl
        | some v =>
          have := (g2 v hd).1
          rw [z1, hh2] at this
          cases this
      have hr : dirS [r] f t p = some (r.den, r.num) := by
        simp only [dirS]
        rw [if_neg (fun h => e2 (by have := hit1_iff.1 h; exact ⟨this.2.1.symm, this.2.2.symm, this.1.symm⟩)), if_pos (hit1_iff.2 ⟨e1.2.2.symm, e1.2.1.symm, e1.1.symm⟩)]
      rw [hn, hr, if_pos z1]
      refine ⟨(fun h => by cases h), fun v hv => ?_⟩
      cases hv
      exact ⟨by simp [z1], rfl⟩
    · have z1 : ¬ keyL f t p = keyL r.dst r.frm r.per := fun h => e1 (q1.1 h)
      have z2 : ¬ keyL f t p = keyL r.frm r.dst r.per := fun h => e2 (q2.1 h)
      have hr : dirS [r] f t p = none := by
        simp only [dirS]
        rw [if_neg (fun h => e2 (by have := hit1_iff.1 h; exact ⟨this.2.1.symm, this.2.2.symm, this.1.symm⟩)), if_neg (fun h => e1 (by have := hit1_iff.1 h; exact ⟨this.2.2.symm, this.2.1.symm, this.1.symm⟩))]
      rw [hr, if_neg z1, if_neg z2]
      simp only [z1, z2, decide_false, Bool.false_or]
      cases hd : dirS pre f t p with
      | none => exact ⟨(fun _ => g1 hd), (fun v hv => by cases hv)⟩
      | some v => exact ⟨(fun h => by cases h), (fun u hu => by cases hu; exact g2 v hd)⟩

theorem rates_tab : ∀ (rs pre : List Rt) (D : DataW Unit), IsMap D → TabGood D → TabSym D → TabApart D → TabRel D pre → ratesGo pre rs = (tabGo D rs).1 ∧ ((tabGo D rs).1 = 0 → TabRel (tabGo D rs).2 (pre ++ rs))
  | [], pre, D, _, _, _, _, h => ⟨rfl, fun _ => by rw [List.append_nil]; exact h⟩
  | r :: rs, pre, D, hD, hg, hs, ha, h => by
    by_cases hb : rateBad r = 0
    · obtain ⟨b1, b2, b3, b4, b5, b6⟩ := rateBad_zero hb
      obtain ⟨g1, g2⟩ := h r.frm r.dst r.per b1 b2 b3 b4
      simp only [ratesGo, hb, ne_eq, not_true_eq_false, if_false, dirS_any]
      cases hd : dirS pre r.frm r.dst r.per with
      | none =>
        have hh := g1 hd
        rw [tabGo_step hb hh]
        obtain ⟨k0, k1, k2, k3⟩ := tab_step hb hD hg hs ha
        have := rates_tab rs (pre ++ [r]) (tabPut D r) k0 k1 k2 k3 (tabRel_step hb hD hs h hh)
        rw [List.append_assoc] at this
        simpa using this
      | some v =>
        rw [tabGo_clash hb (g2 v hd).1]
        exact ⟨by simp, fun h => by simp at h⟩
    · rw [tabGo_bad hb]
      simp only [ratesGo]
      rw [if_pos hb]
      exact ⟨rfl, fun h => absurd h hb⟩

theorem ratesS_eq (rs : List Rt) : ratesS rs = (tabS rs).1 ∧ ((tabS rs).1 = 0 → TabRel (tabS rs).2 rs) := by
  unfold ratesS tabS
  split
  · exact ⟨rfl, fun h => by cases h⟩
  · obtain ⟨e1, e2, e3⟩ := empty_good
    have := rates_tab rs [] (.map []) isMap_empty e1 e2 e3 (fun f t p _ _ _ _ => ⟨fun _ => rfl, fun v hv => by cases hv⟩)
    simpa using this

/-- What is found, by the list. -/
def refFind (rs : List Rt) (base f t : ByteArray) (p : Int) : Int × Int × Int :=
  if ratesS rs ≠ 0 then (0, 0, ratesS rs)
  else if isCur base = false ∨ isCur f = false ∨ isCur t = false then (0, 0, 2)
  else if upTo p 120 = false then (0, 0, 1)
  else if f = t then (1, 1, 0)
  else match dirS rs f t p with
    | some v => (v.1, v.2, 0)
    | none => if f = base ∨ t = base then (0, 0, 6) else match dirS rs f base p, dirS rs base t p with
      | some v, some u => chainS v.1.toNat v.2.toNat u.1.toNat u.2.toNat
      | _, _ => (0, 0, 6)

theorem refFind_eq (rs : List Rt) (base f t : ByteArray) (p : Int) : refFind rs base f t p = findS (tabS rs) base f t p := by
  obtain ⟨e0, e1⟩ := ratesS_eq rs
  obtain ⟨g1, g2, g3⟩ := tabS_good rs
  unfold refFind findS
  rw [e0]
  by_cases c1 : (tabS rs).1 ≠ 0
  · rw [if_pos c1, if_pos c1]
  rw [if_neg c1, if_neg c1]
  have rel := e1 (Decidable.not_not.1 c1)
  by_cases c2 : isCur base = false ∨ isCur f = false ∨ isCur t = false
  · rw [if_pos c2, if_pos c2]
  rw [if_neg c2, if_neg c2]
  by_cases c3 : upTo p 120 = false
  · rw [if_pos c3, if_pos c3]
  rw [if_neg c3, if_neg c3]
  by_cases c4 : f = t
  · rw [if_pos c4, if_pos c4]
  rw [if_neg c4, if_neg c4]
  simp only [not_or, Bool.not_eq_false] at c2 c3
  obtain ⟨b0, b1, b2⟩ := c2
  obtain ⟨r1, r2⟩ := rel f t p b1 b2 c4 c3
  cases hd : dirS rs f t p with
  | some v =>
    obtain ⟨h1, h2⟩ := r2 v hd
    dsimp only
    rw [if_pos h1, h2]
  | none =>
    dsimp only
    rw [if_neg (c := has (tabS rs).2 (keyL f t p) = true) (by rw [r1 hd]; simp)]
    by_cases c5 : f = base ∨ t = base
    · rw [if_pos c5]
      rw [if_pos]
      rcases c5 with rfl | rfl
      · exact .inl (g3 f p b1 c3)
      · exact .inr (g3 t p b2 c3)
    · rw [if_neg c5]
      simp only [not_or] at c5
      obtain ⟨s1, s2⟩ := rel f base p b1 b0 c5.1 c3
      obtain ⟨t1, t2⟩ := rel base t p b0 b2 (fun e => c5.2 e.symm) c3
      cases hd1 : dirS rs f base p with
      | none =>
        dsimp only
        rw [if_pos (.inl (s1 hd1))]
      | some v =>
        obtain ⟨h1, h2⟩ := s2 v hd1
        cases hd2 : dirS rs base t p with
        | none =>
          dsimp only
          rw [if_pos (.inr (t1 hd2))]
        | some u =>
          obtain ⟨h3, h4⟩ := t2 u hd2
          dsimp only
          rw [if_neg (by rw [h1, h3]; simp), h2, h4]

/-- A currency, letter by letter. -/
def isCurB (s : ByteArray) : Bool := s.size == 3 && ((65 ≤ (s.get! 0).toNat && (s.get! 0).toNat ≤ 90) && ((65 ≤ (s.get! 1).toNat && (s.get! 1).toNat ≤ 90) && (65 ≤ (s.get! 2).toNat && (s.get! 2).toNat ≤ 90)))

theorem other_at (s : ByteArray) (pos f : Nat) (h : pos < s.size) : otherFrom s (f + 1) pos = if 65 ≤ (s.get! pos).toNat ∧ (s.get! pos).toNat ≤ 90 then otherFrom s f (pos + 1) else (pos : Int) := by
  have hg : s.get! pos = s[pos]'h := by
    show s.data[pos]! = s.data[pos]'h
    exact getElem!_pos s.data pos h
  rw [hg, otherFrom, if_pos h]
  by_cases ha : (s[pos]'h).toNat < 128
  · rw [decode_ascii s pos h ha]
    by_cases hc : 65 ≤ (s[pos]'h).toNat ∧ (s[pos]'h).toNat ≤ 90
    · rw [if_pos hc, if_neg (by simp [other]; omega)]
    · rw [if_neg hc, if_pos (by simp [other]; omega)]
  · have hd := (decode_high s pos h (by omega)).1
    rw [if_pos (by simp [other]; omega), if_neg (by omega)]

theorem other_three (s : ByteArray) (h : s.size = 3) : otherFrom s 3 0 < 0 ↔ (65 ≤ (s.get! 0).toNat ∧ (s.get! 0).toNat ≤ 90) ∧ (65 ≤ (s.get! 1).toNat ∧ (s.get! 1).toNat ≤ 90) ∧ 65 ≤ (s.get! 2).toNat ∧ (s.get! 2).toNat ≤ 90 := by
  rw [other_at s 0 2 (by omega)]
  by_cases h0 : 65 ≤ (s.get! 0).toNat ∧ (s.get! 0).toNat ≤ 90
  · rw [if_pos h0, other_at s 1 1 (by omega)]
    by_cases h1 : 65 ≤ (s.get! 1).toNat ∧ (s.get! 1).toNat ≤ 90
    · rw [if_pos h1, other_at s 2 0 (by omega)]
      by_cases h2 : 65 ≤ (s.get! 2).toNat ∧ (s.get! 2).toNat ≤ 90
      · rw [if_pos h2]
        exact ⟨fun _ => ⟨h0, h1, h2⟩, fun _ => by simp [otherFrom]⟩
      · rw [if_neg h2]
        exact ⟨fun h => by omega, fun h => absurd h.2.2 h2⟩
    · rw [if_neg h1]
      exact ⟨fun h => by omega, fun h => absurd h.2.1 h1⟩
  · rw [if_neg h0]
    exact ⟨fun h => by omega, fun h => absurd h.1 h0⟩

theorem isCur_eq (s : ByteArray) : isCur s = isCurB s := by
  rw [Bool.eq_iff_iff]
  unfold isCur isCurB
  simp only [Bool.and_eq_true, beq_iff_eq, decide_eq_true_eq]
  constructor
  · rintro ⟨h, h'⟩
    rw [h] at h'
    exact ⟨h, (other_three s h).1 h'⟩
  · rintro ⟨h, h'⟩
    refine ⟨h, ?_⟩
    rw [h]
    exact (other_three s h).2 h'
end Go.Proofs.YtoggclbhjoodoaaDoor
