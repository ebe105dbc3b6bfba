/-
  Numbers alone: a text cut into digits and a point, against the amounts that money reads.
-/
import Derived.Test.YtikifooomeikgaaGreatDoorTxt4
import Derived.Test.YtikifooomeikgaaGreatDoorWBigT5
namespace Go.Proofs.YtikifooomeikgaaGreatDoor
set_option linter.unusedVariables false
set_option linter.unusedSimpArgs false
open Go.Lib

/-- Digits and the point of a text. -/
def rGo : List UInt8 → List UInt8 → Option Nat → Option (List UInt8 × Option Nat)
  | [], d, pt => some (d, pt)
  | c :: r, d, pt => if c = 46 ∧ pt = none then rGo r d (some d.length) else if isDig c = true then rGo r (d ++ [c]) pt else none

theorem isDig46 : isDig 46 = false := by decide

theorem rGo_digs : ∀ (m d : List UInt8) (pt : Option Nat), m.all isDig = true → rGo m d pt = some (d ++ m, pt)
  | [], d, pt, _ => by simp [rGo]
  | c :: r, d, pt, h => by
    rw [List.all_cons, Bool.and_eq_true] at h
    have hc : c ≠ 46 := fun e => by rw [e, isDig46] at h; exact absurd h.1 (by simp)
    rw [rGo, if_neg (fun x => hc x.1), if_pos h.1, rGo_digs r _ pt h.2]
    simp
theorem rGo_app : ∀ (m r d : List UInt8) (pt : Option Nat), m.all isDig = true → rGo (m ++ r) d pt = rGo r (d ++ m) pt
  | [], r, d, pt, _ => by simp
  | c :: m, r, d, pt, h => by
    rw [List.all_cons, Bool.and_eq_true] at h
    have hc : c ≠ 46 := fun e => by rw [e, isDig46] at h; exact absurd h.1 (by simp)
    rw [List.cons_append, rGo, if_neg (fun x => hc x.1), if_pos h.1, rGo_app m r _ pt h.2]
    simp
/-- Once the point has been seen, digits alone follow. -/
theorem rGo_some : ∀ (m d d' : List UInt8) (k : Nat) (pt : Option Nat), rGo m d (some k) = some (d', pt) → pt = some k ∧ d' = d ++ m ∧ m.all isDig = true
  | [], d, d', k, pt, h => by
    simp [rGo] at h
    exact ⟨h.2.symm, by simp [h.1], rfl⟩
  | c :: r, d, d', k, pt, h => by
    rw [rGo, if_neg (fun x => by cases x.2)] at h
    split at h
    · rename_i hc
      obtain ⟨h1, h2, h3⟩ := rGo_some r _ d' k pt h
      exact ⟨h1, by rw [h2]; simp, by rw [List.all_cons, hc, h3]; rfl⟩
    · cases h
theorem rGo_none : ∀ (m d d' : List UInt8) (pt : Option Nat), rGo m d none = some (d', pt) →
    (pt = none ∧ d' = d ++ m ∧ m.all isDig = true) ∨ (∃ a b, m = a ++ 46 :: b ∧ a.all isDig = true ∧ b.all isDig = true ∧ d' = d ++ a ++ b ∧ pt = some (d.length + a.length))
  | [], d, d', pt, h => by
    simp [rGo] at h
    exact .inl ⟨h.2.symm, by simp [h.1], rfl⟩
  | c :: r, d, d', pt, h => by
    rw [rGo] at h
    split at h
    · rename_i hc
      obtain ⟨h1, h2, h3⟩ := rGo_some r _ d' _ pt h
      refine .inr ⟨[], r, by rw [hc.1]; rfl, rfl, h3, by rw [h2]; simp, by rw [h1]; simp⟩
    · split at h
      · rename_i hn hc
        rcases rGo_none r _ d' pt h with ⟨h1, h2, h3⟩ | ⟨a, b, h1, h2, h3, h4, h5⟩
        · exact .inl ⟨h1, by rw [h2]; simp, by rw [List.all_cons, hc, h3]; rfl⟩
        · refine .inr ⟨c :: a, b, by rw [h1]; rfl, by rw [List.all_cons, hc, h2]; rfl, h3, by rw [h4]; simp, by rw [h5]; simp; omega⟩
      · cases h

/-- The digits ahead of the point. -/
def hdL (d : List UInt8) (pt : Option Nat) : Nat := pt.getD d.length
def rGood (d : List UInt8) (pt : Option Nat) (p : Nat) : Prop :=
  hdL d pt ≠ 0 ∧ (pt.isSome = true ↔ 0 < p) ∧ d.length = hdL d pt + p ∧ ¬ (d.head? = some 48 ∧ 1 < hdL d pt)

theorem good_shown {t d : List UInt8} {pt : Option Nat} {p : Nat} (h : rGo t [] none = some (d, pt)) (g : rGood d pt p) : unL t p = some d ∧ shownL d p = true := by
  obtain ⟨g1, g2, g3, g4⟩ := g
  have hall : d.all isDig = true := by
    rcases rGo_none t [] d pt h with ⟨h1, h2, h3⟩ | ⟨a, b, h1, h2, h3, h4, h5⟩
    · rw [h2]; exact h3
    · rw [h4, List.nil_append, List.all_append, h2, h3]; rfl
  have hsh : shownL d p = true := by
    unfold shownL
    rw [hall, decide_eq_true (show p + 1 ≤ d.length by omega)]
    simp only [Bool.true_and, Bool.and_true, Bool.not_eq_true', Bool.and_eq_false_iff]
    by_cases h1 : p + 1 < d.length
    · right
      rw [beq_eq_false_iff_ne]
      exact fun e => g4 ⟨e, by omega⟩
    · left
      exact decide_eq_false h1
  refine ⟨?_, hsh⟩
  rcases rGo_none t [] d pt h with ⟨h1, h2, h3⟩ | ⟨a, b, h1, h2, h3, h4, h5⟩
  · subst h1
    have hp : p = 0 := by
      rcases Nat.eq_zero_or_pos p with h' | h'
      · exact h'
      · exact absurd (g2.2 h') (by simp)
    rw [List.nil_append] at h2
    rw [hp, h2]
    simp [unL]
  · subst h5
    have hp : 0 < p := g2.1 rfl
    simp only [hdL, Option.getD_some, List.length_nil, Nat.zero_add] at g1 g3
    rw [List.nil_append] at h4
    have hpt : pointL d p = t := by
      have e : d.length - p = a.length := by omega
      rw [pointL, if_neg (by omega), e, h4, h1]
      simp
    rw [← hpt]
    exact point_back d p (by omega)
theorem shown_good {t d : List UInt8} {p : Nat} (h : unL t p = some d) (hs : shownL d p = true) : ∃ pt, rGo t [] none = some (d, pt) ∧ rGood d pt p := by
  have hpt := un_back t d p h
  simp only [shownL, Bool.and_eq_true, decide_eq_true_eq, Bool.not_eq_true', Bool.and_eq_false_iff, decide_eq_false_iff_not, beq_eq_false_iff_ne] at hs
  obtain ⟨⟨h1, h2⟩, h3⟩ := hs
  by_cases hp : p = 0
  · subst hp
    have e : t = d := by rw [← hpt]; simp [pointL]
    refine ⟨none, by rw [e, rGo_digs d [] none h3]; rfl, ?_, ?_, ?_, ?_⟩
    · simp [hdL]; exact List.length_pos_iff.1 (by omega)
    · simp
    · simp [hdL]
    · rintro ⟨e1, e2⟩
      simp only [hdL, Option.getD_none] at e2
      rcases h2 with h2 | h2
      · omega
      · exact h2 e1
  · have e : t = d.take (d.length - p) ++ 46 :: d.drop (d.length - p) := by rw [← hpt, pointL, if_neg hp]
    have ha : (d.take (d.length - p)).all isDig = true := by
      rw [List.all_eq_true] at h3 ⊢
      exact fun x hx => h3 x (List.mem_of_mem_take hx)
    have hb : (d.drop (d.length - p)).all isDig = true := by
      rw [List.all_eq_true] at h3 ⊢
      exact fun x hx => h3 x (List.mem_of_mem_drop hx)
    refine ⟨some (d.length - p), ?_, ?_, ?_, ?_, ?_⟩
    · rw [e, rGo_app _ _ _ _ ha, rGo, if_pos ⟨rfl, rfl⟩, rGo_digs _ _ _ hb]
      simp
    · simp [hdL]; omega
    · simp; omega
    · simp [hdL]; omega
    · rintro ⟨e1, e2⟩
      simp only [hdL, Option.getD_some] at e2
      rcases h2 with h2 | h2
      · omega
      · exact h2 e1

/-- The end of the reading. -/
def rdV (neg : Bool) (v : Nat) : Int × Int :=
  if neg = true then (if v = 0 then (0, 2) else if v ≤ 9223372036854775808 then (-(v : Int), 0) else (0, 10))
  else (if v ≤ 9223372036854775807 then ((v : Int), 0) else (0, 10))

theorem shown_much (d : List UInt8) (p : Nat) (hp : p ≤ 6) (hs : shownL d p = true) (h : 19 < d.length) : 10000000000000000000 ≤ valA 0 d := by
  simp only [shownL, Bool.and_eq_true, decide_eq_true_eq, Bool.not_eq_true', Bool.and_eq_false_iff, decide_eq_false_iff_not, beq_eq_false_iff_ne] at hs
  obtain ⟨⟨h1, h2⟩, h3⟩ := hs
  cases d with
  | nil => simp at h
  | cons c r =>
    have hc : c ≠ 48 := by
      rcases h2 with h2 | h2
      · omega
      · simpa using h2
    rw [List.all_cons, Bool.and_eq_true] at h3
    have hc1 : 48 ≤ c.toNat := by have := h3.1; simp [isDig] at this; exact this.1
    have hc2 : c.toNat ≠ 48 := fun h' => hc (UInt8.toNat_inj.1 h')
    have := valA_ge r (0 * 10 + (c.toNat - 48))
    have h5 : 1 * 10 ^ r.length ≤ (0 * 10 + (c.toNat - 48)) * 10 ^ r.length := Nat.mul_le_mul_right _ (by omega)
    have h6 := valA_cons 0 c r
    have h7 : 10 ^ 19 ≤ 10 ^ r.length := Nat.pow_le_pow_right (by decide) (by rw [List.length_cons] at h; omega)
    have h8 : (10 : Nat) ^ 19 = 10000000000000000000 := by decide
    omega

theorem rdC_good {l d : List UInt8} {pt : Option Nat} {p : Nat} (hp : p ≤ 6) (h : rGo (trimPrefix l [45]) [] none = some (d, pt)) (g : rGood d pt p) : rdC l p = rdV (hasPrefix l [45]) (valA 0 d) := by
  obtain ⟨h1, h2⟩ := good_shown h g
  unfold rdC rdV
  rw [h1]
  simp only
  rw [if_pos h2]
  by_cases h19 : d.length ≤ 19
  · rw [if_pos h19]
  · have := shown_much d p hp h2 (by omega)
    rw [if_neg h19]
    cases hasPrefix l [45] with
    | true => rw [if_pos rfl, if_neg (by omega), if_neg (by omega)]
    | false => rw [if_neg (by simp), if_neg (by omega)]
theorem rdC_bad {l : List UInt8} {p : Nat} (h : ∀ d pt, rGo (trimPrefix l [45]) [] none = some (d, pt) → ¬ rGood d pt p) : rdC l p = (0, 2) := by
  unfold rdC
  cases hu : unL (trimPrefix l [45]) p with
  | none => rfl
  | some d =>
    simp only
    by_cases hs : shownL d p = true
    · obtain ⟨pt, h1, h2⟩ := shown_good hu hs
      exact absurd h2 (h d pt h1)
    · rw [if_neg hs]
end Go.Proofs.YtikifooomeikgaaGreatDoor
