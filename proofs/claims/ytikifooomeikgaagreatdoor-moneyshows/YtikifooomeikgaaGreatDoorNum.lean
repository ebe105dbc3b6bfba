/-
  Numerals: what digits spell, and the digits of a number; an amount as text. It names no program.
-/
import Derived.Lib.ItoaNum
import Derived.Lib.ParseIntB
import Derived.Lib.Strings
import Derived.Test.YtikifooomeikgaaGreatDoorDig
namespace Go.Proofs.YtikifooomeikgaaGreatDoor
open Go.Lib
set_option linter.unusedVariables false
set_option linter.unusedSimpArgs false

/-- What digits spell behind a number. -/
def stepA (a : Nat) (c : UInt8) : Nat := a * 10 + (c.toNat - 48)
def valA (acc : Nat) (l : List UInt8) : Nat := l.foldl stepA acc

theorem pow_step (a b k : Nat) (h : a * 10 ≤ b) : a * 10 ^ (k + 1) ≤ b * 10 ^ k := by
  rw [Nat.pow_succ, Nat.mul_comm (10 ^ k) 10, ← Nat.mul_assoc]
  exact Nat.mul_le_mul_right _ h

theorem valA_cons (acc : Nat) (c : UInt8) (r : List UInt8) : valA acc (c :: r) = valA (acc * 10 + (c.toNat - 48)) r := by unfold valA; rw [List.foldl_cons]; unfold stepA; exact Eq.refl _
theorem valA_nil (acc : Nat) : valA acc [] = acc := List.foldl_nil

theorem valA_app (acc : Nat) (l m : List UInt8) : valA acc (l ++ m) = valA (valA acc l) m := by
  induction l generalizing acc with
  | nil => rw [List.nil_append, valA_nil]
  | cons c r ih => rw [List.cons_append, valA_cons, valA_cons]; exact ih _

theorem valA_ge : ∀ (l : List UInt8) (acc : Nat), acc * 10 ^ l.length ≤ valA acc l
  | [], acc => by rw [valA_nil, List.length_nil, Nat.pow_zero, Nat.mul_one]; exact Nat.le_refl _
  | c :: r, acc => by
    rw [valA_cons, List.length_cons]
    exact Nat.le_trans (pow_step acc _ r.length (Nat.le_add_right _ _)) (valA_ge r _)

theorem pow_step2 (a b k : Nat) (h : b + 1 ≤ (a + 1) * 10) : (b + 1) * 10 ^ k ≤ (a + 1) * 10 ^ (k + 1) := by
  rw [Nat.pow_succ, Nat.mul_comm (10 ^ k) 10, ← Nat.mul_assoc]
  exact Nat.mul_le_mul_right _ h

theorem valA_lt : ∀ (l : List UInt8) (acc : Nat), l.all isDig = true → valA acc l < (acc + 1) * 10 ^ l.length
  | [], acc, _ => by rw [valA_nil, List.length_nil, Nat.pow_zero, Nat.mul_one]; exact Nat.lt_succ_self _
  | c :: r, acc, hd => by
    rw [List.all_cons, Bool.and_eq_true] at hd
    have hc : c.toNat ≤ 57 := by have := hd.1; simp [isDig] at this; omega
    rw [valA_cons, List.length_cons]
    exact Nat.lt_of_lt_of_le (valA_lt r _ hd.2) (pow_step2 acc _ r.length (by omega))

theorem valA_zeros (k : Nat) (l : List UInt8) : valA 0 (List.replicate k 48 ++ l) = valA 0 l := by
  induction k with
  | zero => rfl
  | succ k ih => rw [List.replicate_succ, List.cons_append, valA_cons]; exact ih

theorem parse_digits (l : List UInt8) (hd : l.all isDig = true) : ∀ acc, valA acc l < 10000000000000000000 → parseUintM (2 ^ 64 - 1) acc l = .ok (valA acc l) := by
  induction l with
  | nil => intro acc _; rw [valA_nil]; rfl
  | cons c r ih =>
    intro acc h
    rw [List.all_cons, Bool.and_eq_true] at hd
    have hc : 48 ≤ c.toNat ∧ c.toNat ≤ 57 := by have := hd.1; simp [isDig] at this; exact this
    have hg := valA_ge r (acc * 10 + (c.toNat - 48))
    have hp : 1 ≤ 10 ^ r.length := Nat.one_le_pow _ _ (by decide)
    have hg2 : acc * 10 + (c.toNat - 48) ≤ valA (acc * 10 + (c.toNat - 48)) r := Nat.le_trans (Nat.le_mul_of_pos_right _ hp) hg
    rw [valA_cons] at h ⊢
    rw [parseUintM, if_pos hc, if_neg (by omega), if_neg (by omega), ih hd.2 _ h]

theorem parse_all (l : List UInt8) (h0 : l ≠ []) (hd : l.all isDig = true) (hl : l.length ≤ 19) : parseUintB 64 l = .ok (valA 0 l) := by
  have h := valA_lt l 0 hd
  have h2 : 10 ^ l.length ≤ 10 ^ 19 := Nat.pow_le_pow_right (by decide) hl
  have h3 : (10 : Nat) ^ 19 = 10000000000000000000 := by decide
  rw [parseUintB, if_neg h0, parse_digits l hd 0 (by omega)]

theorem dec_ne (u : Nat) : decDigits u ≠ [] := by
  intro h
  have h1 := decDigits_length u
  have h2 := nDigits_pos u
  rw [h, List.length_nil] at h1; omega

theorem dig_of (k : Nat) (h : k < 10) : (UInt8.ofNat (48 + k)).toNat = 48 + k := by
  rw [UInt8.toNat_ofNat']; omega

theorem dec_val (u : Nat) : valA 0 (decDigits u) = u := by
  induction u using Nat.strongRecOn with
  | _ u ih =>
    by_cases h : u < 10
    · rw [decDigits, dif_pos h]
      simp only [valA_cons, valA_nil]
      rw [dig_of u h]; omega
    · rw [decDigits, dif_neg h, valA_app, ih (u / 10) (by omega)]
      simp only [valA_cons, valA_nil]
      rw [dig_of _ (by omega)]; omega

theorem dec_digits (u : Nat) : (decDigits u).all isDig = true := by
  induction u using Nat.strongRecOn with
  | _ u ih =>
    by_cases h : u < 10
    · rw [decDigits, dif_pos h]
      simp only [List.all_cons, List.all_nil, Bool.and_true, isDig]
      rw [dig_of u h]; simp; omega
    · rw [decDigits, dif_neg h, List.all_append, ih (u / 10) (by omega)]
      simp only [List.all_cons, List.all_nil, Bool.and_true, Bool.true_and, isDig]
      rw [dig_of _ (by omega)]; simp; omega

theorem dec_head (u : Nat) (h1 : 1 ≤ u) : (decDigits u).head? ≠ some 48 := by
  induction u using Nat.strongRecOn with
  | _ u ih =>
    by_cases h : u < 10
    · rw [decDigits, dif_pos h]
      intro h'
      have h2 := congrArg UInt8.toNat (Option.some.inj h')
      rw [dig_of u h] at h2
      have h3 : (48 : UInt8).toNat = 48 := rfl
      omega
    · rw [decDigits, dif_neg h]
      have h2 := ih (u / 10) (by omega) (by omega)
      cases hq : decDigits (u / 10) with
      | nil => exact absurd hq (dec_ne _)
      | cons c r => rw [hq] at h2; exact h2

theorem dec_low (u : Nat) (h1 : 1 ≤ u) : 10 ^ (nDigits u - 1) ≤ u := by
  induction u using Nat.strongRecOn with
  | _ u ih =>
    by_cases h : u < 10
    · rw [nDigits_small h]; simpa using h1
    · have := ih (u / 10) (by omega) (by omega)
      have hp := nDigits_pos (u / 10)
      obtain ⟨k, hk⟩ : ∃ k, nDigits (u / 10) = k + 1 := ⟨nDigits (u / 10) - 1, by omega⟩
      rw [hk, Nat.add_sub_cancel] at this
      rw [nDigits_big h, hk, Nat.add_sub_cancel, Nat.pow_succ]; omega

/-- So few digits. -/
theorem dec_few (u L : Nat) (hL : 1 ≤ L) (h : u < 10 ^ L) : nDigits u ≤ L := by
  by_cases h1 : 1 ≤ u
  · have h2 := dec_low u h1
    have h3 : nDigits u - 1 < L := by
      rcases Nat.lt_or_ge (nDigits u - 1) L with h' | h'
      · exact h'
      · have := Nat.pow_le_pow_right (n := 10) (by decide) h'
        omega
    omega
  · rw [nDigits_small (by omega)]; exact hL

/-- Digits of one length that spell the same are the same. -/
theorem dig_unique : ∀ (n : Nat) (l m : List UInt8), l.length = n → m.length = n → l.all isDig = true → m.all isDig = true → valA 0 l = valA 0 m → l = m
  | 0, l, m, hl, hm, _, _, _ => by rw [List.length_eq_zero_iff.1 hl, List.length_eq_zero_iff.1 hm]
  | n + 1, l, m, hl, hm, dl, dm, h => by
    have nl : l ≠ [] := by intro h'; rw [h'] at hl; simp at hl
    have nm : m ≠ [] := by intro h'; rw [h'] at hm; simp at hm
    have el := List.dropLast_concat_getLast nl
    have em := List.dropLast_concat_getLast nm
    generalize l.getLast nl = c at el
    generalize m.getLast nm = d at em
    have hl' : l.dropLast.length = n := by rw [List.length_dropLast]; omega
    have hm' : m.dropLast.length = n := by rw [List.length_dropLast]; omega
    rw [← el, List.all_append, Bool.and_eq_true] at dl
    rw [← em, List.all_append, Bool.and_eq_true] at dm
    rw [← el, ← em, valA_app, valA_app] at h
    have hc : 48 ≤ c.toNat ∧ c.toNat ≤ 57 := by have := dl.2; simp [isDig] at this; exact this
    have hd : 48 ≤ d.toNat ∧ d.toNat ≤ 57 := by have := dm.2; simp [isDig] at this; exact this
    simp only [valA_cons, valA_nil] at h
    have h1 : valA 0 l.dropLast = valA 0 m.dropLast := by omega
    have h2 : c = d := UInt8.toNat_inj.1 (by omega)
    rw [← el, ← em, dig_unique n _ _ hl' hm' dl.1 dm.1 h1, h2]

/-- Zeros ahead, for one digit more than the places. -/
def padTo (p : Nat) (l : List UInt8) : List UInt8 := List.replicate (p + 1 - l.length) 48 ++ l

theorem pad_length (p : Nat) (l : List UInt8) : (padTo p l).length = max (p + 1) l.length := by
  simp [padTo]; omega
theorem pad_val (p : Nat) (l : List UInt8) : valA 0 (padTo p l) = valA 0 l := valA_zeros _ _
theorem pad_digits (p : Nat) (l : List UInt8) (h : l.all isDig = true) : (padTo p l).all isDig = true := by
  rw [padTo, List.all_append, h, Bool.and_true, List.all_replicate]
  split <;> simp [isDig]

/-- What is shown is of the form that is read. -/
theorem pad_shown (p u : Nat) : shownL (padTo p (decDigits u)) p = true := by
  have hl := pad_length p (decDigits u)
  have h1 : p + 1 ≤ (padTo p (decDigits u)).length := by omega
  rw [shownL, pad_digits p _ (dec_digits u), decide_eq_true h1]
  by_cases h2 : p + 1 < (padTo p (decDigits u)).length
  · have h3 : p + 1 < (decDigits u).length := by omega
    have e : padTo p (decDigits u) = decDigits u := by simp [padTo, show p + 1 - (decDigits u).length = 0 by omega]
    have hu : 1 ≤ u := by
      rcases Nat.lt_or_ge u 10 with h' | h'
      · rw [decDigits_length, nDigits_small h'] at h3; omega
      · omega
    have h4 := dec_head u hu
    rw [e]
    simp [h4]
  · rw [decide_eq_false h2]; rfl

/-- Digits that are read are those of their number. -/
theorem pad_back (p : Nat) (d : List UInt8) (hs : shownL d p = true) : padTo p (decDigits (valA 0 d)) = d := by
  simp only [shownL, Bool.and_eq_true, decide_eq_true_eq, Bool.not_eq_true'] at hs
  obtain ⟨⟨h1, h2⟩, hd⟩ := hs
  have hlt := valA_lt d 0 hd
  rw [Nat.zero_add, Nat.one_mul] at hlt
  refine dig_unique d.length _ _ ?_ rfl (pad_digits p _ (dec_digits _)) hd (by rw [pad_val, dec_val])
  rw [pad_length, decDigits_length]
  by_cases h3 : p + 1 < d.length
  · obtain ⟨c, r, rfl⟩ : ∃ c r, d = c :: r := by
      cases d with
      | nil => simp at h1
      | cons c r => exact ⟨c, r, rfl⟩
    have hc : c ≠ 48 := by
      rw [decide_eq_true h3, Bool.true_and] at h2
      simpa using h2
    rw [List.all_cons, Bool.and_eq_true] at hd
    have hc1 : 48 ≤ c.toNat := by have := hd.1; simp [isDig] at this; exact this.1
    have hc2 : c.toNat ≠ 48 := fun h' => hc (UInt8.toNat_inj.1 h')
    have hge : 10 ^ r.length ≤ valA 0 (c :: r) := by
      have := valA_ge r (0 * 10 + (c.toNat - 48))
      have h5 : 1 * 10 ^ r.length ≤ (0 * 10 + (c.toNat - 48)) * 10 ^ r.length := Nat.mul_le_mul_right _ (by omega)
      have h6 := valA_cons 0 c r
      omega
    rw [List.length_cons] at hlt h3 ⊢
    rw [nDigits_unique r.length _ hge hlt]
    omega
  · have h4 : d.length = p + 1 := by omega
    have := dec_few (valA 0 d) (p + 1) (by omega) (by rw [← h4]; exact hlt)
    omega

theorem point_back (d : List UInt8) (p : Nat) (h : p + 1 ≤ d.length) : unL (pointL d p) p = some d := by
  by_cases h0 : p = 0
  · simp [unL, pointL, h0]
  · have hk : d.length - p ≤ d.length := by omega
    have hl : (pointL d p).length = d.length + 1 := by simp [pointL, h0]; omega
    have e1 : (pointL d p).length - p - 1 = d.length - p := by omega
    have e2 : (pointL d p).length - p = d.length - p + 1 := by omega
    have ht : (d.take (d.length - p)).length = d.length - p := by simp
    have e3 : pointL d p = d.take (d.length - p) ++ 46 :: d.drop (d.length - p) := by simp [pointL, h0]
    unfold unL
    rw [if_neg h0, e1, e2, if_pos ⟨by omega, by rw [e3, List.getElem?_append_right (by omega), ht, Nat.sub_self]; rfl⟩]
    congr 1
    rw [e3, List.take_append_of_le_length (by omega), List.take_of_length_le (by omega), List.drop_append, ht]
    have e4 : d.length - p + 1 - (d.length - p) = 1 := by omega
    rw [List.drop_of_length_le (by omega), e4]
    simp

theorem un_back (t d : List UInt8) (p : Nat) (h : unL t p = some d) : pointL d p = t := by
  by_cases h0 : p = 0
  · simp [unL, h0] at h; simp [pointL, h0, h]
  · unfold unL at h
    rw [if_neg h0] at h
    split at h
    · rename_i hc
      have h := Option.some.inj h
      subst h
      obtain ⟨h1, h2⟩ := hc
      obtain ⟨k, hk⟩ : ∃ k, t.length - p - 1 = k := ⟨_, rfl⟩
      have hk1 : t.length - p = k + 1 := by omega
      rw [hk] at h2
      rw [hk, hk1]
      have hl : (t.take k ++ t.drop (k + 1)).length - p = k := by simp; omega
      have ht : (t.take k).length = k := by simp; omega
      rw [pointL, if_neg h0, hl, List.take_append_of_le_length (by omega), List.take_of_length_le (by omega), List.drop_append, ht, List.drop_of_length_le (by omega), Nat.sub_self]
      have hk2 : k < t.length := by omega
      rw [List.getElem?_eq_getElem hk2] at h2
      have h3 : t[k]'hk2 = 46 := Option.some.inj h2
      rw [List.drop_zero, List.nil_append, ← h3, ← List.drop_eq_getElem_cons hk2, List.take_append_drop]
    · cases h

/-- An amount as text. -/
def showS (a : Int) (p : Nat) : List UInt8 := if a < 0 then 45 :: pointL (padTo p (decDigits a.natAbs)) p else pointL (padTo p (decDigits a.natAbs)) p

/-- A text as an amount. -/
def readS (l : List UInt8) (p : Nat) : Option Int :=
  match unL (trimPrefix l [45]) p with
  | none => none
  | some d => if shownL d p = true ∧ d.length ≤ 19 then
      (if hasPrefix l [45] = true then (if 1 ≤ valA 0 d ∧ valA 0 d ≤ 9223372036854775808 then some (-(valA 0 d : Int)) else none)
       else (if valA 0 d ≤ 9223372036854775807 then some (valA 0 d : Int) else none))
    else none

theorem point_head (d : List UInt8) (p : Nat) (h : p + 1 ≤ d.length) : (pointL d p).head? = d.head? := by
  by_cases h0 : p = 0
  · simp [pointL, h0]
  · rw [pointL, if_neg h0]
    cases d with
    | nil => simp at h
    | cons c r =>
      have : (c :: r).length - p = (r.length - p) + 1 := by simp at h ⊢; omega
      rw [this]; rfl

theorem show_read (a : Int) (p : Nat) (h1 : -9223372036854775808 ≤ a) (h2 : a ≤ 9223372036854775807) (hp : p ≤ 6) : readS (showS a p) p = some a := by
  obtain ⟨u, hu⟩ : ∃ u, a.natAbs = u := ⟨_, rfl⟩
  have hul : u ≤ 9223372036854775808 := by omega
  have hn : nDigits u ≤ 19 := dec_few u 19 (by decide) (by have : (10 : Nat) ^ 19 = 10000000000000000000 := by decide
                                                           omega)
  have hP : p + 1 ≤ (padTo p (decDigits u)).length := by rw [pad_length]; omega
  have hP19 : (padTo p (decDigits u)).length ≤ 19 := by rw [pad_length, decDigits_length]; omega
  have hb := point_back _ p hP
  have hs := pad_shown p u
  have hv : valA 0 (padTo p (decDigits u)) = u := by rw [pad_val, dec_val]
  have hh := point_head _ p hP
  have hd := pad_digits p _ (dec_digits u)
  unfold showS
  rw [hu]
  obtain ⟨Q, hQ⟩ : ∃ Q, padTo p (decDigits u) = Q := ⟨_, rfl⟩
  rw [hQ] at hP hP19 hb hs hv hh hd ⊢
  by_cases hneg : a < 0
  · rw [if_pos hneg]
    have e1 : hasPrefix (45 :: pointL Q p) [45] = true := by simp [hasPrefix, List.isPrefixOf]
    have e2 : trimPrefix (45 :: pointL Q p) [45] = pointL Q p := by simp [trimPrefix, e1]
    unfold readS
    rw [e1, e2, hb]
    simp only [hs, hP19, hv, and_self, if_true]
    rw [if_pos (by omega)]
    congr 1; omega
  · rw [if_neg hneg]
    have e1 : hasPrefix (pointL Q p) [45] = false := by
      cases hq : pointL Q p with
      | nil => rfl
      | cons c r =>
        cases Q with
        | nil => simp at hP
        | cons c' r' =>
          rw [hq] at hh
          have hcc : c = c' := Option.some.inj hh
          rw [List.all_cons, Bool.and_eq_true] at hd
          have hc1 : 48 ≤ c'.toNat := by have := hd.1; simp [isDig] at this; exact this.1
          have hc2 : ¬ c = 45 := by
            intro h'; rw [hcc] at h'; rw [h'] at hc1
            have : (45 : UInt8).toNat = 45 := rfl
            omega
          have hc3 : ¬ (45 : UInt8) = c := fun h => hc2 h.symm
          simp [hasPrefix, List.isPrefixOf, hc3]
    have e2 : trimPrefix (pointL Q p) [45] = pointL Q p := by simp [trimPrefix, e1]
    unfold readS
    rw [e1, e2, hb]
    simp only [hs, hP19, hv, and_self, if_true, Bool.false_eq_true, if_false]
    rw [if_pos (by omega)]
    congr 1; omega

theorem read_show (l : List UInt8) (p : Nat) (n : Int) (h : readS l p = some n) : showS n p = l := by
  unfold readS at h
  cases hu : unL (trimPrefix l [45]) p with
  | none => rw [hu] at h; cases h
  | some d =>
    rw [hu] at h
    have hb := un_back _ _ _ hu
    simp only at h
    split at h
    · rename_i hc
      have hpb := pad_back p d hc.1
      split at h
      · rename_i hp
        split at h
        · rename_i hv
          obtain rfl := Option.some.inj h
          unfold showS
          have e : (-(valA 0 d : Int)).natAbs = valA 0 d := by omega
          rw [if_pos (by omega), e, hpb, hb]
          cases l with
          | nil => simp [hasPrefix, List.isPrefixOf] at hp
          | cons c r =>
            have hcc : c = 45 := by simp [hasPrefix, List.isPrefixOf] at hp; exact hp.symm
            rw [hcc]
            rw [hcc] at hp
            simp [trimPrefix, hp]
        · cases h
      · rename_i hp
        split at h
        · rename_i hv
          obtain rfl := Option.some.inj h
          unfold showS
          have e : ((valA 0 d : Nat) : Int).natAbs = valA 0 d := by omega
          rw [if_neg (by omega), e, hpb, hb]
          simp [trimPrefix, hp]
        · cases h
    · cases h
end Go.Proofs.YtikifooomeikgaaGreatDoor
