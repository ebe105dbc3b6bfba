/-
  The contracts of quarterdaybig's bit, TrailingZeroBits and IsInt64, and of dayref1's Small: does a number fit into 64 bits?
-/
import Derived.Test.YtijjegkkeigeoaaZb20
import Derived.Lib.OthersKept
import Derived.Lib.TrimU
import Derived.Deep.LoopGhost
import Derived.Lib.ItoaNum
import Derived.Lib.ParseIntB
import Derived.Lib.Strings
import Derived.Maps.AppendAt
import Derived.Laws.BytesArg
import Derived.Test.YtijjegkkeigeoaaZb1
import Derived.Test.YtijjegkkeigeoaaZb19
namespace Go.Proofs.Ytijjegkkeigeoaa
set_option linter.unusedVariables false
set_option linter.unusedSimpArgs false
open Go.RowKit Go.Lib

/-- A sign that is no digit. -/
def noDig (r : Nat) : Bool := decide (r < 48) || decide (57 < r)

/-- Is there such a sign, from a place on, among at most so many? -/
def noDigFrom (s : ByteArray) : Nat → Nat → Int
  | 0, _ => -1
  | f + 1, pos => if pos < s.size then (if noDig (Utf8.decode s pos).1 = true then (pos : Int) else noDigFrom s f (pos + (Utf8.decode s pos).2)) else -1

theorem noDigFrom_end (s : ByteArray) (f pos : Nat) (h : ¬ pos < s.size) : noDigFrom s f pos = -1 := by cases f <;> simp [noDigFrom, h]

theorem noDigFrom_ge (s : ByteArray) : ∀ (f pos : Nat), -1 ≤ noDigFrom s f pos
  | 0, _ => by simp [noDigFrom]
  | f + 1, pos => by
    unfold noDigFrom
    split
    · split
      · omega
      · exact noDigFrom_ge s f _
    · omega

/-- A digit. -/
def isDig (b : UInt8) : Bool := decide (48 ≤ b.toNat) && decide (b.toNat ≤ 57)

theorem noDig_at (s : ByteArray) (pos f : Nat) (h : pos < s.size) : noDigFrom s (f + 1) pos = if isDig (s[pos]'h) = true then noDigFrom s f (pos + 1) else (pos : Int) := by
  rw [noDigFrom, if_pos h]
  by_cases ha : (s[pos]'h).toNat < 128
  · rw [decode_ascii s pos h ha]
    by_cases hc : 48 ≤ (s[pos]'h).toNat ∧ (s[pos]'h).toNat ≤ 57
    · have e1 : noDig (s[pos]'h).toNat = false := by simp [noDig]; omega
      have e2 : isDig (s[pos]'h) = true := by simp [isDig]; omega
      simp [e1, e2]
    · have e1 : noDig (s[pos]'h).toNat = true := by simp [noDig]; omega
      have e2 : isDig (s[pos]'h) = false := by simp [isDig]; omega
      simp [e1, e2]
  · have hd := (decode_high s pos h (by omega)).1
    have e1 : noDig (Utf8.decode s pos).1 = true := by simp [noDig]; omega
    have e2 : isDig (s[pos]'h) = false := by simp [isDig]; omega
    simp [e1, e2]

theorem noDig_all (s : ByteArray) : ∀ (f pos : Nat), s.size ≤ pos + f → (noDigFrom s f pos < 0 ↔ (s.data.toList.drop pos).all isDig = true)
  | 0, pos, hf => by
    have : s.data.toList.drop pos = [] := List.drop_eq_nil_of_le (by rw [Array.length_toList]; exact hf)
    simp [this, noDigFrom]
  | f + 1, pos, hf => by
    by_cases h : pos < s.size
    · have hl : pos < s.data.toList.length := by rw [Array.length_toList]; exact h
      have hc : s.data.toList.drop pos = s[pos]'h :: s.data.toList.drop (pos + 1) := by
        rw [List.drop_eq_getElem_cons hl]; rfl
      rw [noDig_at s pos f h, hc, List.all_cons]
      by_cases hd : isDig (s[pos]'h) = true
      · rw [if_pos hd, hd, Bool.true_and]
        exact noDig_all s f (pos + 1) (by omega)
      · rw [if_neg hd]
        constructor
        · intro h'; omega
        · intro h'; rw [Bool.and_eq_true] at h'; exact absurd h'.1 hd
    · have : s.data.toList.drop pos = [] := List.drop_eq_nil_of_le (by rw [Array.length_toList]; exact Nat.le_of_not_lt h)
      rw [noDigFrom_end s _ pos h]
      simp [this]

/-- Are these digits shown so, with so many places? -/
def shownL (l : List UInt8) (p : Nat) : Bool := decide (p + 1 ≤ l.length) && !(decide (p + 1 < l.length) && l.head? == some 48) && l.all isDig

end Go.Proofs.Ytijjegkkeigeoaa

namespace Go.Proofs.Ytijjegkkeigeoaa
open Go.Lib
set_option linter.unusedVariables false
set_option linter.unusedSimpArgs false

/-- What digits spell behind a number. -/
def stepA (a : Nat) (c : UInt8) : Nat := a * 10 + (c.toNat - 48)
def valA (acc : Nat) (l : List UInt8) : Nat := l.foldl stepA acc

theorem pow_step (a b k : Nat) (h : a * 10 ≤ b) : a * 10 ^ (k + 1) ≤ b * 10 ^ k := by
  rw [Nat.pow_succ, Nat.mul_comm (10 ^ k) 10, ← Nat.mul_assoc]
  exact Nat.mul_le_mul_right _ h

theorem valA_cons (acc : Nat) (c : UInt8) (r : List UInt8) : valA acc (c :: r) = valA (acc * 10 + (c.toNat - 48)) r := by unfold valA; rw [List.foldl_cons]; unfold stepA; exact Eq.refl _
theorem valA_nil (acc : Nat) : valA acc [] = acc := List.foldl_nil

theorem valA_app (acc : Nat) (l m : List UInt8) : valA acc (l ++ m) = valA (valA acc l) m := by
  induction l generalizing acc with
  | nil => rw [List.nil_append, valA_nil]
  | cons c r ih => rw [List.cons_append, valA_cons, valA_cons]; exact ih _

theorem valA_ge : ∀ (l : List UInt8) (acc : Nat), acc * 10 ^ l.length ≤ valA acc l
  | [], acc => by rw [valA_nil, List.length_nil, Nat.pow_zero, Nat.mul_one]; exact Nat.le_refl _
  | c :: r, acc => by
    rw [valA_cons, List.length_cons]
    exact Nat.le_trans (pow_step acc _ r.length (Nat.le_add_right _ _)) (valA_ge r _)

theorem pow_step2 (a b k : Nat) (h : b + 1 ≤ (a + 1) * 10) : (b + 1) * 10 ^ k ≤ (a + 1) * 10 ^ (k + 1) := by
  rw [Nat.pow_succ, Nat.mul_comm (10 ^ k) 10, ← Nat.mul_assoc]
  exact Nat.mul_le_mul_right _ h

theorem valA_lt : ∀ (l : List UInt8) (acc : Nat), l.all isDig = true → valA acc l < (acc + 1) * 10 ^ l.length
  | [], acc, _ => by rw [valA_nil, List.length_nil, Nat.pow_zero, Nat.mul_one]; exact Nat.lt_succ_self _
  | c :: r, acc, hd => by
    rw [List.all_cons, Bool.and_eq_true] at hd
    have hc : c.toNat ≤ 57 := by have := hd.1; simp [isDig] at this; omega
    rw [valA_cons, List.length_cons]
    exact Nat.lt_of_lt_of_le (valA_lt r _ hd.2) (pow_step2 acc _ r.length (by omega))

theorem valA_zeros (k : Nat) (l : List UInt8) : valA 0 (List.replicate k 48 ++ l) = valA 0 l := by
  induction k with
  | zero => rfl
  | succ k ih => rw [List.replicate_succ, List.cons_append, valA_cons]; exact ih

theorem parse_digits (l : List UInt8) (hd : l.all isDig = true) : ∀ acc, valA acc l < 10000000000000000000 → parseUintM (2 ^ 64 - 1) acc l = .ok (valA acc l) := by
  induction l with
  | nil => intro acc _; rw [valA_nil]; rfl
  | cons c r ih =>
    intro acc h
    rw [List.all_cons, Bool.and_eq_true] at hd
    have hc : 48 ≤ c.toNat ∧ c.toNat ≤ 57 := by have := hd.1; simp [isDig] at this; exact this
    have hg := valA_ge r (acc * 10 + (c.toNat - 48))
    have hp : 1 ≤ 10 ^ r.length := Nat.one_le_pow _ _ (by decide)
    have hg2 : acc * 10 + (c.toNat - 48) ≤ valA (acc * 10 + (c.toNat - 48)) r := Nat.le_trans (Nat.le_mul_of_pos_right _ hp) hg
    rw [valA_cons] at h ⊢
    rw [parseUintM, if_pos hc, if_neg (by omega), if_neg (by omega), ih hd.2 _ h]

theorem parse_all (l : List UInt8) (h0 : l ≠ []) (hd : l.all isDig = true) (hl : l.length ≤ 19) : parseUintB 64 l = .ok (valA 0 l) := by
  have h := valA_lt l 0 hd
  have h2 : 10 ^ l.length ≤ 10 ^ 19 := Nat.pow_le_pow_right (by decide) hl
  have h3 : (10 : Nat) ^ 19 = 10000000000000000000 := by decide
  rw [parseUintB, if_neg h0, parse_digits l hd 0 (by omega)]

theorem dec_ne (u : Nat) : decDigits u ≠ [] := by
  intro h
  have h1 := decDigits_length u
  have h2 := nDigits_pos u
  rw [h, List.length_nil] at h1; omega

theorem dig_of (k : Nat) (h : k < 10) : (UInt8.ofNat (48 + k)).toNat = 48 + k := by
  rw [UInt8.toNat_ofNat']; omega

theorem dec_val (u : Nat) : valA 0 (decDigits u) = u := by
  induction u using Nat.strongRecOn with
  | _ u ih =>
    by_cases h : u < 10
    · rw [decDigits, dif_pos h]
      simp only [valA_cons, valA_nil]
      rw [dig_of u h]; omega
    · rw [decDigits, dif_neg h, valA_app, ih (u / 10) (by omega)]
      simp only [valA_cons, valA_nil]
      rw [dig_of _ (by omega)]; omega

theorem dec_digits (u : Nat) : (decDigits u).all isDig = true := by
  induction u using Nat.strongRecOn with
  | _ u ih =>
    by_cases h : u < 10
    · rw [decDigits, dif_pos h]
      simp only [List.all_cons, List.all_nil, Bool.and_true, isDig]
      rw [dig_of u h]; simp; omega
    · rw [decDigits, dif_neg h, List.all_append, ih (u / 10) (by omega)]
      simp only [List.all_cons, List.all_nil, Bool.and_true, Bool.true_and, isDig]
      rw [dig_of _ (by omega)]; simp; omega

theorem dec_head (u : Nat) (h1 : 1 ≤ u) : (decDigits u).head? ≠ some 48 := by
  induction u using Nat.strongRecOn with
  | _ u ih =>
    by_cases h : u < 10
    · rw [decDigits, dif_pos h]
      intro h'
      have h2 := congrArg UInt8.toNat (Option.some.inj h')
      rw [dig_of u h] at h2
      have h3 : (48 : UInt8).toNat = 48 := rfl
      omega
    · rw [decDigits, dif_neg h]
      have h2 := ih (u / 10) (by omega) (by omega)
      cases hq : decDigits (u / 10) with
      | nil => exact absurd hq (dec_ne _)
      | cons c r => rw [hq] at h2; exact h2

theorem dec_low (u : Nat) (h1 : 1 ≤ u) : 10 ^ (nDigits u - 1) ≤ u := by
  induction u using Nat.strongRecOn with
  | _ u ih =>
    by_cases h : u < 10
    · rw [nDigits_small h]; simpa using h1
    · have := ih (u / 10) (by omega) (by omega)
      have hp := nDigits_pos (u / 10)
      obtain ⟨k, hk⟩ : ∃ k, nDigits (u / 10) = k + 1 := ⟨nDigits (u / 10) - 1, by omega⟩
      rw [hk, Nat.add_sub_cancel] at this
      rw [nDigits_big h, hk, Nat.add_sub_cancel, Nat.pow_succ]; omega

/-- So few digits. -/
theorem dec_few (u L : Nat) (hL : 1 ≤ L) (h : u < 10 ^ L) : nDigits u ≤ L := by
  by_cases h1 : 1 ≤ u
  · have h2 := dec_low u h1
    have h3 : nDigits u - 1 < L := by
      rcases Nat.lt_or_ge (nDigits u - 1) L with h' | h'
      · exact h'
      · have := Nat.pow_le_pow_right (n := 10) (by decide) h'
        omega
    omega
  · rw [nDigits_small (by omega)]; exact hL

/-- Digits of one length that spell the same are the same. -/
theorem dig_unique : ∀ (n : Nat) (l m : List UInt8), l.length = n → m.length = n → l.all isDig = true → m.all isDig = true → valA 0 l = valA 0 m → l = m
  | 0, l, m, hl, hm, _, _, _ => by rw [List.length_eq_zero_iff.1 hl, List.length_eq_zero_iff.1 hm]
  | n + 1, l, m, hl, hm, dl, dm, h => by
    have nl : l ≠ [] := by intro h'; rw [h'] at hl; simp at hl
    have nm : m ≠ [] := by intro h'; rw [h'] at hm; simp at hm
    have el := List.dropLast_concat_getLast nl
    have em := List.dropLast_concat_getLast nm
    generalize l.getLast nl = c at el
    generalize m.getLast nm = d at em
    have hl' : l.dropLast.length = n := by rw [List.length_dropLast]; omega
    have hm' : m.dropLast.length = n := by rw [List.length_dropLast]; omega
    rw [← el, List.all_append, Bool.and_eq_true] at dl
    rw [← em, List.all_append, Bool.and_eq_true] at dm
    rw [← el, ← em, valA_app, valA_app] at h
    have hc : 48 ≤ c.toNat ∧ c.toNat ≤ 57 := by have := dl.2; simp [isDig] at this; exact this
    have hd : 48 ≤ d.toNat ∧ d.toNat ≤ 57 := by have := dm.2; simp [isDig] at this; exact this
    simp only [valA_cons, valA_nil] at h
    have h1 : valA 0 l.dropLast = valA 0 m.dropLast := by omega
    have h2 : c = d := UInt8.toNat_inj.1 (by omega)
    rw [← el, ← em, dig_unique n _ _ hl' hm' dl.1 dm.1 h1, h2]

/-- Zeros ahead, for one digit more than the places. -/
def padTo (p : Nat) (l : List UInt8) : List UInt8 := List.replicate (p + 1 - l.length) 48 ++ l

theorem pad_length (p : Nat) (l : List UInt8) : (padTo p l).length = max (p + 1) l.length := by
  simp [padTo]; omega
theorem pad_val (p : Nat) (l : List UInt8) : valA 0 (padTo p l) = valA 0 l := valA_zeros _ _
theorem pad_digits (p : Nat) (l : List UInt8) (h : l.all isDig = true) : (padTo p l).all isDig = true := by
  rw [padTo, List.all_append, h, Bool.and_true, List.all_replicate]
  split <;> simp [isDig]

/-- What is shown is of the form that is read. -/
theorem pad_shown (p u : Nat) : shownL (padTo p (decDigits u)) p = true := by
  have hl := pad_length p (decDigits u)
  have h1 : p + 1 ≤ (padTo p (decDigits u)).length := by omega
  rw [shownL, pad_digits p _ (dec_digits u), decide_eq_true h1]
  by_cases h2 : p + 1 < (padTo p (decDigits u)).length
  · have h3 : p + 1 < (decDigits u).length := by omega
    have e : padTo p (decDigits u) = decDigits u := by simp [padTo, show p + 1 - (decDigits u).length = 0 by omega]
    have hu : 1 ≤ u := by
      rcases Nat.lt_or_ge u 10 with h' | h'
      · rw [decDigits_length, nDigits_small h'] at h3; omega
      · omega
    have h4 := dec_head u hu
    rw [e]
    simp [h4]
  · rw [decide_eq_false h2]; rfl

/-- Digits that are read are those of their number. -/
theorem pad_back (p : Nat) (d : List UInt8) (hs : shownL d p = true) : padTo p (decDigits (valA 0 d)) = d := by
  simp only [shownL, Bool.and_eq_true, decide_eq_true_eq, Bool.not_eq_true'] at hs
  obtain ⟨⟨h1, h2⟩, hd⟩ := hs
  have hlt := valA_lt d 0 hd
  rw [Nat.zero_add, Nat.one_mul] at hlt
  refine dig_unique d.length _ _ ?_ rfl (pad_digits p _ (dec_digits _)) hd (by rw [pad_val, dec_val])
  rw [pad_length, decDigits_length]
  by_cases h3 : p + 1 < d.length
  · obtain ⟨c, r, rfl⟩ : ∃ c r, d = c :: r := by
      cases d with
      | nil => simp at h1
      | cons c r => exact ⟨c, r, rfl⟩
    have hc : c ≠ 48 := by
      rw [decide_eq_true h3, Bool.true_and] at h2
      simpa using h2
    rw [List.all_cons, Bool.and_eq_true] at hd
    have hc1 : 48 ≤ c.toNat := by have := hd.1; simp [isDig] at this; exact this.1
    have hc2 : c.toNat ≠ 48 := fun h' => hc (UInt8.toNat_inj.1 h')
    have hge : 10 ^ r.length ≤ valA 0 (c :: r) := by
      have := valA_ge r (0 * 10 + (c.toNat - 48))
      have h5 : 1 * 10 ^ r.length ≤ (0 * 10 + (c.toNat - 48)) * 10 ^ r.length := Nat.mul_le_mul_right _ (by omega)
      have h6 := valA_cons 0 c r
      omega
    rw [List.length_cons] at hlt h3 ⊢
    rw [nDigits_unique r.length _ hge hlt]
    omega
  · have h4 : d.length = p + 1 := by omega
    have := dec_few (valA 0 d) (p + 1) (by omega) (by rw [← h4]; exact hlt)
    omega

theorem point_back (d : List UInt8) (p : Nat) (h : p + 1 ≤ d.length) : unL (pointL d p) p = some d := by
  by_cases h0 : p = 0
  · simp [unL, pointL, h0]
  · have hk : d.length - p ≤ d.length := by omega
    have hl : (pointL d p).length = d.length + 1 := by simp [pointL, h0]; omega
    have e1 : (pointL d p).length - p - 1 = d.length - p := by omega
    have e2 : (pointL d p).length - p = d.length - p + 1 := by omega
    have ht : (d.take (d.length - p)).length = d.length - p := by simp
    have e3 : pointL d p = d.take (d.length - p) ++ 46 :: d.drop (d.length - p) := by simp [pointL, h0]
    unfold unL
    rw [if_neg h0, e1, e2, if_pos ⟨by omega, by rw [e3, List.getElem?_append_right (by omega), ht, Nat.sub_self]; rfl⟩]
    congr 1
    rw [e3, List.take_append_of_le_length (by omega), List.take_of_length_le (by omega), List.drop_append, ht]
    have e4 : d.length - p + 1 - (d.length - p) = 1 := by omega
    rw [List.drop_of_length_le (by omega), e4]
    simp

theorem un_back (t d : List UInt8) (p : Nat) (h : unL t p = some d) : pointL d p = t := by
  by_cases h0 : p = 0
  · simp [unL, h0] at h; simp [pointL, h0, h]
  · unfold unL at h
    rw [if_neg h0] at h
    split at h
    · rename_i hc
      have h := Option.some.inj h
      subst h
      obtain ⟨h1, h2⟩ := hc
      obtain ⟨k, hk⟩ : ∃ k, t.length - p - 1 = k := ⟨_, rfl⟩
      have hk1 : t.length - p = k + 1 := by omega
      rw [hk] at h2
      rw [hk, hk1]
      have hl : (t.take k ++ t.drop (k + 1)).length - p = k := by simp; omega
      have ht : (t.take k).length = k := by simp; omega
      rw [pointL, if_neg h0, hl, List.take_append_of_le_length (by omega), List.take_of_length_le (by omega), List.drop_append, ht, List.drop_of_length_le (by omega), Nat.sub_self]
      have hk2 : k < t.length := by omega
      rw [List.getElem?_eq_getElem hk2] at h2
      have h3 : t[k]'hk2 = 46 := Option.some.inj h2
      rw [List.drop_zero, List.nil_append, ← h3, ← List.drop_eq_getElem_cons hk2, List.take_append_drop]
    · cases h

/-- An amount as text. -/
def showS (a : Int) (p : Nat) : List UInt8 := if a < 0 then 45 :: pointL (padTo p (decDigits a.natAbs)) p else pointL (padTo p (decDigits a.natAbs)) p

/-- A text as an amount. -/
def readS (l : List UInt8) (p : Nat) : Option Int :=
  match unL (trimPrefix l [45]) p with
  | none => none
  | some d => if shownL d p = true ∧ d.length ≤ 19 then
      (if hasPrefix l [45] = true then (if 1 ≤ valA 0 d ∧ valA 0 d ≤ 9223372036854775808 then some (-(valA 0 d : Int)) else none)
       else (if valA 0 d ≤ 9223372036854775807 then some (valA 0 d : Int) else none))
    else none

theorem point_head (d : List UInt8) (p : Nat) (h : p + 1 ≤ d.length) : (pointL d p).head? = d.head? := by
  by_cases h0 : p = 0
  · simp [pointL, h0]
  · rw [pointL, if_neg h0]
    cases d with
    | nil => simp at h
    | cons c r =>
      have : (c :: r).length - p = (r.length - p) + 1 := by simp at h ⊢; omega
      rw [this]; rfl

theorem show_read (a : Int) (p : Nat) (h1 : -9223372036854775808 ≤ a) (h2 : a ≤ 9223372036854775807) (hp : p ≤ 6) : readS (showS a p) p = some a := by
  obtain ⟨u, hu⟩ : ∃ u, a.natAbs = u := ⟨_, rfl⟩
  have hul : u ≤ 9223372036854775808 := by omega
  have hn : nDigits u ≤ 19 := dec_few u 19 (by decide) (by have : (10 : Nat) ^ 19 = 10000000000000000000 := by decide
                                                           omega)
  have hP : p + 1 ≤ (padTo p (decDigits u)).length := by rw [pad_length]; omega
  have hP19 : (padTo p (decDigits u)).length ≤ 19 := by rw [pad_length, decDigits_length]; omega
  have hb := point_back _ p hP
  have hs := pad_shown p u
  have hv : valA 0 (padTo p (decDigits u)) = u := by rw [pad_val, dec_val]
  have hh := point_head _ p hP
  have hd := pad_digits p _ (dec_digits u)
  unfold showS
  rw [hu]
  obtain ⟨Q, hQ⟩ : ∃ Q, padTo p (decDigits u) = Q := ⟨_, rfl⟩
  rw [hQ] at hP hP19 hb hs hv hh hd ⊢
  by_cases hneg : a < 0
  · rw [if_pos hneg]
    have e1 : hasPrefix (45 :: pointL Q p) [45] = true := by simp [hasPrefix, List.isPrefixOf]
    have e2 : trimPrefix (45 :: pointL Q p) [45] = pointL Q p := by simp [trimPrefix, e1]
    unfold readS
    rw [e1, e2, hb]
    simp only [hs, hP19, hv, and_self, if_true]
    rw [if_pos (by omega)]
    congr 1; omega
  · rw [if_neg hneg]
    have e1 : hasPrefix (pointL Q p) [45] = false := by
      cases hq : pointL Q p with
      | nil => rfl
      | cons c r =>
        cases Q with
        | nil => simp at hP
        | cons c' r' =>
          rw [hq] at hh
          have hcc : c = c' := Option.some.inj hh
          rw [List.all_cons, Bool.and_eq_true] at hd
          have hc1 : 48 ≤ c'.toNat := by have := hd.1; simp [isDig] at this; exact this.1
          have hc2 : ¬ c = 45 := by
            intro h'; rw [hcc] at h'; rw [h'] at hc1
            have : (45 : UInt8).toNat = 45 := rfl
            omega
          have hc3 : ¬ (45 : UInt8) = c := fun h => hc2 h.symm
          simp [hasPrefix, List.isPrefixOf, hc3]
    have e2 : trimPrefix (pointL Q p) [45] = pointL Q p := by simp [trimPrefix, e1]
    unfold readS
    rw [e1, e2, hb]
    simp only [hs, hP19, hv, and_self, if_true, Bool.false_eq_true, if_false]
    rw [if_pos (by omega)]
    congr 1; omega

theorem read_show (l : List UInt8) (p : Nat) (n : Int) (h : readS l p = some n) : showS n p = l := by
  unfold readS at h
  cases hu : unL (trimPrefix l [45]) p with
  | none => rw [hu] at h; cases h
  | some d =>
    rw [hu] at h
    have hb := un_back _ _ _ hu
    simp only at h
    split at h
    · rename_i hc
      have hpb := pad_back p d hc.1
      split at h
      · rename_i hp
        split at h
        · rename_i hv
          obtain rfl := Option.some.inj h
          unfold showS
          have e : (-(valA 0 d : Int)).natAbs = valA 0 d := by omega
          rw [if_pos (by omega), e, hpb, hb]
          cases l with
          | nil => simp [hasPrefix, List.isPrefixOf] at hp
          | cons c r =>
            have hcc : c = 45 := by simp [hasPrefix, List.isPrefixOf] at hp; exact hp.symm
            rw [hcc]
            rw [hcc] at hp
            simp [trimPrefix, hp]
        · cases h
      · rename_i hp
        split at h
        · rename_i hv
          obtain rfl := Option.some.inj h
          unfold showS
          have e : ((valA 0 d : Nat) : Int).natAbs = valA 0 d := by omega
          rw [if_neg (by omega), e, hpb, hb]
          simp [trimPrefix, hp]
        · cases h
    · cases h
end Go.Proofs.Ytijjegkkeigeoaa

namespace Go.Proofs.Ytijjegkkeigeoaa
set_option linter.unusedVariables false
set_option linter.unusedSimpArgs false
set_option maxRecDepth 100000
open Go.RowKit Big

/-- Bytes in a row of one's own. -/
def BRow (w : World) (n : Nat) (v : Value) (l : List UInt8) : Prop := w.ownsRow n 5 1 v l.length (l.map fun b => Value.int .u8 b.toNat)
theorem BRow.own {w : World} {n : Nat} {v : Value} {xs : List UInt8} (h : BRow w n v xs) : ∀ j, v.ownBlock = some j → n ≤ j ∧ j < w.heap.size := fun j ej => by
  rcases h.2 with ⟨rfl, _⟩ | ⟨g1, c1, cur, rfl, hg1, hh, _⟩
  · cases ej
  · cases ej; exact ⟨hg1, (Array.getElem?_eq_some_iff.1 hh).1⟩
theorem BRow.grow {w w' : World} {n : Nat} {v : Value} {xs : List UInt8} (h : BRow w n v xs) (hg : w.grownBy w' none) : BRow w' n v xs := by
  rcases h.2 with ⟨hv, hn⟩ | ⟨g1, c1, cur, hv, hb1, hh, r⟩
  · exact ⟨h.1, .inl ⟨hv, hn⟩⟩
  · exact ⟨h.1, .inr ⟨g1, c1, cur, hv, hb1, (hg.block g1 (Array.getElem?_eq_some_iff.1 hh).1 (by simp)).trans hh, r⟩⟩
theorem one_new (W : World) (v : Value) (t : TypeId) : ∀ j u, ([v] : List Value)[j]? = some u → (W.alloc (.cells #[v] t)).cell? ((⟨W.heap.size, 0, none⟩ : Addr).add j) = some u := by
  intro j u hj
  rcases j with _ | j
  · simp at hj
    subst hj
    simp [Addr.add]
  · simp at hj

/-- The digits of what is left. -/
def decL (u : Nat) : List UInt8 := if u = 0 then [] else Lib.decDigits u
theorem decL_step {u : Nat} (h : 0 < u) : decL u = decL (u / 10) ++ [UInt8.ofNat (48 + u % 10)] := by
  unfold decL
  rw [if_neg (by omega), Lib.decDigits]
  by_cases h10 : u < 10
  · rw [dif_pos h10, if_pos (by omega)]
    simp
    rw [Nat.mod_eq_of_lt h10]
  · rw [dif_neg h10, if_neg (by omega)]

/-- A block of bytes. -/
def BAt (w : World) (g : Nat) (cs : Array Value) : Prop := w.heap[g]? = some (.cells cs 5 (0, 0))
theorem BAt.cell {w : World} {g : Nat} {cs : Array Value} (h : BAt w g cs) (i : Nat) : w.cell? ⟨g, i, none⟩ = cs[i]? := by unfold BAt at h; simp [World.cell?, h]
theorem BAt.fz {w : World} {g : Nat} {cs : Array Value} (h : BAt w g cs) (i : Nat) : w.frozen? ⟨g, i, none⟩ = false := by unfold BAt at h; simp [World.frozen?, h]
theorem BAt.set {w : World} {g : Nat} {cs : Array Value} (h : BAt w g cs) (i : Nat) (v : Value) : BAt (w.setCell ⟨g, i, none⟩ v) g (cs.setIfInBounds i v) := by
  unfold BAt at *
  rw [setCell_eq_setRow w g i _ 5 (0, 0) _ h, setRow_heap w g _ _ 5 (0, 0) h]
/-- A byte of a text that is turned round so far. -/
def turnB (bs : List UInt8) (k m : Nat) : UInt8 := if m < k ∨ bs.length - 1 - k < m then bs.getD (bs.length - 1 - m) 0 else bs.getD m 0
def Turned (bs : List UInt8) (k : Nat) (cs : Array Value) : Prop := ∀ m, m < bs.length → cs[m]? = some (.int .u8 ((turnB bs k m).toNat : Nat))
theorem turned_start (bs : List UInt8) {cs : Array Value} (h : ∀ m, m < bs.length → cs[m]? = some (.int .u8 ((bs.getD m 0).toNat : Nat))) : Turned bs 0 cs := by
  intro m hm
  rw [h m hm]
  unfold turnB
  rw [if_neg (by omega)]
theorem turned_step {bs : List UInt8} {k : Nat} {cs : Array Value} (h : Turned bs k cs) (hk : k < bs.length - 1 - k) :
    Turned bs (k + 1) ((cs.setIfInBounds k (.int .u8 ((turnB bs k (bs.length - 1 - k)).toNat : Nat))).setIfInBounds (bs.length - 1 - k) (.int .u8 ((turnB bs k k).toNat : Nat))) := by
  intro m hm
  have hc : ∀ i, i < bs.length → i < cs.size := fun i hi => by
    have := h i hi
    exact (Array.getElem?_eq_some_iff.1 this).1
  have e1 : turnB bs k k = bs.getD k 0 := by unfold turnB; rw [if_neg (by omega)]
  have e2 : turnB bs k (bs.length - 1 - k) = bs.getD (bs.length - 1 - k) 0 := by unfold turnB; rw [if_neg (by omega)]
  rw [e1, e2, Array.getElem?_setIfInBounds]
  by_cases hm1 : bs.length - 1 - k = m
  · have := hc m hm
    rw [if_pos hm1, if_pos (by simp; omega)]
    unfold turnB
    rw [if_pos (by omega), show bs.length - 1 - m = k by omega]
  · rw [if_neg hm1, Array.getElem?_setIfInBounds]
    by_cases hm2 : k = m
    · have := hc m hm
      rw [if_pos hm2, if_pos (by omega)]
      unfold turnB
      rw [if_pos (by omega), ← hm2]
    · rw [if_neg hm2, h m hm]
      unfold turnB
      by_cases hh : m < k ∨ bs.length - 1 - k < m
      · rw [if_pos hh, if_pos (by omega)]
      · rw [if_neg hh, if_neg (by omega)]
theorem turned_done {bs : List UInt8} {k : Nat} {cs : Array Value} (h : Turned bs k cs) (hk : ¬ k < bs.length - 1 - k) : ∀ m, m < bs.length → cs[m]? = some (.int .u8 ((bs.reverse.getD m 0).toNat : Nat)) := by
  intro m hm
  rw [h m hm]
  have er : bs.reverse.getD m 0 = bs.getD (bs.length - 1 - m) 0 := by
    simp [List.getD, List.getElem?_reverse hm]
  rw [er]
  unfold turnB
  by_cases hh : m < k ∨ bs.length - 1 - k < m
  · rw [if_pos hh]
  · rw [if_neg hh, show bs.length - 1 - m = m by omega]
end Go.Proofs.Ytijjegkkeigeoaa

namespace Go.Proofs.Ytijjegkkeigeoaa
set_option linter.unusedVariables false
set_option linter.unusedSimpArgs false
set_option maxRecDepth 100000
open Go.RowKit Big

theorem nums_txt (l : List UInt8) : strOfNums (l.map fun b => (b.toNat : Int)) = txt l := by
  unfold strOfNums txt
  congr 1
  congr 1
  rw [List.map_map]
  conv => rhs; rw [← List.map_id l]
  apply List.map_congr_left
  intro b _
  simp
theorem bytes_str (W : World) (g cap : Nat) (l : List UInt8) (hc : ∀ m, m < l.length → W.cell? ⟨g, m, none⟩ = some (.int .u8 ((l.getD m 0).toNat : Nat))) : (convert 52 9 (.slice (some ⟨g, 0, none⟩) l.length cap)).run Try.prog W = .ok (.string (txt l)) W := by
  rw [run_convert_bytes_arg W 52 5 Try.underlying52 Try.underlying5 g 0 l.length cap (l.map fun b => (b.toNat : Int)) (by simp) (fun i hi => by
    rw [Nat.zero_add, hc i hi]
    simp [List.getD, hi]) 9 Try.underlying9, nums_txt]

/-- The length of a slice. -/
def slLen : Value → Nat
  | .slice _ n _ => n
  | _ => 0
theorem BRow.len {w : World} {n : Nat} {v : Value} {xs : List UInt8} (h : BRow w n v xs) : slLen v = xs.length := by
  rcases h.2 with ⟨rfl, h0⟩ | ⟨g1, c1, cur, rfl, _⟩
  · exact h0.symm
  · rfl

set_option maxHeartbeats 4000000 in
theorem text_any (p : Nat) (v : Value) (l : List Nat) (w : World) (h : IsBig w p false v l) (hl2 : l.length ≤ 2) :
    Calls Try.prog 69 #[.pointer (some ⟨p, 0, none⟩), .int .i64 10] w fun e w' => e = .returned (.string (txt (Lib.decDigits (val l)))) ∧ w.grownBy w' none := by
  have c0 := blk_cell0 h.blk
  have c1 := blk_cell1 h.blk
  have hp := blk_lt h.blk
  have Hblk : Hid (w.heap[p]? = some (.cells #[.bool false, v] 131 (0, 0))) := h.blk
  have hTw := twin_any v l w h.wd (by omega)
  have Hn : Hid (Nrm l) := h.nrm
  have hval : val l < 18446744073709551616 := by
    have := val_lt h.wd.ok
    rcases (by omega : l.length = 0 ∨ l.length = 1 ∨ l.length = 2) with e | e | e <;> rw [e] at this <;> omega
  obtain ⟨aa, ca, rfl, la, Oa, Fa⟩ := h.wd.form
  have hz := val_zero h.nrm
  clear h la Oa Fa
  by_cases h0 : l.length = 0
  · have hl : l = [] := List.eq_nil_of_length_eq_zero h0
    subst hl
    have e0 : txt (Lib.decDigits (val [])) = ⟨#[48]⟩ := by
      have : Lib.decDigits (val []) = [48] := by
        show Lib.decDigits 0 = _
        rw [Lib.decDigits]
        rfl
      rw [this]; rfl
    rw [e0]
    clear e0 hTw hz
    go_enter Try.func69, Try.ntmps69
    go_wp2
    go_ret
    exact ⟨rfl, grefl _ _⟩
  have hv0 : val l ≠ 0 := fun e => h0 (by rw [hz.1 e]; rfl)
  have hlz : ((l.length : Int) == 0) = false := by rw [beq_eq_false_iff_ne]; omega
  have HTw : Hid (Calls _ _ _ _ _) := hTw
  obtain ⟨dd, hdd⟩ : ∃ dd, Lib.decDigits (val l) = dd := ⟨_, rfl⟩
  have hd20 : dd.length ≤ 20 := by
    rw [← hdd, Lib.decDigits_length]
    exact dec_few _ 20 (by decide) (Nat.lt_of_lt_of_le hval (by decide))
  have hd0 : dd ≠ [] := by rw [← hdd]; exact dec_ne _
  have Hstart : Hid (decL (val l) ++ ([] : List UInt8).reverse = dd) := by
    unfold Hid decL
    rw [if_neg hv0, hdd]
    simp
  rw [hdd]
  clear hdd hTw hz hv0 hval
  obtain ⟨i0, hi, hz0, hz1, hz2⟩ := info_parts u8_info
  go_enter Try.func69, Try.ntmps69
  go_wp2_with fail
  refine HTw.out.mono ?_
  rintro e w1 ⟨v1, rfl, hw1⟩
  obtain ⟨aw, cw, ew, _⟩ := hw1.out.1.form
  subst ew
  have Hw1 : Hid (Wd w1 (.slice aw l.length cw) l) := hw1.out.1
  have G1 : Hid (w.grownBy w1 none) := hw1.out.2
  clear HTw hw1
  go_wp2
  go_loopw [5, 6, 7] (fun bv av _ wr => ∃ (lq : List Nat) (bs : List UInt8) (aq : Option Addr) (cq : Nat), av = .slice aq lq.length cq ∧ lq.length ≤ 2 ∧ Hid (Wd wr av lq) ∧ Hid (Nrm lq) ∧ Hid (decL (val lq) ++ bs.reverse = dd) ∧ Hid (BRow wr w.heap.size bv bs) ∧ Hid (∀ j, bv.ownBlock = some j → ∀ o, aq ≠ some ⟨j, o, none⟩) ∧ Hid (w.grownBy wr none)) (fun bv _ _ _ => 21 - slLen bv)
  case atStart => exact ⟨l, [], aw, cw, rfl, hl2, Hw1, Hn, Hstart, World.ownsRow_nil _ _ _ _, fun j e => (by cases e), G1⟩
  case round =>
    obtain ⟨lq, bs, aq, cq, rfl, hq2, HW, HN, HD, HB, HA, HG⟩ := hrel
    by_cases hq0 : 0 < lq.length
    · have hq0' : (0 : Int) < lq.length := by omega
      have hu0 : 0 < val lq := Nat.pos_of_ne_zero (fun e => by
        have := (val_zero HN.out).1 e
        rw [this] at hq0
        simp at hq0)
      have hSm := small_at _ lq 10 wr HW.out (by decide) (by decide) (by omega) hq0
      have e10 : ((10 : Nat) : Int) = 10 := rfl
      rw [e10] at hSm
      have HSm : Hid (Calls _ _ _ _ _) := hSm
      have Hst := decL_step hu0
      have Hst : Hid (decL (val lq) = _) := Hst
      have hr10 : val lq % 10 < 10 := Nat.mod_lt _ (by decide)
      generalize val lq % 10 = rr at *
      have hbl : bs.length + 1 ≤ 20 := by
        have h1 := congrArg List.length HD.out
        rw [Hst.out] at h1
        simp at h1
        omega
      clear hSm e10 hu0
      go_wp2_with fail
      refine HSm.out.mono ?_
      rintro e w2 ⟨lx, cx, rfl, hW2, hN2, hV2, hL2, hG2⟩
      have hX : (48 : Int) + rr = ((UInt8.ofNat (48 + rr)).toNat : Int) := by simp; omega
      have HX : Hid (_ = _) := hX
      have HV2 : Hid (val lx = val lq / 10) := hV2
      have HN2 : Hid (Nrm lx) := hN2
      have HW2 : Hid (Wd w2 _ lx) := hW2
      have hsz2 : wr.heap.size ≤ w2.heap.size := hG2.size
      have hszw := HG.out.size
      have HG2 : Hid (w.grownBy w2 none) := gtrans HG.out hG2
      have HB2 : Hid (BRow w2 w.heap.size _ bs) := HB.out.grow hG2
      have hoj := HB.out.own
      have s2 : Hid (bs.length + 1 ≤ maxLen) := by unfold Hid maxLen; omega
      have s3 : Hid ((bs.length + 1) * 1 ≤ 140737488355328) := by unfold Hid; omega
      have r1 : (rr : Int) < 10 := by omega
      have r2 : (0 : Int) ≤ rr := by omega
      have HSl : Hid _ := HB.out.len
      clear HSm hX hV2 hN2 hW2 hG2 HW HN HA HG HB
      go_wp2_with (at_builtin; refine wpList_append_own_at _ rfl _ _ 52 rfl w.heap.size 5 i0 (.int .u8 0) 1 1 Try.underlying52 hi hz0 hz1 hz2 rfl (by decide) _ _ _ rfl (World.ownsRow.alloc HB2.out _) ⟨w2.heap.size, 0, none⟩ 1 1 [.int .u8 ((48 : Int) + rr)] rfl rfl (one_new _ _ _) (by simp [Value.oneCell']) s2.out s3.out (by simp; omega) ?_)
      intro v' w3 hown hgrow _ hob
      have hgr : w2.grownBy w3 _ := gtrans (gweak (World.grownBy_alloc w2 (.cells #[.int .u8 ((48 : Int) + rr)] 5) none) _) hgrow
      have HB3 : Hid (BRow w3 w.heap.size v' (bs ++ [UInt8.ofNat (48 + rr)])) := by
        unfold Hid BRow
        rw [List.map_append, List.length_append]
        have e1 : [UInt8.ofNat (48 + rr)].map (fun b => Value.int .u8 (b.toNat : Nat)) = [.int .u8 ((48 : Int) + rr)] := by rw [HX.out]; rfl
        rw [e1]
        exact hown
      have HW3 : Hid (Wd w3 (.slice (some ⟨wr.heap.size, 0, none⟩) lx.length cx) lx) := HW2.out.keep hgr (fun b off n cap e hh => by
        cases e
        have := (hoj _ hh.symm).2
        omega)
      have HG3 : Hid (w.grownBy w3 none) := by
        unfold Hid
        have g2 := HG2.out
        refine ⟨hgr.os.trans g2.os, hgr.tape.trans g2.tape, hgr.output.trans g2.output, Nat.le_trans g2.size hgr.size, fun b hb _ => ?_⟩
        refine (hgr.block b (Nat.lt_of_lt_of_le hb g2.size) (fun e => ?_)).trans (g2.block b hb (by simp))
        have := (hoj b e.symm).1
        omega
      have HA3 : Hid (∀ j, v'.ownBlock = some j → ∀ o, some (⟨wr.heap.size, 0, none⟩ : Addr) ≠ some ⟨j, o, none⟩) := fun j hj o e => by
        cases e
        rcases hob with hob | hob
        · rw [hj] at hob
          have := (hoj _ hob.symm).2
          omega
        · rw [hj] at hob
          have := Option.some.inj hob
          try simp at this
          omega
      have HD3 : Hid (decL (val lx) ++ (bs ++ [UInt8.ofNat (48 + rr)]).reverse = dd) := by
        unfold Hid
        rw [← HD.out, Hst.out, HV2.out]
        simp
      have HL3 := HB3.out.len
      clear hown hgrow hgr hob HB2 HW2 HG2 HV2 HX HD Hst hoj s2 s3
      go_wp2
      go_roundw
      case rel => exact ⟨lx, _, _, cx, rfl, by omega, HW3, HN2, HD3, HB3, HA3, HG3⟩
      case measure =>
        have := HSl.out
        rw [HL3, this, List.length_append]
        simp only [List.length_cons, List.length_nil]
        omega
    · have hlq : lq = [] := List.eq_nil_of_length_eq_zero (by omega)
      have hbd : bs.reverse = dd := by
        have := HD.out
        rw [hlq] at this
        simpa [decL, val] using this
      have hbl : bs.length = dd.length := by rw [← hbd, List.length_reverse]
      have hb0 : 0 < bs.length := by rw [hbl]; exact List.length_pos_iff.2 hd0
      rcases HB.out.2 with ⟨_, h1⟩ | ⟨g, cap, cur, hbv, hg, hh, hcap, hcs, hsz, htk⟩
      · omega
      subst hbv
      have hcur : ∀ m, m < bs.length → cur[m]? = some (.int .u8 ((bs.getD m 0).toNat : Nat)) := fun m hm => by
        have h1 : (cur.toList.take (bs.length * 1))[m]? = (bs.map fun b => Value.int .u8 (b.toNat : Nat))[m]? := by rw [htk]
        rw [List.getElem?_take, if_pos (by omega)] at h1
        simp [hm] at h1
        simp [List.getD, hm]
        simpa using h1
      have HT0 : Hid (Turned bs 0 cur) := turned_start bs hcur
      have HBt : Hid (BAt wr g cur) := hh
      have d0 : wr.cell? ⟨p, 0, none⟩ = some (.bool false) := HG.out.cell c0 (by simp)
      have hq0' : ¬ (0 : Int) < lq.length := by omega
      have n20 : (bs.length : Int) ≤ 20 := by omega
      have n1 : (1 : Int) ≤ bs.length := by omega
      have Hbd : Hid (bs.reverse = dd) := hbd
      obtain ⟨n, hn⟩ : ∃ n, bs.length = n := ⟨_, rfl⟩
      have Hn' : Hid (bs.length = n) := hn
      rw [hn] at n20 n1 hb0 hcap
      have HGw : Hid (w.grownBy wr none) := HG.out
      have hgw := hg
      rw [hn]
      clear HW HN HD HB HA HG hh hcur htk hsz hcs hbd hbl hn hlq Hblk c0 c1
      obtain ⟨wE, hwE⟩ : ∃ wE, wE = wr := ⟨_, rfl⟩
      subst hwE
      go_wp2
      go_loopw [8, 9, 10] (fun iv jv _ wq => ∃ k : Nat, ∃ cs : Array Value, k ≤ n ∧ iv = .int .i64 k ∧ jv = .int .i64 ((n : Int) - 1 - k) ∧ Hid (Turned bs k cs) ∧ Hid (BAt wq g cs) ∧ Hid (w.grownBy wq none)) (fun iv _ _ _ => n - (RowKit.intOf iv).toNat)
      case atStart => exact ⟨0, cur, Nat.zero_le _, rfl, by simp, HT0, HBt, HGw⟩
      case round =>
        obtain ⟨k, cs, hkn, rfl, rfl, T, A, G⟩ := hrel
        by_cases hlt : k < n - 1 - k
        · obtain ⟨j, hj⟩ : ∃ j : Nat, n - 1 - k = j := ⟨_, rfl⟩
          have hjI : (n : Int) - 1 - k = (j : Int) := by omega
          rw [hjI]
          have hbn := Hn'.out
          have tk := T.out k (by omega)
          have tj := T.out j (by omega)
          have hSt := turned_step T.out (by omega)
          rw [hbn, hj] at hSt
          generalize turnB bs k k = x at *
          generalize turnB bs k j = y at *
          have ck := (A.out.cell k).trans tk
          have cj := (A.out.cell j).trans tj
          have fk := A.out.fz k
          have A1 := A.out.set k (.int .u8 ((y.toNat : Nat) : Int))
          have cj1 : (wr.setCell ⟨g, k, none⟩ (.int .u8 ((y.toNat : Nat) : Int))).cell? ⟨g, j, none⟩ = some (.int .u8 ((y.toNat : Nat) : Int)) := by
            rw [A1.cell j, Array.getElem?_setIfInBounds, if_neg (by omega)]
            exact tj
          have fj1 := A1.fz j
          have HA2 : Hid (BAt _ g _) := A1.set j (.int .u8 ((x.toNat : Nat) : Int))
          have HSt : Hid (Turned bs (k + 1) _) := hSt
          have HG2 : Hid (w.grownBy ((wr.setCell ⟨g, k, none⟩ (.int .u8 ((y.toNat : Nat) : Int))).setCell ⟨g, j, none⟩ (.int .u8 ((x.toNat : Nat) : Int))) none) := gset (gset G.out (p := ⟨g, k, none⟩) hgw _) (p := ⟨g, j, none⟩) hgw _
          have i0 : (0 : Int) ≤ k := by omega
          have i1 : (k : Int) < j := by omega
          have i2 : (k : Int) < n := by omega
          have i3 : (0 : Int) ≤ j := by omega
          have i4 : (j : Int) < n := by omega
          clear A1 hSt tk tj T A G hbn hj
          generalize x.toNat = xn at *
          generalize y.toNat = yn at *
          go_wp2
          go_roundw
          case rel => exact ⟨k + 1, _, by omega, by go_num, by go_num, HSt, HA2, HG2⟩
          case measure => simp [RowKit.intOf]; omega
        · have hbn := Hn'.out
          have hfin := turned_done T.out (by rw [hbn]; exact hlt)
          have hstr := bytes_str wr g cap bs.reverse (fun m hm => by
            rw [List.length_reverse] at hm
            exact (A.out.cell m).trans (hfin m hm))
          rw [Hbd.out] at hstr
          have hdl : dd.length = n := by rw [← Hbd.out, List.length_reverse, hbn]
          rw [hdl] at hstr
          have i1 : ¬ (k : Int) < (n : Int) - 1 - k := by omega
          have HGz := G
          clear hfin T A G hbn hdl
          go_wp2
          go_ret
          exact ⟨rfl, HGz.out⟩
end Go.Proofs.Ytijjegkkeigeoaa

namespace Go.Proofs.Ytijjegkkeigeoaa
set_option linter.unusedVariables false
open Go.RowKit Big

/-- A bit of a number is a bit of one of its words. -/
theorem word_bit {l : List Nat} (ho : Ok l) (k j : Nat) (hj : j < 32) (hk : k < l.length) : val l / 2 ^ (32 * k + j) % 2 = l.getD k 0 / 2 ^ j % 2 := by
  have e : val l = val (l.take k) + 4294967296 ^ k * (l.getD k 0 + 4294967296 * val (l.drop (k + 1))) := by
    have h1 := val_append (l.take k) (l.drop k)
    rw [List.take_append_drop, List.length_take, Nat.min_eq_left (Nat.le_of_lt hk)] at h1
    have h2 : l.drop k = l.getD k 0 :: l.drop (k + 1) := by rw [List.drop_eq_getElem_cons hk]; simp [hk]
    rw [h1, h2]; rfl
  have hlt := val_lt (ok_take ho k)
  rw [List.length_take, Nat.min_eq_left (Nat.le_of_lt hk)] at hlt
  have hB : 0 < 4294967296 ^ k := Nat.pow_pos (by omega)
  rw [Nat.pow_add, ← pow32, ← Nat.div_div_eq_div_mul, e, Nat.add_mul_div_left _ _ hB, Nat.div_eq_of_lt hlt, Nat.zero_add]
  have e2 : 4294967296 = 2 ^ j * (2 * 2 ^ (31 - j)) := by
    rw [show 2 * 2 ^ (31 - j) = 2 ^ (32 - j) by rw [← Nat.pow_succ']; congr 1; omega, ← Nat.pow_add, show j + (32 - j) = 32 by omega]
  have hJ := Nat.two_pow_pos j
  rw [show l.getD k 0 + 4294967296 * val (l.drop (k + 1)) = l.getD k 0 + 2 ^ j * (2 * (2 ^ (31 - j) * val (l.drop (k + 1)))) by
    rw [← Nat.mul_assoc 2, ← Nat.mul_assoc (2 ^ j), ← e2], Nat.add_mul_div_left _ _ hJ, Nat.add_mul_mod_self_left]

/-- Bit i of a number. -/
def bitOf (n i : Nat) : Nat := n / 2 ^ i % 2

theorem first_bit (n i : Nat) (h : ∀ k, k < i → bitOf n k = 0) : n % 2 ^ i = 0 := by
  induction i with
  | zero => simp [Nat.mod_one]
  | succ i ih =>
    have h1 := ih (fun k hk => h k (by omega))
    have h2 := h i (by omega)
    unfold bitOf at h2
    have hp := Nat.two_pow_pos i
    obtain ⟨q, hq⟩ := Nat.dvd_of_mod_eq_zero h1
    rw [hq, Nat.mul_div_cancel_left _ hp] at h2
    obtain ⟨t, ht⟩ := Nat.dvd_of_mod_eq_zero h2
    rw [hq, ht, Nat.pow_succ, ← Nat.mul_assoc]
    exact Nat.mul_mod_right _ _

/-- Of a number of just 64 bits. -/
theorem tz_facts (n i : Nat) (h1 : 9223372036854775808 ≤ n) (h2 : n < 18446744073709551616) (hz : ∀ k, k < i → bitOf n k = 0) (hi : bitOf n i = 1) : i ≤ 63 ∧ (i = 63 ↔ n = 9223372036854775808) := by
  have top : bitOf n 63 = 1 := by
    unfold bitOf
    have : n / 2 ^ 63 = 1 := by
      apply Nat.div_eq_of_lt_le <;> omega
    rw [this]
  have hle : i ≤ 63 := by
    apply Classical.byContradiction
    intro hn
    have := hz 63 (by omega)
    omega
  refine ⟨hle, ?_, ?_⟩
  · rintro rfl
    have := first_bit n 63 hz
    omega
  · rintro rfl
    apply Classical.byContradiction
    intro hn
    have h3 : i < 63 := by omega
    have e : (9223372036854775808 : Nat) = 2 ^ i * (2 * 2 ^ (62 - i)) := by
      rw [show 2 * 2 ^ (62 - i) = 2 ^ (63 - i) by rw [← Nat.pow_succ']; congr 1; omega, ← Nat.pow_add, show i + (63 - i) = 63 by omega]
    unfold bitOf at hi
    rw [e, Nat.mul_div_cancel_left _ (Nat.two_pow_pos i)] at hi
    omega
end Go.Proofs.Ytijjegkkeigeoaa
