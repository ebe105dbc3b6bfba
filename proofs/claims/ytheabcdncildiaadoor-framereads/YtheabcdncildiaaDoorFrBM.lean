/-
  Balances as bytes, in order, and read again. It names no call.
-/
import Derived.Test.YtheabcdncildiaaDoorFr3
import Derived.Test.YtheabcdncildiaaDoorFrN
namespace Go.Proofs.YtheabcdncildiaaDoor
set_option linter.unusedVariables false
set_option linter.unusedSimpArgs false
open Go.RowKit

theorem bl_self : ∀ a : List UInt8, Op.bytesLess a a = false
  | [] => rfl
  | x :: a => by
    have := bl_self a
    simp [Op.bytesLess, this]

theorem bl_total : ∀ a b : List UInt8, Op.bytesLess a b = false → a ≠ b → Op.bytesLess b a = true
  | [], [], _, h => absurd rfl h
  | [], _ :: _, h, _ => by simp [Op.bytesLess] at h
  | _ :: _, [], _, _ => by simp [Op.bytesLess]
  | x :: a, y :: b, h, hne => by
    simp only [Op.bytesLess, Bool.or_eq_false_iff, decide_eq_false_iff_not, Bool.and_eq_false_iff, beq_eq_false_iff_ne] at h
    obtain ⟨h1, h2⟩ := h
    by_cases e : x = y
    · subst e
      have := bl_total a b (by simpa using h2) (fun e => hne (by rw [e]))
      simp [Op.bytesLess, this]
    · have : y < x := by
        rw [UInt8.lt_iff_toNat_lt] at h1 ⊢
        have : x.toNat ≠ y.toNat := fun h => e (UInt8.toNat_inj.1 h)
        omega
      simp [Op.bytesLess, this]

theorem bl_trans : ∀ a b c : List UInt8, Op.bytesLess a b = true → Op.bytesLess b c = true → Op.bytesLess a c = true
  | _, [], _, h, _ => by cases ‹List UInt8› <;> simp [Op.bytesLess] at h
  | _, _ :: _, [], _, h => by simp [Op.bytesLess] at h
  | [], _ :: _, _ :: _, _, _ => by simp [Op.bytesLess]
  | x :: a, y :: b, z :: c, h1, h2 => by
    simp only [Op.bytesLess, Bool.or_eq_true, decide_eq_true_eq, Bool.and_eq_true, beq_iff_eq] at h1 h2 ⊢
    simp only [UInt8.lt_iff_toNat_lt] at h1 h2 ⊢
    rcases h1 with h1 | ⟨rfl, h1⟩
    · rcases h2 with h2 | ⟨rfl, h2⟩
      · exact .inl (by omega)
      · exact .inl h1
    · rcases h2 with h2 | ⟨rfl, h2⟩
      · exact .inl h2
      · exact .inr ⟨rfl, bl_trans a b c h1 h2⟩

/-- Two texts held against each other. -/
def cmpS (a b : ByteArray) : Int := if Op.bytesLess a.toList b.toList = true then -1 else if (a.toList == b.toList) = true then 0 else 1
theorem cmpS_zero {a b : ByteArray} : cmpS a b = 0 ↔ (a.toList == b.toList) = true := by
  unfold cmpS
  split
  · rename_i h
    refine ⟨fun h => by omega, fun e => ?_⟩
    rw [beq_iff_eq] at e
    rw [e, bl_self] at h
    cases h
  · split
    · simp_all
    · simp_all
theorem cmpS_neg {a b : ByteArray} : cmpS a b < 0 ↔ Op.bytesLess a.toList b.toList = true := by
  unfold cmpS
  split
  · simp_all
  · split
    · simp_all
    · simp_all
theorem cmpS_range (a b : ByteArray) : cmpS a b = -1 ∨ cmpS a b = 0 ∨ cmpS a b = 1 := by
  unfold cmpS
  split
  · simp
  · split <;> simp

/-- Two numbers held against each other. -/
def cmpI (a b : Int) : Int := if a < b then -1 else if b < a then 1 else 0
/-- Two balances held against each other. -/
def cmpB (a b : Bl) : Int := if cmpI a.ent b.ent ≠ 0 then cmpI a.ent b.ent else if cmpS a.acc b.acc ≠ 0 then cmpS a.acc b.acc else cmpS a.cur b.cur
/-- What is wrong with where a balance stands. -/
def ordAt (l : List Bl) (k : Nat) : Int := if k = 0 ∨ cmpB (l.getD (k - 1) bl0) (l.getD k bl0) < 0 then 0 else 5
theorem ordAt_same {l m : List Bl} {k : Nat} (h1 : l.getD k bl0 = m.getD k bl0) (h2 : l.getD (k - 1) bl0 = m.getD (k - 1) bl0) : ordAt l k = ordAt m k := by unfold ordAt; rw [h1, h2]
theorem getD_take (l : List Bl) (k j : Nat) (h : j < k) : (l.take k).getD j bl0 = l.getD j bl0 := by simp [List.getD, h]
theorem getD_left (l m : List Bl) (j : Nat) (h : j < l.length) : (l ++ m).getD j bl0 = l.getD j bl0 := by rw [List.getD_eq_getElem?_getD, List.getD_eq_getElem?_getD, List.getElem?_append_left h]
theorem ordAt_take (l : List Bl) (k : Nat) : ordAt (l.take (k + 1)) k = ordAt l k := ordAt_same (getD_take l _ _ (by omega)) (getD_take l _ _ (by omega))
theorem ordAt_app (l m : List Bl) (k : Nat) (h : k < l.length) : ordAt (l ++ m) k = ordAt l k := ordAt_same (getD_left l m _ h) (getD_left l m _ (by omega))

def blB (x : Bl) : List UInt8 := numB x.ent ++ textB x.acc ++ textB x.cur ++ numB x.amt
def blW (x : Bl) : List UInt8 := numB x.ent ++ txtW x.acc ++ txtW x.cur ++ numB x.amt
def blErr (err : Int) (x : Bl) : Int := fo (fo (fo (fo err (outB 0 200 x.ent)) (longB x.acc)) (longB x.cur)) (outB (-mostA) mostA x.amt)
def BlFit (x : Bl) : Prop := (0 ≤ x.ent ∧ x.ent ≤ 200) ∧ x.acc.size ≤ 24 ∧ x.cur.size ≤ 24 ∧ -mostA ≤ x.amt ∧ x.amt ≤ mostA
def BlsFit (l : List Bl) : Prop := l.length ≤ 200 ∧ ∀ k, k < l.length → BlFit (l.getD k bl0) ∧ ordAt l k = 0
def blsB (l : List Bl) : List UInt8 := l.flatMap blB
def blsW (l : List Bl) : List UInt8 := l.flatMap blW
def balB (l : List Bl) : List UInt8 := numB l.length ++ blsB l
def I64B (x : Bl) : Prop := I64 x.ent ∧ I64 x.amt
theorem blW_length {x : Bl} (h : I64B x) : (blW x).length ≤ 88 := by
  have h0 := numB_length h.1.1 h.1.2
  have h1 := txtW_length x.acc
  have h2 := txtW_length x.cur
  have h3 := numB_length h.2.1 h.2.2
  simp only [blW, List.length_append]
  omega
theorem blsW_length : ∀ (l : List Bl), (∀ x ∈ l, I64B x) → (blsW l).length ≤ 88 * l.length
  | [], _ => by simp [blsW]
  | x :: l, h => by
    have h1 := blW_length (h x (List.mem_cons_self ..))
    have h2 := blsW_length l (fun y hy => h y (List.mem_cons_of_mem _ hy))
    simp only [blsW, List.flatMap_cons, List.length_append, List.length_cons] at h2 ⊢
    omega
/-- The first thing that is wrong with so many. -/
def blsErr (l : List Bl) : Nat → Int
  | 0 => 0
  | k + 1 => fo (blErr (blsErr l k) (l.getD k bl0)) (ordAt l k)
def balBad (l : List Bl) : Int := if 200 < l.length then 4 else blsErr l l.length
theorem blErr_zero {err : Int} {x : Bl} : blErr err x = 0 ↔ err = 0 ∧ BlFit x := by
  unfold blErr BlFit
  rw [fo_eq_zero, fo_eq_zero, fo_eq_zero, fo_eq_zero]
  unfold longB outB
  constructor
  · rintro ⟨⟨⟨⟨h1, h0⟩, h2⟩, h3⟩, h4⟩
    refine ⟨h1, ?_, ?_, ?_, ?_⟩
    · split at h0
      · assumption
      · omega
    · split at h2 <;> omega
    · split at h3 <;> omega
    · split at h4
      · assumption
      · omega
  · rintro ⟨h1, h0, h2, h3, h4⟩
    exact ⟨⟨⟨⟨h1, if_pos h0⟩, if_neg (by omega)⟩, if_neg (by omega)⟩, if_pos h4⟩
theorem blsErr_zero (l : List Bl) : ∀ k, blsErr l k = 0 ↔ ∀ j, j < k → BlFit (l.getD j bl0) ∧ ordAt l j = 0
  | 0 => by simp [blsErr]
  | k + 1 => by
    rw [blsErr, fo_eq_zero, blErr_zero, blsErr_zero l k]
    constructor
    · rintro ⟨⟨h1, h2⟩, h3⟩ j hj
      rcases (by omega : j < k ∨ j = k) with h | rfl
      · exact h1 j h
      · exact ⟨h2, h3⟩
    · intro h
      exact ⟨⟨fun j hj => h j (by omega), (h k (by omega)).1⟩, (h k (by omega)).2⟩
theorem balBad_zero {l : List Bl} : balBad l = 0 ↔ BlsFit l := by
  unfold balBad BlsFit
  by_cases h : 200 < l.length
  · rw [if_pos h]
    constructor
    · omega
    · intro ⟨h4, _⟩; omega
  · rw [if_neg h, blsErr_zero]
    exact ⟨fun h1 => ⟨by omega, h1⟩, fun h1 => h1.2⟩
theorem blsW_fit : ∀ (l : List Bl), (∀ x ∈ l, BlFit x) → blsW l = blsB l
  | [], _ => rfl
  | x :: l, h => by
    have h1 := h x (List.mem_cons_self ..)
    have h2 := blsW_fit l (fun y hy => h y (List.mem_cons_of_mem _ hy))
    simp only [blsW, blsB, List.flatMap_cons] at h2 ⊢
    rw [h2]
    simp only [blW, blB, txtW_fit h1.2.1, txtW_fit h1.2.2.1]
theorem fit_mem {l : List Bl} (h : BlsFit l) : ∀ x ∈ l, BlFit x := fun x hx => by
  obtain ⟨k, hk, rfl⟩ := List.getElem_of_mem hx
  have := (h.2 k hk).1
  rw [List.getD_eq_getElem?_getD, List.getElem?_eq_getElem hk] at this
  exact this
theorem balW_fit {l : List Bl} (h : BlsFit l) : numB l.length ++ blsW l = balB l := by rw [blsW_fit l (fit_mem h)]; rfl
theorem balB_pos (l : List Bl) : 1 ≤ (balB l).length := by
  have := numB_pos l.length
  simp only [balB, List.length_append]
  omega

/-- A balance, read by a reader. -/
def blS (st : St) : Bl × St := (⟨(rdNS 0 200 st).1, (rdTS (rdNS 0 200 st).2).1, (rdTS (rdTS (rdNS 0 200 st).2).2).1, (rdNS (-mostA) mostA (rdTS (rdTS (rdNS 0 200 st).2).2).2).1⟩, (rdNS (-mostA) mostA (rdTS (rdTS (rdNS 0 200 st).2).2).2).2)
theorem blS_len {st : St} (h : StLen st) : StLen (blS st).2 := rdNS_len (rdTS_len (rdTS_len (rdNS_len h)))
theorem rdTS_enc {s : ByteArray} (r : List UInt8) (h : s.size ≤ 24) : rdTS (some (textB s ++ r)) = (s, some r) := by simp only [rdTS, rdT_enc r h]
theorem rdNS_enc {lo hi n : Int} (r : List UInt8) (h1 : lo ≤ n) (h2 : n ≤ hi) (h3 : -4611686018427387904 ≤ n) (h4 : n ≤ 4611686018427387903) : rdNS lo hi (some (numB n ++ r)) = (n, some r) := by simp only [rdNS, rdN_enc r h1 h2 h3 h4]
theorem blS_enc {x : Bl} (r : List UInt8) (h : BlFit x) : blS (some (blB x ++ r)) = (x, some r) := by
  obtain ⟨⟨h0, h0'⟩, h1, h2, h3, h4⟩ := h
  unfold mostA at h3 h4
  unfold blB blS
  simp only [List.append_assoc]
  rw [rdNS_enc _ h0 h0' (by omega) (by omega)]
  simp only
  rw [rdTS_enc _ h1]
  simp only
  rw [rdTS_enc _ h2]
  simp only
  unfold mostA
  rw [rdNS_enc _ h3 h4 (by omega) (by omega)]
theorem blS_back {st : St} {r : List UInt8} (h : (blS st).2 = some r) : ∃ l, st = some l ∧ l = blB (blS st).1 ++ r ∧ BlFit (blS st).1 := by
  cases st with
  | none => cases h
  | some l =>
    refine ⟨l, rfl, ?_⟩
    rcases @rdNS_of 0 200 l with ⟨h0, e0⟩ | ⟨s0, r0, h0, e0⟩
    · simp only [blS, e0] at h; cases h
    rcases @rdTS_of r0 with ⟨h1, e1⟩ | ⟨s1, r1, h1, e1⟩
    · simp only [blS, e0, e1] at h; cases h
    rcases @rdTS_of r1 with ⟨h2, e2⟩ | ⟨s2, r2, h2, e2⟩
    · simp only [blS, e0, e1, e2] at h; cases h
    rcases @rdNS_of (-mostA) mostA r2 with ⟨h3, e3⟩ | ⟨s3, r3, h3, e3⟩
    · simp only [blS, e0, e1, e2, e3] at h; cases h
    have ex : blS (some l) = (⟨s0, s1, s2, s3⟩, some r3) := by simp only [blS, e0, e1, e2, e3]
    rw [ex] at h ⊢
    cases h
    obtain ⟨q0, p0, p0'⟩ := rdN_back h0
    obtain ⟨q1, p1⟩ := rdT_back h1
    obtain ⟨q2, p2⟩ := rdT_back h2
    obtain ⟨q3, p3, p4⟩ := rdN_back h3
    refine ⟨?_, ⟨p0, p0'⟩, p1, p2, p3, p4⟩
    rw [q0, q1, q2, q3]
    simp [blB]
/-- So many balances, read by a reader. -/
def balsS : Nat → St → List Bl × St
  | 0, st => ([], st)
  | k + 1, st => ((balsS k st).1 ++ [(blS (balsS k st).2).1], if ordAt ((balsS k st).1 ++ [(blS (balsS k st).2).1]) k = 0 then (blS (balsS k st).2).2 else none)
theorem balsS_length : ∀ (k : Nat) (st : St), (balsS k st).1.length = k
  | 0, _ => rfl
  | k + 1, st => by simp [balsS, balsS_length k st]
theorem balsS_len : ∀ (k : Nat) (st : St), StLen st → StLen (balsS k st).2
  | 0, _, h => h
  | k + 1, st, h => by
    simp only [balsS]
    split
    · exact blS_len (balsS_len k st h)
    · intro l hl; cases hl
theorem bls_split (l : List Bl) (k : Nat) (h : k < l.length) : blsB (l.drop k) = blB (l.getD k bl0) ++ blsB (l.drop (k + 1)) := by
  have e : l.getD k bl0 = l[k] := by rw [List.getD_eq_getElem?_getD, List.getElem?_eq_getElem h]; rfl
  unfold blsB
  rw [List.drop_eq_getElem_cons h, List.flatMap_cons, e]
theorem balsS_enc (l : List Bl) (r : List UInt8) (h : BlsFit l) : ∀ k, k ≤ l.length → balsS k (some (blsB l ++ r)) = (l.take k, some (blsB (l.drop k) ++ r))
  | 0, _ => by simp [balsS]
  | k + 1, hk => by
    have ih := balsS_enc l r h k (by omega)
    have hlt : k < l.length := by omega
    have e1 : l.take k ++ [l.getD k bl0] = l.take (k + 1) := by
      rw [List.take_add_one, List.getElem?_eq_getElem hlt, List.getD_eq_getElem?_getD, List.getElem?_eq_getElem hlt]
      rfl
    simp only [balsS, ih]
    rw [bls_split l k hlt, List.append_assoc, blS_enc _ (h.2 k hlt).1]
    simp only [e1]
    rw [ordAt_take, (h.2 k hlt).2, if_pos rfl]
theorem balsS_back : ∀ (k : Nat) (st : St) (r : List UInt8), (balsS k st).2 = some r → ∃ l, st = some l ∧ l = blsB (balsS k st).1 ++ r ∧ ∀ j, j < k → BlFit ((balsS k st).1.getD j bl0) ∧ ordAt (balsS k st).1 j = 0
  | 0, st, r, h => ⟨r, h, by simp [balsS, blsB], fun j hj => absurd hj (by omega)⟩
  | k + 1, st, r, h => by
    have hlen := balsS_length k st
    simp only [balsS] at h ⊢
    split at h
    · rename_i ho
      obtain ⟨l1, e1, e2, hf⟩ := blS_back h
      obtain ⟨l, e3, e4, hg⟩ := balsS_back k st l1 e1
      refine ⟨l, e3, ?_, fun j hj => ?_⟩
      · rw [e4, e2]; simp [blsB]
      · rcases (by omega : j < k ∨ j = k) with hj' | rfl
        · rw [getD_left _ _ _ (by omega), ordAt_app _ _ _ (by omega)]
          exact hg j hj'
        · refine ⟨?_, ho⟩
          have : ((balsS j st).1 ++ [(blS (balsS j st).2).1]).getD j bl0 = (blS (balsS j st).2).1 := by simp [List.getD, hlen]
          rw [this]
          exact hf
    · cases h
/-- Balances, read by a reader. -/
def balS (st : St) : List Bl × St := balsS (rdNS 0 200 st).1.toNat (rdNS 0 200 st).2
theorem balS_enc (l : List Bl) (r : List UInt8) (h : BlsFit l) : balS (some (balB l ++ r)) = (l, some r) := by
  have h2 := h.1
  unfold balS balB
  rw [List.append_assoc, rdNS_enc _ (by omega) (by omega) (by omega) (by omega)]
  simp only [Int.toNat_natCast]
  rw [balsS_enc l r h l.length (Nat.le_refl _), List.take_length, List.drop_length]
  rfl
theorem balS_back {l r : List UInt8} (h : (balS (some l)).2 = some r) : l = balB (balS (some l)).1 ++ r ∧ BlsFit (balS (some l)).1 := by
  unfold balS at h ⊢
  rcases @rdNS_of 0 200 l with ⟨h0, e0⟩ | ⟨s0, r0, h0, e0⟩
  · rw [e0] at h
    obtain ⟨_, e, _⟩ := balsS_back _ _ _ h
    cases e
  · rw [e0] at h ⊢
    simp only at h ⊢
    obtain ⟨q0, p0, p0'⟩ := rdN_back h0
    obtain ⟨l1, e1, e2, hf⟩ := balsS_back _ _ _ h
    cases e1
    have hlen := balsS_length s0.toNat (some r0)
    refine ⟨?_, by rw [hlen]; omega, fun k hk => hf k (by omega)⟩
    unfold balB
    rw [hlen, show ((s0.toNat : Nat) : Int) = s0 by omega, List.append_assoc, ← e2]
    exact q0
theorem balS_cut {l : List Bl} (h : BlsFit l) : (balS (some ((balB l).take ((balB l).length - 1)))).2 = none := by
  cases hr : (balS (some ((balB l).take ((balB l).length - 1)))).2 with
  | none => rfl
  | some r =>
    obtain ⟨e1, hf⟩ := balS_back hr
    generalize (balS (some ((balB l).take ((balB l).length - 1)))).1 = y at *
    have h2 : balB l = balB y ++ (r ++ (balB l).drop ((balB l).length - 1)) := by
      rw [← List.append_assoc, ← e1, List.take_append_drop]
    have h3 := balS_enc l [] h
    rw [List.append_nil, h2, balS_enc y _ hf] at h3
    simp at h3
    have h4 := h3.2.2
    have := balB_pos l
    omega
end Go.Proofs.YtheabcdncildiaaDoor
