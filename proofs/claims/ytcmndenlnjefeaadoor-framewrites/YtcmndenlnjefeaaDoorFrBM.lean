/-
  Balances as bytes, in order, and read again. It names no call.
-/
import Derived.Test.YtcmndenlnjefeaaDoorFr3
namespace Go.Proofs.YtcmndenlnjefeaaDoor
set_option linter.unusedVariables false
set_option linter.unusedSimpArgs false
open Go.RowKit

theorem bl_self : ∀ a : List UInt8, Op.bytesLess a a = false
  | [] => rfl
  | x :: a => by
    have := bl_self a
    simp [Op.bytesLess, this]

theorem bl_total : ∀ a b : List UInt8, Op.bytesLess a b = false → a ≠ b → Op.bytesLess b a = true
  | [], [], _, h => absurd rfl h
  | [], _ :: _, h, _ => by simp [Op.bytesLess] at h
  | _ :: _, [], _, _ => by simp [Op.bytesLess]
  | x :: a, y :: b, h, hne => by
    simp only [Op.bytesLess, Bool.or_eq_false_iff, decide_eq_false_iff_not, Bool.and_eq_false_iff, beq_eq_false_iff_ne] at h
    obtain ⟨h1, h2⟩ := h
    by_cases e : x = y
    · subst e
      have := bl_total a b (by simpa using h2) (fun e => hne (by rw [e]))
      simp [Op.bytesLess, this]
    · have : y < x := by
        rw [UInt8.lt_iff_toNat_lt] at h1 ⊢
        have : x.toNat ≠ y.toNat := fun h => e (UInt8.toNat_inj.1 h)
        omega
      simp [Op.bytesLess, this]

theorem bl_trans : ∀ a b c : List UInt8, Op.bytesLess a b = true → Op.bytesLess b c = true → Op.bytesLess a c = true
  | _, [], _, h, _ => by cases ‹List UInt8› <;> simp [Op.bytesLess] at h
  | _, _ :: _, [], _, h => by simp [Op.bytesLess] at h
  | [], _ :: _, _ :: _, _, _ => by simp [Op.bytesLess]
  | x :: a, y :: b, z :: c, h1, h2 => by
    simp only [Op.bytesLess, Bool.or_eq_true, decide_eq_true_eq, Bool.and_eq_true, beq_iff_eq] at h1 h2 ⊢
    simp only [UInt8.lt_iff_toNat_lt] at h1 h2 ⊢
    rcases h1 with h1 | ⟨rfl, h1⟩
    · rcases h2 with h2 | ⟨rfl, h2⟩
      · exact .inl (by omega)
      · exact .inl h1
    · rcases h2 with h2 | ⟨rfl, h2⟩
      · exact .inl h2
      · exact .inr ⟨rfl, bl_trans a b c h1 h2⟩

/-- Two texts held against each other. -/
def cmpS (a b : ByteArray) : Int := if Op.bytesLess a.toList b.toList = true then -1 else if (a.toList == b.toList) = true then 0 else 1
theorem cmpS_zero {a b : ByteArray} : cmpS a b = 0 ↔ (a.toList == b.toList) = true := by
  unfold cmpS
  split
  · rename_i h
    refine ⟨fun h => by omega, fun e => ?_⟩
    rw [beq_iff_eq] at e
    rw [e, bl_self] at h
    cases h
  · split
    · simp_all
    · simp_all
theorem cmpS_neg {a b : ByteArray} : cmpS a b < 0 ↔ Op.bytesLess a.toList b.toList = true := by
  unfold cmpS
  split
  · simp_all
  · split
    · simp_all
    · simp_all
theorem cmpS_range (a b : ByteArray) : cmpS a b = -1 ∨ cmpS a b = 0 ∨ cmpS a b = 1 := by
  unfold cmpS
  split
  · simp
  · split <;> simp

/-- Two numbers held against each other. -/
def cmpI (a b : Int) : Int := if a < b then -1 else if b < a then 1 else 0
/-- Two balances held against each other. -/
def cmpB (a b : Bl) : Int := if cmpI a.ent b.ent ≠ 0 then cmpI a.ent b.ent else if cmpS a.acc b.acc ≠ 0 then cmpS a.acc b.acc else cmpS a.cur b.cur
/-- What is wrong with where a balance stands. -/
def ordAt (l : List Bl) (k : Nat) : Int := if k = 0 ∨ cmpB (l.getD (k - 1) bl0) (l.getD k bl0) < 0 then 0 else 5
theorem ordAt_same {l m : List Bl} {k : Nat} (h1 : l.getD k bl0 = m.getD k bl0) (h2 : l.getD (k - 1) bl0 = m.getD (k - 1) bl0) : ordAt l k = ordAt m k := by unfold ordAt; rw [h1, h2]
theorem getD_take (l : List Bl) (k j : Nat) (h : j < k) : (l.take k).getD j bl0 = l.getD j bl0 := by simp [List.getD, h]
theorem getD_left (l m : List Bl) (j : Nat) (h : j < l.length) : (l ++ m).getD j bl0 = l.getD j bl0 := by rw [List.getD_eq_getElem?_getD, List.getD_eq_getElem?_getD, List.getElem?_append_left h]
theorem ordAt_take (l : List Bl) (k : Nat) : ordAt (l.take (k + 1)) k = ordAt l k := ordAt_same (getD_take l _ _ (by omega)) (getD_take l _ _ (by omega))
theorem ordAt_app (l m : List Bl) (k : Nat) (h : k < l.length) : ordAt (l ++ m) k = ordAt l k := ordAt_same (getD_left l m _ h) (getD_left l m _ (by omega))

def blB (x : Bl) : List UInt8 := numB x.ent ++ textB x.acc ++ textB x.cur ++ numB x.amt
def blW (x : Bl) : List UInt8 := numB x.ent ++ txtW x.acc ++ txtW x.cur ++ numB x.amt
def blErr (err : Int) (x : Bl) : Int := fo (fo (fo (fo err (outB 0 200 x.ent)) (longB x.acc)) (longB x.cur)) (outB (-mostA) mostA x.amt)
def BlFit (x : Bl) : Prop := (0 ≤ x.ent ∧ x.ent ≤ 200) ∧ x.acc.size ≤ 24 ∧ x.cur.size ≤ 24 ∧ -mostA ≤ x.amt ∧ x.amt ≤ mostA
def BlsFit (l : List Bl) : Prop := l.length ≤ 200 ∧ ∀ k, k < l.length → BlFit (l.getD k bl0) ∧ ordAt l k = 0
def blsB (l : List Bl) : List UInt8 := l.flatMap blB
def blsW (l : List Bl) : List UInt8 := l.flatMap blW
def balB (l : List Bl) : List UInt8 := numB l.length ++ blsB l
def I64B (x : Bl) : Prop := I64 x.ent ∧ I64 x.amt
theorem blW_length {x : Bl} (h : I64B x) : (blW x).length ≤ 88 := by
  have h0 := numB_length h.1.1 h.1.2
  have h1 := txtW_length x.acc
  have h2 := txtW_length x.cur
  have h3 := numB_length h.2.1 h.2.2
  simp only [blW, List.length_append]
  omega
theorem blsW_length : ∀ (l : List Bl), (∀ x ∈ l, I64B x) → (blsW l).length ≤ 88 * l.length
  | [], _ => by simp [blsW]
  | x :: l, h => by
    have h1 := blW_length (h x (List.mem_cons_self ..))
    have h2 := blsW_length l (fun y hy => h y (List.mem_cons_of_mem _ hy))
    simp only [blsW, List.flatMap_cons, List.length_append, List.length_cons] at h2 ⊢
    omega
/-- The first thing that is wrong with so many. -/
def blsErr (l : List Bl) : Nat → Int
  | 0 => 0
  | k + 1 => fo (blErr (blsErr l k) (l.getD k bl0)) (ordAt l k)
def balBad (l : List Bl) : Int := if 200 < l.length then 4 else blsErr l l.length
theorem blErr_zero {err : Int} {x : Bl} : blErr err x = 0 ↔ err = 0 ∧ BlFit x := by
  unfold blErr BlFit
  rw [fo_eq_zero, fo_eq_zero, fo_eq_zero, fo_eq_zero]
  unfold longB outB
  constructor
  · rintro ⟨⟨⟨⟨h1, h0⟩, h2⟩, h3⟩, h4⟩
    refine ⟨h1, ?_, ?_, ?_, ?_⟩
    · split at h0
      · assumption
      · omega
    · split at h2 <;> omega
    · split at h3 <;> omega
    · split at h4
      · assumption
      · omega
  · rintro ⟨h1, h0, h2, h3, h4⟩
    exact ⟨⟨⟨⟨h1, if_pos h0⟩, if_neg (by omega)⟩, if_neg (by omega)⟩, if_pos h4⟩
theorem blsErr_zero (l : List Bl) : ∀ k, blsErr l k = 0 ↔ ∀ j, j < k → BlFit (l.getD j bl0) ∧ ordAt l j = 0
  | 0 => by simp [blsErr]
  | k + 1 => by
    rw [blsErr, fo_eq_zero, blErr_zero, blsErr_zero l k]
    constructor
    · rintro ⟨⟨h1, h2⟩, h3⟩ j hj
      rcases (by omega : j < k ∨ j = k) with h | rfl
      · exact h1 j h
      · exact ⟨h2, h3⟩
    · intro h
      exact ⟨⟨fun j hj => h j (by omega), (h k (by omega)).1⟩, (h k (by omega)).2⟩
theorem balBad_zero {l : List Bl} : balBad l = 0 ↔ BlsFit l := by
  unfold balBad BlsFit
  by_cases h : 200 < l.length
  · rw [if_pos h]
    constructor
    · omega
    · intro ⟨h4, _⟩; omega
  · rw [if_neg h, blsErr_zero]
    exact ⟨fun h1 => ⟨by omega, h1⟩, fun h1 => h1.2⟩
theorem blsW_fit : ∀ (l : List Bl), (∀ x ∈ l, BlFit x) → blsW l = blsB l
  | [], _ => rfl
  | x :: l, h => by
    have h1 := h x (List.mem_cons_self ..)
    have h2 := blsW_fit l (fun y hy => h y (List.mem_cons_of_mem _ hy))
    simp only [blsW, blsB, List.flatMap_cons] at h2 ⊢
    rw [h2]
    simp only [blW, blB, txtW_fit h1.2.1, txtW_fit h1.2.2.1]
theorem fit_mem {l : List Bl} (h : BlsFit l) : ∀ x ∈ l, BlFit x := fun x hx => by
  obtain ⟨k, hk, rfl⟩ := List.getElem_of_mem hx
  have := (h.2 k hk).1
  rw [List.getD_eq_getElem?_getD, List.getElem?_eq_getElem hk] at this
  exact this
theorem balW_fit {l : List Bl} (h : BlsFit l) : numB l.length ++ blsW l = balB l := by rw [blsW_fit l (fit_mem h)]; rfl
theorem balB_pos (l : List Bl) : 1 ≤ (balB l).length := by
  have := numB_pos l.length
  simp only [balB, List.length_append]
  omega

end Go.Proofs.YtcmndenlnjefeaaDoor
