/-
  The contract of frame.Entry.
-/
import Derived.Test.YtheabcdncildiaaDoorFr2
namespace Go.Proofs.YtheabcdncildiaaDoor
set_option linter.unusedVariables false
set_option linter.unusedSimpArgs false
set_option maxRecDepth 100000
open Go.RowKit Go.Lib

def lnW (x : Ln) : List UInt8 := txtW x.acc ++ txtW x.cur ++ numB x.amt
def lnErr (err : Int) (x : Ln) : Int := fo (fo (fo err (longB x.acc)) (longB x.cur)) (outB (-mostA) mostA x.amt)
def lnsW (l : List Ln) : List UInt8 := l.flatMap lnW
def lnsErr (err : Int) (l : List Ln) : Int := l.foldl lnErr err
/-- A number of 64 bits. -/
def I64 (n : Int) : Prop := -9223372036854775808 ≤ n ∧ n ≤ 9223372036854775807
theorem lnW_length {x : Ln} (h : I64 x.amt) : (lnW x).length ≤ 78 := by
  have h1 := txtW_length x.acc
  have h2 := txtW_length x.cur
  have h3 := numB_length h.1 h.2
  simp only [lnW, List.length_append]
  omega
theorem lnsW_length : ∀ (l : List Ln), (∀ x ∈ l, I64 x.amt) → (lnsW l).length ≤ 78 * l.length
  | [], _ => by simp [lnsW]
  | x :: l, h => by
    have h1 := lnW_length (h x (List.mem_cons_self ..))
    have h2 := lnsW_length l (fun y hy => h y (List.mem_cons_of_mem _ hy))
    simp only [lnsW, List.flatMap_cons, List.length_append, List.length_cons] at h2 ⊢
    omega
theorem lnsW_snoc (l : List Ln) (x : Ln) : lnsW (l ++ [x]) = lnsW l ++ lnW x := by simp [lnsW]
theorem lnsErr_snoc (err : Int) (l : List Ln) (x : Ln) : lnsErr err (l ++ [x]) = lnErr (lnsErr err l) x := by simp [lnsErr]
/-- What is wrong with an entry that is to be written. -/
def headErr (e : En) : Int := fo (fo (longB e.ref) (outB 0 200 e.ent)) (outB 0 200 e.per)
def headW (e : En) : List UInt8 := txtW e.ref ++ numB e.ent ++ numB e.per ++ numB e.lns.length
def entBad (e : En) : Int := if 20 < e.lns.length then 4 else lnsErr (headErr e) e.lns
theorem lnErr_zero {err : Int} {x : Ln} : lnErr err x = 0 ↔ err = 0 ∧ LnFit x := by
  unfold lnErr LnFit
  rw [fo_eq_zero, fo_eq_zero, fo_eq_zero]
  unfold longB outB
  constructor
  · rintro ⟨⟨⟨h1, h2⟩, h3⟩, h4⟩
    refine ⟨h1, ?_, ?_, ?_⟩
    · split at h2 <;> omega
    · split at h3 <;> omega
    · split at h4
      · assumption
      · omega
  · rintro ⟨h1, h2, h3, h4⟩
    exact ⟨⟨⟨h1, if_neg (by omega)⟩, if_neg (by omega)⟩, if_pos h4⟩
theorem lnsErr_zero : ∀ (l : List Ln) (err : Int), lnsErr err l = 0 ↔ err = 0 ∧ ∀ x ∈ l, LnFit x
  | [], err => by simp [lnsErr]
  | x :: l, err => by
    have := lnsErr_zero l (lnErr err x)
    simp only [lnsErr, List.foldl_cons] at this ⊢
    rw [this, lnErr_zero]
    simp [and_assoc]
theorem entBad_zero {e : En} : entBad e = 0 ↔ EnFit e := by
  unfold entBad EnFit
  by_cases h : 20 < e.lns.length
  · rw [if_pos h]
    constructor
    · omega
    · intro ⟨_, _, _, h4, _⟩; omega
  · rw [if_neg h, lnsErr_zero]
    unfold headErr
    rw [fo_eq_zero, fo_eq_zero]
    unfold longB outB
    constructor
    · rintro ⟨⟨⟨h1, h2⟩, h3⟩, h4⟩
      refine ⟨?_, ?_, ?_, by omega, h4⟩
      · split at h1 <;> omega
      · split at h2
        · assumption
        · omega
      · split at h3
        · assumption
        · omega
    · rintro ⟨h1, h2, h3, _, h4⟩
      exact ⟨⟨⟨if_neg (by omega), if_pos h2⟩, if_pos h3⟩, h4⟩
theorem txtW_fit {s : ByteArray} (h : s.size ≤ 24) : txtW s = textB s := if_neg (by omega)
theorem lnsW_fit : ∀ (l : List Ln), (∀ x ∈ l, LnFit x) → lnsW l = linesB l
  | [], _ => rfl
  | x :: l, h => by
    have h1 := h x (List.mem_cons_self ..)
    have h2 := lnsW_fit l (fun y hy => h y (List.mem_cons_of_mem _ hy))
    simp only [lnsW, linesB, List.flatMap_cons] at h2 ⊢
    rw [h2]
    simp only [lnW, lineB, txtW_fit h1.1, txtW_fit h1.2.1]
theorem entW_fit {e : En} (h : EnFit e) : headW e ++ lnsW e.lns = entB e := by
  obtain ⟨h1, h2, h3, h4, h5⟩ := h
  rw [lnsW_fit _ h5]
  simp only [headW, entB, txtW_fit h1]

end Go.Proofs.YtheabcdncildiaaDoor
