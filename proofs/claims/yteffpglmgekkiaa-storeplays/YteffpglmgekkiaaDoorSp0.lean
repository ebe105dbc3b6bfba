/-
  What daylaw2.StorePlays counts: numbers alone, and Get of a page that there is not.
-/
import Derived.Test.YteffpglmgekkiaaDoorSt16
namespace Go.Proofs.YteffpglmgekkiaaDoor
set_option linter.unusedVariables false
set_option linter.unusedSimpArgs false
set_option maxRecDepth 100000
open Go.RowKit Go.Lib
/-- How many below m. -/
def cnt (g : Nat → Bool) : Nat → Nat
  | 0 => 0
  | m + 1 => cnt g m + (if g m = true then 1 else 0)
theorem cnt_le (g : Nat → Bool) : ∀ m, cnt g m ≤ m
  | 0 => Nat.le_refl _
  | m + 1 => by
    have := cnt_le g m
    unfold cnt
    split <;> omega
theorem cnt_congr {g h : Nat → Bool} : ∀ m, (∀ k, k < m → g k = h k) → cnt g m = cnt h m
  | 0, _ => rfl
  | m + 1, e => by
    unfold cnt
    rw [cnt_congr m (fun k hk => e k (by omega)), e m (by omega)]
theorem cnt_one {g h : Nat → Bool} (k : Nat) (hg : g k = false) (hk : h k = true) (e : ∀ j, j ≠ k → h j = g j) : ∀ m, cnt h m = cnt g m + (if k < m then 1 else 0)
  | 0 => rfl
  | m + 1 => by
    have ih := cnt_one k hg hk e m
    unfold cnt
    rw [ih]
    by_cases h1 : m = k
    · subst h1
      rw [hg, hk, if_neg (Nat.lt_irrefl m), if_pos (Nat.lt_succ_self m)]
      simp
    · rw [e m h1]
      by_cases h2 : k < m
      · rw [if_pos h2, if_pos (show k < m + 1 by omega)]; omega
      · rw [if_neg h2, if_neg (show ¬ k < m + 1 by omega)]; omega
/-- Pages of one's own, each once. -/
def Ks : List (Nat × List UInt8) → Prop
  | [] => True
  | kl :: P => (kl.1 < 40 ∧ kl.2.length ≤ 60 ∧ look P kl.1 = none) ∧ Ks P
theorem Ks.nil : Ks [] := True.intro
theorem Ks.cons {k : Nat} {l : List UInt8} {P : List (Nat × List UInt8)} (hk : k < 40) (hl : l.length ≤ 60) (hn : look P k = none) (h : Ks P) : Ks ((k, l) :: P) := ⟨⟨hk, hl, hn⟩, h⟩
theorem Ks.ind {motive : (P : List (Nat × List UInt8)) → Ks P → Prop} (nil : motive [] Ks.nil)
    (cons : ∀ {k : Nat} {l : List UInt8} {P : List (Nat × List UInt8)} (hk : k < 40) (hl : l.length ≤ 60) (hn : look P k = none) (h : Ks P), motive P h → motive ((k, l) :: P) (Ks.cons hk hl hn h)) :
    ∀ {P : List (Nat × List UInt8)} (h : Ks P), motive P h
  | [], _ => nil
  | (_, _) :: _, h => cons h.1.1 h.1.2.1 h.1.2.2 h.2 (Ks.ind nil cons h.2)
def isIn (P : List (Nat × List UInt8)) (k : Nat) : Bool := (look P k).isSome
theorem Ks.upd {P : List (Nat × List UInt8)} (h : Ks P) (k : Nat) (l : List UInt8) (hk : k < 40) (hl : l.length ≤ 60) : Ks (upd P k l) := by
  induction h using Ks.ind with
  | nil => exact .cons hk hl rfl .nil
  | @cons k' l' P hk' hl' hn hP ih =>
    unfold Proofs.YteffpglmgekkiaaDoor.upd
    by_cases e : k' = k
    · subst e
      rw [if_pos rfl]
      exact .cons hk hl hn hP
    · rw [if_neg e]
      refine .cons hk' hl' ?_ ih
      rw [look_upd, if_neg (fun e2 => e e2.symm)]
      exact hn
theorem Ks.short {P : List (Nat × List UInt8)} (h : Ks P) : ∀ k l, look P k = some l → l.length ≤ 60 := by
  induction h using Ks.ind with
  | nil => intro k l e; cases e
  | @cons k' l' P hk' hl' hn hP ih =>
    intro k l e
    unfold look at e
    split at e
    · cases e; exact hl'
    · exact ih k l e
theorem Ks.count {P : List (Nat × List UInt8)} (h : Ks P) : cnt (isIn P) 40 = P.length := by
  induction h using Ks.ind with
  | nil => decide
  | @cons k' l' P hk' hl' hn hP ih =>
    rw [cnt_one (g := isIn P) k' (by unfold isIn; rw [hn]; rfl) (by unfold isIn look; rw [if_pos rfl]; rfl) (fun j hj => by
      unfold isIn
      rw [show look ((k', l') :: P) j = look P j by rw [look, if_neg (fun e => hj e.symm)]]) 40, ih, if_pos hk']
    rfl
theorem isIn_upd (P : List (Nat × List UInt8)) (k : Nat) (l : List UInt8) (j : Nat) : isIn (upd P k l) j = (decide (j = k) || isIn P j) := by
  unfold isIn
  rw [look_upd]
  by_cases e : k = j
  · subst e; simp
  · rw [if_neg e, decide_eq_false (fun e2 => e e2.symm)]; rfl
end Go.Proofs.YteffpglmgekkiaaDoor
