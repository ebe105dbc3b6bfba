/-
  The contracts of dayref1's Cur, Period and Entity.
-/
import Derived.Test.YtmpjaogomabfiaaDoorCur
import Derived.Deep.QuietTactic
import Derived.BigQuiet
namespace Go.Proofs.YtmpjaogomabfiaaDoor
set_option linter.unusedVariables false
set_option linter.unusedSimpArgs false
set_option maxRecDepth 100000
open Go.RowKit Go.Lib

/-- A currency, letter by letter. -/
def isCurB (s : ByteArray) : Bool := s.size == 3 && ((65 ≤ (s.get! 0).toNat && (s.get! 0).toNat ≤ 90) && ((65 ≤ (s.get! 1).toNat && (s.get! 1).toNat ≤ 90) && (65 ≤ (s.get! 2).toNat && (s.get! 2).toNat ≤ 90)))

theorem other_at (s : ByteArray) (pos f : Nat) (h : pos < s.size) : otherFrom s (f + 1) pos = if 65 ≤ (s.get! pos).toNat ∧ (s.get! pos).toNat ≤ 90 then otherFrom s f (pos + 1) else (pos : Int) := by
  have hg : s.get! pos = s[pos]'h := by
    show s.data[pos]! = s.data[pos]'h
    exact getElem!_pos s.data pos h
  rw [hg, otherFrom, if_pos h]
  by_cases ha : (s[pos]'h).toNat < 128
  · rw [decode_ascii s pos h ha]
    by_cases hc : 65 ≤ (s[pos]'h).toNat ∧ (s[pos]'h).toNat ≤ 90
    · rw [if_pos hc, if_neg (by simp [other]; omega)]
    · rw [if_neg hc, if_pos (by simp [other]; omega)]
  · have hd := (decode_high s pos h (by omega)).1
    rw [if_pos (by simp [other]; omega), if_neg (by omega)]

theorem other_three (s : ByteArray) (h : s.size = 3) : otherFrom s 3 0 < 0 ↔ (65 ≤ (s.get! 0).toNat ∧ (s.get! 0).toNat ≤ 90) ∧ (65 ≤ (s.get! 1).toNat ∧ (s.get! 1).toNat ≤ 90) ∧ 65 ≤ (s.get! 2).toNat ∧ (s.get! 2).toNat ≤ 90 := by
  rw [other_at s 0 2 (by omega)]
  by_cases h0 : 65 ≤ (s.get! 0).toNat ∧ (s.get! 0).toNat ≤ 90
  · rw [if_pos h0, other_at s 1 1 (by omega)]
    by_cases h1 : 65 ≤ (s.get! 1).toNat ∧ (s.get! 1).toNat ≤ 90
    · rw [if_pos h1, other_at s 2 0 (by omega)]
      by_cases h2 : 65 ≤ (s.get! 2).toNat ∧ (s.get! 2).toNat ≤ 90
      · rw [if_pos h2]
        exact ⟨fun _ => ⟨h0, h1, h2⟩, fun _ => by simp [otherFrom]⟩
      · rw [if_neg h2]
        exact ⟨fun h => by omega, fun h => absurd h.2.2 h2⟩
    · rw [if_neg h1]
      exact ⟨fun h => by omega, fun h => absurd h.2.1 h1⟩
  · rw [if_neg h0]
    exact ⟨fun h => by omega, fun h => absurd h.1 h0⟩

theorem isCur_eq (s : ByteArray) : isCur s = isCurB s := by
  rw [Bool.eq_iff_iff]
  unfold isCur isCurB
  simp only [Bool.and_eq_true, beq_iff_eq, decide_eq_true_eq]
  constructor
  · rintro ⟨h, h'⟩
    rw [h] at h'
    exact ⟨h, (other_three s h).1 h'⟩
  · rintro ⟨h, h'⟩
    refine ⟨h, ?_⟩
    rw [h]
    exact (other_three s h).2 h'
/-- A letter A to Z stands at a place. -/
def good (s : ByteArray) (k : Nat) : Prop := 65 ≤ (s.get! k).toNat ∧ (s.get! k).toNat ≤ 90

theorem isCurB_iff (s : ByteArray) : isCurB s = true ↔ s.size = 3 ∧ good s 0 ∧ good s 1 ∧ good s 2 := by
  unfold isCurB good
  simp only [Bool.and_eq_true, beq_iff_eq, decide_eq_true_eq]

theorem entity_any (n : Int) (w : World) :
    Calls Tryd.prog 14 #[.int .i64 n] w fun e w' => e = .returned (.bool (upTo n 12)) ∧ w' = w := by
  by_cases h : 1 ≤ n
  · have e1 : upTo n 12 = decide (n ≤ 12) := by simp [upTo, h]
    rw [e1]
    go_enter Tryd.func14, Tryd.ntmps14
    go_wp2
    go_ret
    exact ⟨rfl, rfl⟩
  · have e1 : upTo n 12 = false := by simp [upTo, h]
    rw [e1]
    go_enter Tryd.func14, Tryd.ntmps14
    go_wp2
    go_ret
    exact ⟨rfl, rfl⟩

end Go.Proofs.YtmpjaogomabfiaaDoor
