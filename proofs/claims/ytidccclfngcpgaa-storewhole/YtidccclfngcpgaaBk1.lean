/-
  The contracts of a disk's small methods: has, failing, Steps, Fail, Blocks.
-/
import Derived.Test.YtidccclfngcpgaaBkM
import Derived.Deep.RegionHeld3
namespace Go.Proofs.Ytidccclfngcpgaa
set_option linter.unusedVariables false
set_option linter.unusedSimpArgs false
set_option maxRecDepth 100000
open Go.RowKit Go.Lib

/-- Nothing was made, nothing turned. -/
structure Still (w W : World) : Prop where
  os : W.os = w.os
  tape : W.tape = w.tape
  output : W.output = w.output
  heap : W.heap = w.heap
theorem Still.refl (w : World) : Still w w := ⟨rfl, rfl, rfl, rfl⟩
theorem Still.drew (w : World) : Still w w.drew := ⟨rfl, rfl, rfl, rfl⟩
theorem Still.drewN (w : World) (k : Nat) : Still w (w.drewN k) := ⟨rfl, rfl, rfl, rfl⟩
theorem Still.keeps {w W : World} (h : Still w W) (lo : Nat) (T : List TypeId) : Keeps lo T w W := ⟨h.os, h.tape, h.output, by rw [h.heap]; exact Nat.le_refl _, fun _ _ _ => by rw [h.heap]⟩
theorem Still.below {w W : World} (h : Still w W) (n : Nat) : Below n w W := ⟨h.os, h.tape, h.output, by rw [h.heap]; exact Nat.le_refl _, fun _ _ => by rw [h.heap]⟩
theorem DkAt.still {w W : World} {lo p nb sb : Nat} {cv : Value} {n : Nat} {D : Dk} (h : DkAt w lo p nb sb cv n D) (hs : Still w W) : DkAt W lo p nb sb cv n D := h.below (hs.below _)

def hasB (n : Nat) (i : Int) : Bool := decide (0 ≤ i ∧ i < n)
theorem has_any (lo p nb sb : Nat) (cv : Value) (n : Nat) (D : Dk) (i : Int) (w : World) (h : DkAt w lo p nb sb cv n D) :
    Calls Try.prog 31 #[.pointer (some ⟨p, 0, none⟩), .int .i64 i] w fun e w' => e = .returned (.bool (hasB n i)) ∧ Still w w' := by
  have c0 := h.p0
  clear h
  unfold hasB
  by_cases h0 : 0 ≤ i
  · by_cases h1 : i < n
    · rw [decide_eq_true ⟨h0, h1⟩]
      go_enter Try.func31, Try.ntmps31
      go_wp2
      go_ret
      exact ⟨rfl, Still.refl _⟩
    · rw [decide_eq_false (by omega)]
      go_enter Try.func31, Try.ntmps31
      go_wp2
      go_ret
      exact ⟨rfl, Still.refl _⟩
  · rw [decide_eq_false (by omega)]
    go_enter Try.func31, Try.ntmps31
    go_wp2
    go_ret
    exact ⟨rfl, Still.refl _⟩

def Dk.failing (D : Dk) : Bool := decide (0 ≤ D.fail ∧ D.fail ≤ (D.steps : Int))
theorem failing_any (lo p nb sb : Nat) (cv : Value) (n : Nat) (D : Dk) (w : World) (h : DkAt w lo p nb sb cv n D) :
    Calls Try.prog 30 #[.pointer (some ⟨p, 0, none⟩)] w fun e w' => e = .returned (.bool D.failing) ∧ Still w w' := by
  have c3 := h.p3
  have c4 := h.p4
  clear h
  unfold Dk.failing
  generalize D.fail = f at *
  generalize (D.steps : Int) = s at *
  by_cases h0 : 0 ≤ f
  · by_cases h1 : f ≤ s
    · rw [decide_eq_true ⟨h0, h1⟩]
      go_enter Try.func30, Try.ntmps30
      go_wp2
      go_region_held3 (fun u => u.cell? ⟨p, 3, none⟩ = some (.int .i64 s) ∧ u.cell? ⟨p, 4, none⟩ = some (.int .i64 f)) (go_keep) (fail)
      go_wp2
      go_ret
      exact ⟨rfl, Still.drew _⟩
    · rw [decide_eq_false (by omega)]
      have hd1 : decide (f ≤ s) = false := decide_eq_false h1
      go_enter Try.func30, Try.ntmps30
      go_wp2
      go_region_held3 (fun u => u.cell? ⟨p, 3, none⟩ = some (.int .i64 s) ∧ u.cell? ⟨p, 4, none⟩ = some (.int .i64 f)) (go_keep) (fail)
      go_wp2
      go_ret
      exact ⟨rfl, Still.drew _⟩
  · rw [decide_eq_false (by omega)]
    have hd0 : decide (0 ≤ f) = false := decide_eq_false h0
    go_enter Try.func30, Try.ntmps30
    go_wp2
    go_quiet (fail)
    go_wp2
    go_ret
    exact ⟨rfl, Still.drewN _ _⟩

theorem steps_any (lo p nb sb : Nat) (cv : Value) (n : Nat) (D : Dk) (w : World) (h : DkAt w lo p nb sb cv n D) :
    Calls Try.prog 11 #[.pointer (some ⟨p, 0, none⟩)] w fun e w' => e = .returned (.int .i64 (D.steps : Int)) ∧ w' = w := by
  have c3 := h.p3
  clear h
  go_enter Try.func11, Try.ntmps11
  go_wp2
  go_ret
  exact ⟨rfl, rfl⟩
end Go.Proofs.Ytidccclfngcpgaa
