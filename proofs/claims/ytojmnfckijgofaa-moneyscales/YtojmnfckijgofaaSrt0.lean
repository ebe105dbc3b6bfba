/-
  The contracts of cmp.Compare on uint64 and of the function by which money.byCut sorts.
-/
import Derived.Test.YtojmnfckijgofaaSrt1
namespace Go.Proofs.Ytojmnfckijgofaa
set_option linter.unusedVariables false
set_option linter.unusedSimpArgs false
set_option maxRecDepth 100000
open Go.RowKit Go.Lib

/-- How two numbers compare. -/
def cmpN (x y : Int) : Int := if x < y then -1 else if y < x then 1 else 0
theorem isNaN64_any (x : Int) (w : World) : Calls Try.prog 25 #[.int .u64 x] w fun e w' => e = .returned (.bool false) ∧ w' = w := by
  go_enter Try.func25, Try.ntmps25
  go_wp2
  go_ret
  exact ⟨rfl, rfl⟩
theorem compare64_any (x y : Int) (w : World) : Calls Try.prog 21 #[.int .u64 x, .int .u64 y] w fun e w' => e = .returned (.int .i64 (cmpN x y)) ∧ w' = w := by
  have HN : Hid (∀ z, Calls _ _ _ _ _) := fun z => isNaN64_any z w
  unfold cmpN
  by_cases h1 : x < y
  · rw [if_pos h1]
    go_enter Try.func21, Try.ntmps21
    go_wp2_with fail
    refine (HN.out x).mono ?_
    rintro e w' ⟨rfl, hw⟩
    rw [hw]; clear hw w'
    go_wp2_with fail
    refine (HN.out y).mono ?_
    rintro e w' ⟨rfl, hw⟩
    rw [hw]; clear hw w'
    go_wp2
    go_ret
    exact ⟨rfl, rfl⟩
  · rw [if_neg h1]
    by_cases h2 : y < x
    · rw [if_pos h2]
      go_enter Try.func21, Try.ntmps21
      go_wp2_with fail
      refine (HN.out x).mono ?_
      rintro e w' ⟨rfl, hw⟩
      rw [hw]; clear hw w'
      go_wp2_with fail
      refine (HN.out y).mono ?_
      rintro e w' ⟨rfl, hw⟩
      rw [hw]; clear hw w'
      go_wp2
      go_ret
      exact ⟨rfl, rfl⟩
    · rw [if_neg h2]
      go_enter Try.func21, Try.ntmps21
      go_wp2_with fail
      refine (HN.out x).mono ?_
      rintro e w' ⟨rfl, hw⟩
      rw [hw]; clear hw w'
      go_wp2_with fail
      refine (HN.out y).mono ?_
      rintro e w' ⟨rfl, hw⟩
      rw [hw]; clear hw w'
      go_wp2
      go_ret
      exact ⟨rfl, rfl⟩

/-- What was cut off, in memory, and the variable that holds it. -/
structure CutAt (w : World) (cb gc : Nat) (cut : List Int) (cap : Nat) : Prop where
  box : w.cell? ⟨cb, 0, none⟩ = some (.slice (some ⟨gc, 0, none⟩) cut.length cap)
  row : ∀ i, i < cut.length → w.cell? ⟨gc, i, none⟩ = some (.int .u64 (cut.getD i 0))
theorem CutAt.but {w W : World} {g cb gc : Nat} {cut : List Int} {cap : Nat} (h : CutAt w cb gc cut cap) (hb : But g w W) (h1 : cb ≠ g) (h2 : gc ≠ g) : CutAt W cb gc cut cap :=
  ⟨(World.cell?_of_block (w := w) (hb.block cb h1)).trans h.box, fun i hi => (World.cell?_of_block (w := w) (hb.block gc h2)).trans (h.row i hi)⟩
/-- Who was cut more stands ahead. -/
def cutC (cut : List Int) (i j : Nat) : Int := cmpN (cut.getD j 0) (cut.getD i 0)
theorem byCut1_any (i j cb gc : Nat) (cut : List Int) (cap : Nat) (w : World) (h : CutAt w cb gc cut cap) (hi : i < cut.length) (hj : j < cut.length) :
    Calls Try.prog 20 #[.int .i64 (i : Int), .int .i64 (j : Int), .pointer (some ⟨cb, 0, none⟩)] w fun e w' => e = .returned (.int .i64 (cutC cut i j)) ∧ ∃ k, w' = w.drewN k := by
  have c0 := h.box
  have c1 := h.row i hi
  have c2 := h.row j hj
  have i0 : (0 : Int) ≤ i := by omega
  have i1 : (i : Int) < cut.length := by omega
  have j0 : (0 : Int) ≤ j := by omega
  have j1 : (j : Int) < cut.length := by omega
  have HC : ∀ W, Calls Try.prog 21 #[.int .u64 (cut.getD j 0), .int .u64 (cut.getD i 0)] W fun e w' => e = .returned (.int .i64 (cutC cut i j)) ∧ w' = W := fun W => compare64_any _ _ W
  generalize cutC cut i j = r at *
  generalize cut.getD i 0 = x at *
  generalize cut.getD j 0 = y at *
  clear h
  go_enter Try.func20, Try.ntmps20
  go_wp2_with fail
  go_quiet ((go_at_call 21; exact Calls.quiet_of_same (HC _)))
  rename Nat => nq
  go_wp2
  go_ret
  exact ⟨rfl, nq, rfl⟩
end Go.Proofs.Ytojmnfckijgofaa
