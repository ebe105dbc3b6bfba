/-
  The walk of daylaw1.ChartChecks.
-/
import Derived.Test.YtoipnafljmhceaaDoorChC1
import Derived.Test.YtoipnafljmhceaaDoorChT2
import Derived.Test.YtoipnafljmhceaaDoorErrT
namespace Go.Proofs.YtoipnafljmhceaaDoor
set_option linter.unusedVariables false
set_option linter.unusedSimpArgs false
set_option maxRecDepth 100000
open Go.RowKit

theorem cparBad_bd (pre : List Ac) (x : Ac) : 0 ≤ parBad pre x ∧ parBad pre x ≤ 12 := by
  unfold parBad
  split
  · omega
  · split
    · omega
    · split <;> omega
theorem cnextBad_bd (pre : List Ac) (x : Ac) : 0 ≤ nextBad pre x ∧ nextBad pre x ≤ 12 := by
  have := cparBad_bd pre x
  unfold nextBad
  split
  · omega
  · split
    · omega
    · split <;> omega
theorem cchGo_bd : ∀ (r pre : List Ac), 0 ≤ chGo pre r ∧ chGo pre r ≤ 12
  | [], _ => by simp [chGo]
  | x :: r, pre => by
    have := cnextBad_bd pre x
    rw [chGo]
    split
    · exact this
    · exact cchGo_bd r _
theorem cchBad_bd (l : List Ac) : 0 ≤ chBad l ∧ chBad l ≤ 12 := by
  unfold chBad
  split
  · omega
  · exact cchGo_bd l []
theorem cplace_bd (l : List Ac) (c : ByteArray) : 0 ≤ placeBad l c ∧ placeBad l c ≤ 12 := by
  have := cchBad_bd l
  unfold placeBad
  split
  · exact this
  · split <;> omega
theorem cchE_is {c : Int} (h : 0 ≤ c ∧ c ≤ 12) : ErrIs (chE c) c := by
  by_cases h0 : c = 0
  · subst h0; exact .inl ⟨rfl, rfl⟩
  · rw [chE_ne h0]; exact .inr ⟨rfl, by omega, by omega⟩

/-- The text, the leaves, and those under a code, as they are told. -/
def ckT (l : List Ac) : ByteArray := if chBad l = 0 then txt (chTxt l l.length) else txt []
def ckL (l : List Ac) : List ByteArray := if chBad l = 0 then lvs l else []
def ckU (l : List Ac) (c : ByteArray) : List ByteArray := if placeBad l c = 0 then undC l c else []

/-- What the calls of package chart hand back, and what their errors are. -/
structure CkC (w : World) (a : Option Addr) (cap : Nat) (l : List Ac) (c : ByteArray) (T : ByteArray) (L U : List ByteArray) (y : Ac) (e f : Int) (Ee Fe : Value) : Prop where
  err : ∀ E k W, ErrIs E k → Below w.heap.size w W → Calls Tryd.prog 5 #[E, .int .i64 k] W fun e w' => e = .returned (.bool true) ∧ Below W.heap.size W w'
  print : ∀ W, Below w.heap.size w W → Calls Tryd.prog 11 #[.slice a l.length cap] W fun e w' => e = .returned (.tuple #[.string T, Ee]) ∧ Below W.heap.size W w'
  leaves : ∀ W, Below w.heap.size w W → Calls Tryd.prog 12 #[.slice a l.length cap] W fun e w' => ∃ v, e = .returned (.tuple #[v, Ee]) ∧ TxtRow w' W.heap.size v L ∧ Below W.heap.size W w'
  find : ∀ W, Below w.heap.size w W → Calls Tryd.prog 13 #[.slice a l.length cap, .string c] W fun e w' => e = .returned (.tuple #[.agg y.cells, Fe]) ∧ Below W.heap.size W w'
  under : ∀ W, Below w.heap.size w W → Calls Tryd.prog 14 #[.slice a l.length cap, .string c] W fun e w' => ∃ v, e = .returned (.tuple #[v, Fe]) ∧ TxtRow w' W.heap.size v U ∧ Below W.heap.size W w'
  isE : ErrIs Ee e
  isF : ErrIs Fe f
  lenL : L.length ≤ 60
  lenU : U.length ≤ 60

theorem ckC_of (w : World) (a : Option Addr) (cap : Nat) (l : List Ac) (c : ByteArray) (h : IsSl w a l cap) (hg : ErrT w) : CkC w a cap l c (ckT l) (ckL l) (ckU l c) (findA l c) (chBad l) (placeBad l c) (chE (chBad l)) (chE (placeBad l c)) := by
  refine ⟨fun E k W h' hW => err_true h' W (hg.below hW (Nat.le_refl _)), fun W hW => ?_, fun W hW => ?_, fun W hW => chFind_any a cap l c W (h.below hW), fun W hW => ?_, cchE_is (cchBad_bd l), cchE_is (cplace_bd l c), ?_, ?_⟩
  · unfold ckT
    by_cases h0 : chBad l = 0
    · rw [if_pos h0, h0]
      exact print_ok a cap l W (h.below hW) h0
    · rw [if_neg h0]
      exact print_bad a cap l W (h.below hW) h0
  · unfold ckL
    by_cases h0 : chBad l = 0
    · rw [if_pos h0, h0]
      exact leaves_ok a cap l W (h.below hW) h0
    · rw [if_neg h0]
      refine (leaves_bad a cap l W (h.below hW) h0).mono ?_
      rintro e w' ⟨rfl, hb⟩
      exact ⟨_, rfl, World.ownsRow_nil _ _ _ _, hb⟩
  · unfold ckU
    by_cases h0 : placeBad l c = 0
    · rw [if_pos h0, h0]
      exact chUnder_ok a cap l c W (h.below hW) h0
    · rw [if_neg h0]
      refine (chUnder_bad a cap l c W (h.below hW) h0).mono ?_
      rintro e w' ⟨rfl, hb⟩
      exact ⟨_, rfl, World.ownsRow_nil _ _ _ _, hb⟩
  · unfold ckL
    split
    · rename_i h0
      have hl := chBad_len h0
      unfold lvs
      rw [List.length_map]
      have := List.length_filter_le (leafB l) l
      omega
    · simp
  · unfold ckU
    split
    · rename_i h0
      obtain ⟨q1, q2⟩ := placeBad_ok h0
      have hl := chBad_len q1
      obtain ⟨j, hj, ej, hp, _⟩ := idxP_some q2
      have hcc : (l.getD j ac0).code = c := by simpa only [hasCode, decide_eq_true_eq] using hp
      rw [← hcc, undC_eq q1 hj, List.length_map]
      have := List.length_filter_le (isU l j) (List.range l.length)
      simp only [List.length_range] at this
      unfold undL
      omega
    · simp

end Go.Proofs.YtoipnafljmhceaaDoor
