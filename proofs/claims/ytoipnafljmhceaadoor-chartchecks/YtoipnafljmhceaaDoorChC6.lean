/-
  The walk of daylaw1.ChartChecks, whatever the chart.
-/
import Derived.Test.YtoipnafljmhceaaDoorChC4
import Derived.Test.YtoipnafljmhceaaDoorChC5
namespace Go.Proofs.YtoipnafljmhceaaDoor
set_option linter.unusedVariables false
set_option linter.unusedSimpArgs false
set_option maxRecDepth 100000
open Go.RowKit

theorem checks_walk (a : Option Addr) (cap : Nat) (l : List Ac) (c : ByteArray) (w : World) (h : IsSl w a l cap) (hok : ∀ k, k < l.length → (l.getD k ac0).code.size ≤ maxLen ∧ (l.getD k ac0).name.size ≤ maxLen) (hg : ErrT w) :
    Calls Tryd.prog 3 #[.slice a l.length cap, .string c] w fun e w' => e = .returned (.bool true) ∧ Below w.heap.size w w' := by
  have K := ckC_of w a cap l c h hg
  have C1 := refChart_any a cap l w h hok
  have C2 : ∀ W, Below w.heap.size w W → Calls Tryd.prog 6 #[.slice a l.length cap] W fun r w' => r = .returned (chE (chBad l)) ∧ Below W.heap.size W w' := fun W hW => chCheck_any a cap l W (h.below hW)
  by_cases h0 : chBad l = 0
  · have hlen := chBad_len h0
    have C4 : ∀ W, Below w.heap.size w W → Calls Tryd.prog 8 #[.slice a l.length cap, .string c] W fun r w' => r = .returned (.int .i64 (idxP (hasCode c) l)) ∧ w' = W := fun W hW => refAt_any a cap l c W (by omega) (h.below hW)
    have eT : ckT l = txt (chTxt l l.length) := by unfold ckT; rw [if_pos h0]
    have eL : ckL l = lvs l := by unfold ckL; rw [if_pos h0]
    rw [eT, eL] at K
    by_cases hp : idxP (hasCode c) l < 0
    · have eP : placeBad l c = 6 := by unfold placeBad; rw [if_neg (by omega), if_pos hp]
      have eF : findA l c = ac0 := by unfold findA; rw [if_neg (by omega)]
      have eU : ckU l c = [] := by unfold ckU; rw [if_neg (by omega)]
      have eI : idxP (hasCode c) l = -1 := idx_neg hp
      rw [eF, eU, eP, h0] at K
      rw [h0] at C1 C2
      rw [eI] at C4
      exact checks_none w a cap l c _ _ h h0 K C4 C1 C2
    · obtain ⟨j, hj, ej, hc, _⟩ := idxP_some (p := hasCode c) (l := l) (by omega)
      have hcc : (l.getD j ac0).code = c := by simpa only [hasCode, decide_eq_true_eq] using hc
      have eP : placeBad l c = 0 := by unfold placeBad; rw [if_neg (by omega), if_neg hp]
      have eF : findA l c = l.getD j ac0 := by unfold findA; rw [if_pos eP, ej]; rfl
      have eU : ckU l c = (undL l j).map fun k => (l.getD k ac0).code := by unfold ckU; rw [if_pos eP, ← hcc, undC_eq h0 hj]
      rw [eF, eU, eP, h0] at K
      rw [h0] at C1 C2
      rw [ej] at C4
      exact checks_found w a cap l c _ _ h h0 j hj K C4 C1 C2
  · have eP : placeBad l c = chBad l := by unfold placeBad; rw [if_pos h0]
    have eT : ckT l = txt [] := by unfold ckT; rw [if_neg h0]
    have eL : ckL l = [] := by unfold ckL; rw [if_neg h0]
    have eF : findA l c = ac0 := by unfold findA; rw [if_neg (by omega)]
    have eU : ckU l c = [] := by unfold ckU; rw [if_neg (by omega)]
    rw [eT, eL, eF, eU] at K
    exact checks_bad w a cap l c _ _ _ _ h0 eP K C1 C2
end Go.Proofs.YtoipnafljmhceaaDoor
