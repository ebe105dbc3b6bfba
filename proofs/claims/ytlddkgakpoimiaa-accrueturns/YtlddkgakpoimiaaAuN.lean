/-
  Numbers of daylaw5.AccrueTurns.
-/
import Derived.Test.YtlddkgakpoimiaaPn1
import Derived.Test.YtlddkgakpoimiaaPn2
namespace Go.Proofs.Ytlddkgakpoimiaa
set_option linter.unusedVariables false
set_option linter.unusedSimpArgs false
set_option maxRecDepth 100000
open Go.RowKit Go.Lib

/-- A number of 64 bits. -/
def I64P (n : Int) : Prop := -9223372036854775808 ≤ n ∧ n ≤ 9223372036854775807
theorem dec_fact : decL 10 1 2 3 100 = [50, 25, 15] := by kernel_rfl
theorem part_neg (am fs pr pe : Int) : partN (-am) fs pr pe = -partN am fs pr pe := by
  unfold partN
  split
  · rfl
  · rw [Int.neg_mul, Int.neg_mul, Int.neg_tdiv, Int.neg_tdiv]; omega
theorem part_later (am fs pr pe : Int) : partN am (fs + 1) pr (pe + 1) = partN am fs pr pe := by
  unfold partN
  rw [show pe + 1 - (fs + 1) = pe - fs by omega]
theorem spread_neg {am fs pr : Int} (h : spreadB am fs pr = true) : spreadB (-am) fs pr = true := by
  rw [spreadB_iff] at *
  omega
theorem spread_later {am fs pr : Int} (h : spreadB am fs pr = true) (h2 : fs ≤ 119) : spreadB am (fs + 1) pr = true := by
  rw [spreadB_iff] at *
  omega
theorem partN_bd {am fs pr pe : Int} (h : spreadB am fs pr = true) (hp : upTo pe 120 = true) : -240000000000000000 ≤ partN am fs pr pe ∧ partN am fs pr pe ≤ 240000000000000000 := by
  obtain ⟨_, ha, hq, hf⟩ := spreadB_iff.1 h
  have hp' := upTo_iff.1 hp
  unfold partN
  split
  · omega
  · have m1 := pn_mul ha (k := pe - fs + 1) (by omega) (by omega)
    have m0 := pn_mul ha (k := pe - fs) (by omega) (by omega)
    have q1 := pn_tdiv m1 hq.1
    have q0 := pn_tdiv m0 hq.1
    omega
end Go.Proofs.Ytlddkgakpoimiaa
