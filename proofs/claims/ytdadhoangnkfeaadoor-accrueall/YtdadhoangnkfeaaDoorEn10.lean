/-
  The contracts of entry.checkHead, entry.checkLine, entry.Check.
-/
import Derived.Test.YtdadhoangnkfeaaDoorEn9
import Derived.Test.YtdadhoangnkfeaaDoorLf
import Derived.Test.YtdadhoangnkfeaaDoorCur
namespace Go.Proofs.YtdadhoangnkfeaaDoor
set_option linter.unusedVariables false
set_option linter.unusedSimpArgs false
set_option maxRecDepth 100000
open Go.RowKit Go.Lib

theorem enE_chE (n : Int) : enE n = chE n := rfl

/-- What is wrong with an entry, whatever its lines have. -/
def headBad (r : ByteArray) (en pe : Int) (n : Nat) : Int :=
  if isRefB r = false then 2 else if upTo en 12 = false ∨ upTo pe 120 = false then 1 else if n < 2 then 3 else if 20 < n then 4 else 0

/-- What is wrong with a line by itself. -/
def lnBad (c : List Ac) (x : Ln) : Int :=
  if idxP (hasCode x.acc) c < 0 then 6 else if memB x.acc (lvs c) = false then 12 else if isCur x.cur = false then 2 else if x.amt = 0 ∨ isAmtB x.amt = false then 1 else 0
theorem lnBad_leaf (c : List Ac) (x : Ln) : lnBad c x = if leafBad c x.acc ≠ 0 then leafBad c x.acc else if isCur x.cur = false then 2 else if x.amt = 0 ∨ isAmtB x.amt = false then 1 else 0 := by
  unfold lnBad leafBad
  by_cases h1 : idxP (hasCode x.acc) c < 0
  · simp only [if_pos h1]; rfl
  · simp only [if_neg h1]
    cases h2 : memB x.acc (lvs c)
    · rfl
    · rfl

end Go.Proofs.YtdadhoangnkfeaaDoor
