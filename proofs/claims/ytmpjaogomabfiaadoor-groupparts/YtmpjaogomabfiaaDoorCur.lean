/-
  The contracts of rate.Cur, of strings.ContainsFunc at its closure, and of rate.isUpTo.
-/
import Derived.Test.YtmpjaogomabfiaaDoorIs
import Derived.WalkKit
import Derived.WalkSpells
import Derived.Lib.OthersKept
import Derived.Lib.TrimU
import Derived.Deep.LoopGhost
namespace Go.Proofs.YtmpjaogomabfiaaDoor
set_option linter.unusedVariables false
open Go.RowKit Go.Lib

/-- A sign that is no letter A to Z. -/
def other (r : Nat) : Bool := decide (r < 65) || decide (90 < r)

/-- Is there such a sign, from a place on, among at most so many? -/
def otherFrom (s : ByteArray) : Nat → Nat → Int
  | 0, _ => -1
  | f + 1, pos => if pos < s.size then (if other (Utf8.decode s pos).1 = true then (pos : Int) else otherFrom s f (pos + (Utf8.decode s pos).2)) else -1

theorem otherFrom_end (s : ByteArray) (f pos : Nat) (h : ¬ pos < s.size) : otherFrom s f pos = -1 := by cases f <;> simp [otherFrom, h]

theorem otherFrom_ge (s : ByteArray) : ∀ (f pos : Nat), -1 ≤ otherFrom s f pos
  | 0, _ => by simp [otherFrom]
  | f + 1, pos => by
    unfold otherFrom
    split
    · split
      · omega
      · exact otherFrom_ge s f _
    · omega

/-- Is a text a currency? -/
def isCur (s : ByteArray) : Bool := s.size == 3 && decide (otherFrom s s.size 0 < 0)

end Go.Proofs.YtmpjaogomabfiaaDoor
