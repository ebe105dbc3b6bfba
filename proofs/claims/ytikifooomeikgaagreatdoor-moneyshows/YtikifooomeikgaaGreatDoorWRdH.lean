/-
  The contract of dayref1.Read. Written by genrdr.py: the tail of the walk is the same three times.
-/
import Derived.Test.YtikifooomeikgaaGreatDoorWRdM
import Derived.Test.YtikifooomeikgaaGreatDoorWBig12
import Derived.Test.YtikifooomeikgaaGreatDoorWBig14
import Derived.Test.YtikifooomeikgaaGreatDoorWRShow
namespace Go.Proofs.YtikifooomeikgaaGreatDoor
set_option linter.unusedVariables false
set_option linter.unusedSimpArgs false
set_option maxRecDepth 100000
open Go.RowKit Big Go.Lib

theorem rd_empty {a : ByteArray} (h : a.size = 0) : a.toList = [] := by
  rw [Lib.toList_data]
  exact List.eq_nil_of_length_eq_zero h
theorem rd_some {a : ByteArray} (h : a.size ≠ 0) : ¬ a.toList = [] := by
  rw [Lib.toList_data]
  exact fun e => h (congrArg List.length e)
def ptV : Option Nat → Int
  | none => -1
  | some k => k
/-- What is handed back. -/
def rdOut (a : Int × Int) : Ending := .returned (.tuple #[.int .i64 a.1, .int .i64 a.2])
theorem run_byte (l : List UInt8) (k : Nat) (hk : k < l.length) (W : World) : (Instr.slice 9 (.string (txt l)) (some (.int .i64 (k : Int))) (some (.int .i64 ((k : Int) + 1))) none).run Tryz.prog W = .ok (.string (txt [l[k]'hk])) W := by
  have e : (txt l).extract k (k + 1) = txt [l[k]'hk] := by
    apply ByteArray.ext
    apply Array.ext'
    simp [txt]
    rw [List.drop_eq_getElem_cons hk]
    rfl
  have hz := txt_size l
  rw [run_slice_string W 9 (txt l) .i64 .i64 k (k + 1) Tryz.underlying9 (by omega) (by omega) (by omega), ← e]
  rfl
theorem rGo_drop (l d : List UInt8) (pt : Option Nat) (k : Nat) (h : k < l.length) : rGo (l.drop k) d pt = if l[k]'h = 46 ∧ pt = none then rGo (l.drop (k + 1)) d (some d.length) else if isDig (l[k]'h) = true then rGo (l.drop (k + 1)) (d ++ [l[k]'h]) pt else none := by
  rw [List.drop_eq_getElem_cons h, rGo]
theorem rGo_end (l d : List UInt8) (pt : Option Nat) : rGo (l.drop l.length) d pt = some (d, pt) := by rw [List.drop_length, rGo]
end Go.Proofs.YtikifooomeikgaaGreatDoor
