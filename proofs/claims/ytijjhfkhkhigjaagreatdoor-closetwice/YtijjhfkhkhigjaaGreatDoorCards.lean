/-
  DERIVED. GIVEN WITH THE SEED: THE CARDS: each row of YtijjhfkhkhigjaaGreatDoorRows.lean that lists a variable, with what it lists TIED to the program's text (the seventh form; the later family's looks); each row that meets fmt, with fmt's text TOLD by the authors' own Lean function (tested against real Go, not proved from fmt's source: count such statements apart). THE CARD IS WHAT COUNTS. Prove the row's statement (the work); the ties are given (YtijjhfkhkhigjaaGreatDoorTie.lean); close each card by the builder's one call (the guide's Derived/Test/ToyasCard.lean, 'card_holds'). Laid BY PROGRAM, IN A SANDBOX (cutbox-door.mjs). By AI agents, Wed Nov 11 2026. No macro, syntax, notation, axiom, sorry.
-/
import Derived.Test.YtijjhfkhkhigjaaGreatDoorRows
import GoSem.ClaimSeven
namespace Go.Proofs.YtijjhfkhkhigjaaGreatDoor
namespace Rows

/-- THE TIED CARD OF 'daylaw3.CloseTwice'. -/
def closeTwiceCard : Claim7 := { stood := { row := closeTwiceRow, standIns := [], harness := (true, "a7f99a484861aa9ac3bf6c6bbad318b5513163f136d4bc34aac2fcbc6cbcf797"), looks := false }, kinds := [], alts := [], laidByText := true, laidKinds := [.data, .data, .data], laidTests := true, laidLooks := .later }
def CloseTwiceCardSaid : Prop := Claim7.holds Tryz.pinned (.plain (OpenSpec.ofChange closeTwiceSpec)) closeTwiceCard

/-- THE SECOND FORM's CARD OF 'daylaw3.CloseTwice'. -/
def closeTwiceUptoCard : Claim7 := { stood := { row := closeTwiceUptoRow, standIns := [], harness := (true, "a7f99a484861aa9ac3bf6c6bbad318b5513163f136d4bc34aac2fcbc6cbcf797"), looks := false }, kinds := [], alts := [], laidByText := true, laidKinds := [.data, .data, .data], laidTests := true, laidLooks := .later }
def CloseTwiceUptoCardSaid : Prop := Claim7.holds Tryz.pinned (.plain (OpenSpec.upto closeTwiceSpec)) closeTwiceUptoCard
end Rows
end Go.Proofs.YtijjhfkhkhigjaaGreatDoor
