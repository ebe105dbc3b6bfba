/-
  DERIVED. GIVEN WITH THE SEED: THE CARDS: each row of YtagimpmefodaeaaGreatDoorRows.lean that lists a variable, with what it lists TIED to the program's text (the seventh form; the later family's looks); each row that meets fmt, with fmt's text TOLD by the authors' own Lean function (tested against real Go, not proved from fmt's source: count such statements apart). THE CARD IS WHAT COUNTS. Prove the row's statement (the work); the ties are given (YtagimpmefodaeaaGreatDoorTie.lean); close each card by the builder's one call (the guide's Derived/Test/ToyasCard.lean, 'card_holds'). Laid BY PROGRAM, IN A SANDBOX (cutbox-door.mjs). By AI agents, Wed Nov 11 2026. No macro, syntax, notation, axiom, sorry.
-/
import Derived.Test.YtagimpmefodaeaaGreatDoorRows
import GoSem.ClaimSeven
namespace Go.Proofs.YtagimpmefodaeaaGreatDoor
namespace Rows

/-- THE TIED CARD OF 'daylaw3.PairLeaves'. -/
def pairLeavesCard : Claim7 := { stood := { row := pairLeavesRow, standIns := [], harness := (true, "e65ccd6762b9faedffe5b6b8f7b21440ad4f51e62162893979473e2e680caea9"), looks := true }, kinds := [], alts := [], laidByText := true, laidKinds := [.data, .data, .data, .handle], laidTests := true, laidLooks := .later }
def PairLeavesCardSaid : Prop := Claim7.holds Tryz.pinned (.plain (OpenSpec.ofChange pairLeavesSpec)) pairLeavesCard

/-- THE SECOND FORM's CARD OF 'daylaw3.PairLeaves'. -/
def pairLeavesUptoCard : Claim7 := { stood := { row := pairLeavesUptoRow, standIns := [], harness := (true, "e65ccd6762b9faedffe5b6b8f7b21440ad4f51e62162893979473e2e680caea9"), looks := true }, kinds := [], alts := [], laidByText := true, laidKinds := [.data, .data, .data, .handle], laidTests := true, laidLooks := .later }
def PairLeavesUptoCardSaid : Prop := Claim7.holds Tryz.pinned (.plain (OpenSpec.upto pairLeavesSpec)) pairLeavesUptoCard
end Rows
end Go.Proofs.YtagimpmefodaeaaGreatDoor
