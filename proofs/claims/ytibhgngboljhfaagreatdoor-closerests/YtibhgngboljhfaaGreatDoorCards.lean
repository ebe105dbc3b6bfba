/-
  DERIVED. GIVEN WITH THE SEED: THE CARDS: each row of YtibhgngboljhfaaGreatDoorRows.lean that lists a variable, with what it lists TIED to the program's text (the seventh form; the later family's looks); each row that meets fmt, with fmt's text TOLD by the authors' own Lean function (tested against real Go, not proved from fmt's source: count such statements apart). THE CARD IS WHAT COUNTS. Prove the row's statement (the work); the ties are given (YtibhgngboljhfaaGreatDoorTie.lean); close each card by the builder's one call (the guide's Derived/Test/ToyasCard.lean, 'card_holds'). Laid BY PROGRAM, IN A SANDBOX (cutbox-door.mjs). By AI agents, Wed Nov 11 2026. No macro, syntax, notation, axiom, sorry.
-/
import Derived.Test.YtibhgngboljhfaaGreatDoorRows
import GoSem.ClaimSeven
namespace Go.Proofs.YtibhgngboljhfaaGreatDoor
namespace Rows

/-- THE TIED CARD OF 'daylaw3.CloseRests'. -/
def closeRestsCard : Claim7 := { stood := { row := closeRestsRow, standIns := [], harness := (true, "da583a66b0a19df53177ea14eb33145c70bc0bb6f4796659f11cb2efa3d899d9"), looks := true }, kinds := [], alts := [], laidByText := true, laidKinds := [.data, .data, .data, .handle], laidTests := true, laidLooks := .later }
def CloseRestsCardSaid : Prop := Claim7.holds Tryz.pinned (.plain (OpenSpec.ofChange closeRestsSpec)) closeRestsCard

/-- THE SECOND FORM's CARD OF 'daylaw3.CloseRests'. -/
def closeRestsUptoCard : Claim7 := { stood := { row := closeRestsUptoRow, standIns := [], harness := (true, "da583a66b0a19df53177ea14eb33145c70bc0bb6f4796659f11cb2efa3d899d9"), looks := true }, kinds := [], alts := [], laidByText := true, laidKinds := [.data, .data, .data, .handle], laidTests := true, laidLooks := .later }
def CloseRestsUptoCardSaid : Prop := Claim7.holds Tryz.pinned (.plain (OpenSpec.upto closeRestsSpec)) closeRestsUptoCard
end Rows
end Go.Proofs.YtibhgngboljhfaaGreatDoor
