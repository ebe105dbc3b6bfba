/-
  DERIVED. GIVEN WITH THE SEED: THE CARDS: each row of YtikifooomeikgaaGreatDoorRows.lean that lists a variable, with what it lists TIED to the program's text (the seventh form; the later family's looks); each row that meets fmt, with fmt's text TOLD by the authors' own Lean function (tested against real Go, not proved from fmt's source: count such statements apart). THE CARD IS WHAT COUNTS. Prove the row's statement (the work); the ties are given (YtikifooomeikgaaGreatDoorTie.lean); close each card by the builder's one call (the guide's Derived/Test/ToyasCard.lean, 'card_holds'). Laid BY PROGRAM, IN A SANDBOX (cutbox-door.mjs). By AI agents, Wed Nov 11 2026. No macro, syntax, notation, axiom, sorry.
-/
import Derived.Test.YtikifooomeikgaaGreatDoorRows
import GoSem.ClaimSeven
namespace Go.Proofs.YtikifooomeikgaaGreatDoor
namespace Rows

/-- THE TIED CARD OF 'daylaw1.MoneyShows'. -/
def moneyShowsCard : Claim7 := { stood := { row := moneyShowsRow, standIns := [], harness := (true, "115b1d6c871f8871af43bb359f3ced869b848d4ef3fcdbd5a6fd70987eafc851"), looks := true }, kinds := [], alts := [], laidByText := true, laidKinds := [.data, .data, .data, .handle, .sentinel, .sentinel], laidTests := true, laidLooks := .later }
def MoneyShowsCardSaid : Prop := Claim7.holds Tryz.pinned (.plain (OpenSpec.ofChange moneyShowsSpec)) moneyShowsCard

/-- THE SECOND FORM's CARD OF 'daylaw1.MoneyShows'. -/
def moneyShowsUptoCard : Claim7 := { stood := { row := moneyShowsUptoRow, standIns := [], harness := (true, "115b1d6c871f8871af43bb359f3ced869b848d4ef3fcdbd5a6fd70987eafc851"), looks := true }, kinds := [], alts := [], laidByText := true, laidKinds := [.data, .data, .data, .handle, .sentinel, .sentinel], laidTests := true, laidLooks := .later }
def MoneyShowsUptoCardSaid : Prop := Claim7.holds Tryz.pinned (.plain (OpenSpec.upto moneyShowsSpec)) moneyShowsUptoCard
end Rows
end Go.Proofs.YtikifooomeikgaaGreatDoor
