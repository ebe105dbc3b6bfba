/-
  DERIVED. GIVEN WITH THE SEED: THE CARDS: each row of YteiidlapekocoaaGreatDoorRows.lean that lists a variable, with what it lists TIED to the program's text (the seventh form; the later family's looks); each row that meets fmt, with fmt's text TOLD by the authors' own Lean function (tested against real Go, not proved from fmt's source: count such statements apart). THE CARD IS WHAT COUNTS. Prove the row's statement (the work); the ties are given (YteiidlapekocoaaGreatDoorTie.lean); close each card by the builder's one call (the guide's Derived/Test/ToyasCard.lean, 'card_holds'). Laid BY PROGRAM, IN A SANDBOX (cutbox-door.mjs). By AI agents, Wed Nov 11 2026. No macro, syntax, notation, axiom, sorry.
-/
import Derived.Test.YteiidlapekocoaaGreatDoorRows
import GoSem.ClaimSeven
namespace Go.Proofs.YteiidlapekocoaaGreatDoor
namespace Rows

/-- THE TIED CARD OF 'daylaw5.CloseEmpty'. -/
def closeEmptyCard : Claim7 := { stood := { row := closeEmptyRow, standIns := [], harness := (true, "4233572b1b49c43f2e901903bf94a91b6c3ee26eaab5905d88bf665ec6d73325"), looks := true }, kinds := [], alts := [], laidByText := true, laidKinds := [.data, .data, .data, .handle], laidTests := true, laidLooks := .later }
def CloseEmptyCardSaid : Prop := Claim7.holds Tryz.pinned (.plain (OpenSpec.ofChange closeEmptySpec)) closeEmptyCard

/-- THE SECOND FORM's CARD OF 'daylaw5.CloseEmpty'. -/
def closeEmptyUptoCard : Claim7 := { stood := { row := closeEmptyUptoRow, standIns := [], harness := (true, "4233572b1b49c43f2e901903bf94a91b6c3ee26eaab5905d88bf665ec6d73325"), looks := true }, kinds := [], alts := [], laidByText := true, laidKinds := [.data, .data, .data, .handle], laidTests := true, laidLooks := .later }
def CloseEmptyUptoCardSaid : Prop := Claim7.holds Tryz.pinned (.plain (OpenSpec.upto closeEmptySpec)) closeEmptyUptoCard
end Rows
end Go.Proofs.YteiidlapekocoaaGreatDoor
