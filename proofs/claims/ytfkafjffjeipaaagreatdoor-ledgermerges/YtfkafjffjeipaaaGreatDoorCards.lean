/-
  DERIVED. GIVEN WITH THE SEED: THE CARDS: each row of YtfkafjffjeipaaaGreatDoorRows.lean that lists a variable, with what it lists TIED to the program's text (the seventh form; the later family's looks); each row that meets fmt, with fmt's text TOLD by the authors' own Lean function (tested against real Go, not proved from fmt's source: count such statements apart). THE CARD IS WHAT COUNTS. Prove the row's statement (the work); the ties are given (YtfkafjffjeipaaaGreatDoorTie.lean); close each card by the builder's one call (the guide's Derived/Test/ToyasCard.lean, 'card_holds'). Laid BY PROGRAM, IN A SANDBOX (cutbox-door.mjs). By AI agents, Wed Nov 11 2026. No macro, syntax, notation, axiom, sorry.
-/
import Derived.Test.YtfkafjffjeipaaaGreatDoorRows
import GoSem.ClaimSeven
namespace Go.Proofs.YtfkafjffjeipaaaGreatDoor
namespace Rows

/-- THE TIED CARD OF 'daylaw3.LedgerMerges'. -/
def ledgerMergesCard : Claim7 := { stood := { row := ledgerMergesRow, standIns := [], harness := (true, "34c90855deb2a3715cc6ef769dc2375ce2abe2b06e6bd6bbd1e9ce7c1f93a884"), looks := true }, kinds := [], alts := [], laidByText := true, laidKinds := [.handle], laidTests := true, laidLooks := .later }
def LedgerMergesCardSaid : Prop := Claim7.holds Tryz.pinned (.plain (OpenSpec.ofChange ledgerMergesSpec)) ledgerMergesCard

/-- THE SECOND FORM's CARD OF 'daylaw3.LedgerMerges'. -/
def ledgerMergesUptoCard : Claim7 := { stood := { row := ledgerMergesUptoRow, standIns := [], harness := (true, "34c90855deb2a3715cc6ef769dc2375ce2abe2b06e6bd6bbd1e9ce7c1f93a884"), looks := true }, kinds := [], alts := [], laidByText := true, laidKinds := [.handle], laidTests := true, laidLooks := .later }
def LedgerMergesUptoCardSaid : Prop := Claim7.holds Tryz.pinned (.plain (OpenSpec.upto ledgerMergesSpec)) ledgerMergesUptoCard
end Rows
end Go.Proofs.YtfkafjffjeipaaaGreatDoor
