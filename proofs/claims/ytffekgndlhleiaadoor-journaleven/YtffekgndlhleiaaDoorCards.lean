/-
  DERIVED. GIVEN WITH THE SEED: THE CARDS: each row of YtffekgndlhleiaaDoorRows.lean that lists a variable, with what it lists TIED to the program's text (the seventh form; the later family's looks); each row that meets fmt, with fmt's text TOLD by the authors' own Lean function (tested against real Go, not proved from fmt's source: count such statements apart). THE CARD IS WHAT COUNTS. Prove the row's statement (the work); the ties are given (YtffekgndlhleiaaDoorTie.lean); close each card by the builder's one call (the guide's Derived/Test/ToyasCard.lean, 'card_holds'). Laid BY PROGRAM, IN A SANDBOX (cutbox-door.mjs). By AI agents, Wed Nov 11 2026. No macro, syntax, notation, axiom, sorry.
-/
import Derived.Test.YtffekgndlhleiaaDoorRows
import GoSem.ClaimSeven
namespace Go.Proofs.YtffekgndlhleiaaDoor
namespace Rows

/-- THE TIED CARD OF 'daylaw3.JournalEven'. -/
def journalEvenCard : Claim7 := { stood := { row := journalEvenRow, standIns := [], harness := (true, "4b7ff8940e76eae4938986808def25789cfe14209bfa3996fbad23ae3bc43e20"), looks := true }, kinds := [], alts := [], laidByText := true, laidKinds := [.handle], laidTests := true, laidLooks := .later }
def JournalEvenCardSaid : Prop := Claim7.holds Tryd.pinned (.plain (OpenSpec.ofChange journalEvenSpec)) journalEvenCard

/-- THE SECOND FORM's CARD OF 'daylaw3.JournalEven'. -/
def journalEvenUptoCard : Claim7 := { stood := { row := journalEvenUptoRow, standIns := [], harness := (true, "4b7ff8940e76eae4938986808def25789cfe14209bfa3996fbad23ae3bc43e20"), looks := true }, kinds := [], alts := [], laidByText := true, laidKinds := [.handle], laidTests := true, laidLooks := .later }
def JournalEvenUptoCardSaid : Prop := Claim7.holds Tryd.pinned (.plain (OpenSpec.upto journalEvenSpec)) journalEvenUptoCard
end Rows
end Go.Proofs.YtffekgndlhleiaaDoor
