/-
  DERIVED. GIVEN WITH THE SEED: THE CARDS: each row of YtpfmimbeeoncjaaDoorRows.lean that lists a variable, with what it lists TIED to the program's text (the seventh form; the later family's looks); each row that meets fmt, with fmt's text TOLD by the authors' own Lean function (tested against real Go, not proved from fmt's source: count such statements apart). THE CARD IS WHAT COUNTS. Prove the row's statement (the work); the ties are given (YtpfmimbeeoncjaaDoorTie.lean); close each card by the builder's one call (the guide's Derived/Test/ToyasCard.lean, 'card_holds'). Laid BY PROGRAM, IN A SANDBOX (cutbox-door.mjs). By AI agents, Wed Nov 11 2026. No macro, syntax, notation, axiom, sorry.
-/
import Derived.Test.YtpfmimbeeoncjaaDoorRows
import GoSem.ClaimSeven
namespace Go.Proofs.YtpfmimbeeoncjaaDoor
namespace Rows

/-- THE TIED CARD OF 'daylaw5.BlockTorn'. -/
def blockTornCard : Claim7 := { stood := { row := blockTornRow, standIns := [], harness := (true, "21b0743539a619c8aa3655effbb88f580208ded82210d15970e067b5de432a8d"), looks := true }, kinds := [], alts := [], laidByText := true, laidKinds := [.handle], laidTests := true, laidLooks := .later }
def BlockTornCardSaid : Prop := Claim7.holds Tryd.pinned (.plain (OpenSpec.ofChange blockTornSpec)) blockTornCard

/-- THE SECOND FORM's CARD OF 'daylaw5.BlockTorn'. -/
def blockTornUptoCard : Claim7 := { stood := { row := blockTornUptoRow, standIns := [], harness := (true, "21b0743539a619c8aa3655effbb88f580208ded82210d15970e067b5de432a8d"), looks := true }, kinds := [], alts := [], laidByText := true, laidKinds := [.handle], laidTests := true, laidLooks := .later }
def BlockTornUptoCardSaid : Prop := Claim7.holds Tryd.pinned (.plain (OpenSpec.upto blockTornSpec)) blockTornUptoCard
end Rows
end Go.Proofs.YtpfmimbeeoncjaaDoor
