/-
  DERIVED. GIVEN WITH THE SEED: THE CARDS: each row of YtcpaaaidjmfibaaDoorRows.lean that lists a variable, with what it lists TIED to the program's text (the seventh form; the later family's looks); each row that meets fmt, with fmt's text TOLD by the authors' own Lean function (tested against real Go, not proved from fmt's source: count such statements apart). THE CARD IS WHAT COUNTS. Prove the row's statement (the work); the ties are given (YtcpaaaidjmfibaaDoorTie.lean); close each card by the builder's one call (the guide's Derived/Test/ToyasCard.lean, 'card_holds'). Laid BY PROGRAM, IN A SANDBOX (cutbox-door.mjs). By AI agents, Wed Nov 11 2026. No macro, syntax, notation, axiom, sorry.
-/
import Derived.Test.YtcpaaaidjmfibaaDoorRows
import GoSem.ClaimSeven
namespace Go.Proofs.YtcpaaaidjmfibaaDoor
namespace Rows

/-- THE TIED CARD OF 'daylaw1.ChartRolls'. -/
def chartRollsCard : Claim7 := { stood := { row := chartRollsRow, standIns := [], harness := (true, "bb071138338f941a0b787ff18f30364af80f1c78c4379a860fe445d59b1fad34"), looks := true }, kinds := [], alts := [], laidByText := true, laidKinds := [.handle], laidTests := true, laidLooks := .later }
def ChartRollsCardSaid : Prop := Claim7.holds Tryd.pinned (.plain (OpenSpec.ofChange chartRollsSpec)) chartRollsCard

/-- THE SECOND FORM's CARD OF 'daylaw1.ChartRolls'. -/
def chartRollsUptoCard : Claim7 := { stood := { row := chartRollsUptoRow, standIns := [], harness := (true, "bb071138338f941a0b787ff18f30364af80f1c78c4379a860fe445d59b1fad34"), looks := true }, kinds := [], alts := [], laidByText := true, laidKinds := [.handle], laidTests := true, laidLooks := .later }
def ChartRollsUptoCardSaid : Prop := Claim7.holds Tryd.pinned (.plain (OpenSpec.upto chartRollsSpec)) chartRollsUptoCard
end Rows
end Go.Proofs.YtcpaaaidjmfibaaDoor
