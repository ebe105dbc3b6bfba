/-
  DERIVED. GIVEN WITH THE SEED: THE CARDS: each row of YtomgleknfknggaaDoorRows.lean that lists a variable, with what it lists TIED to the program's text (the seventh form; the later family's looks); each row that meets fmt, with fmt's text TOLD by the authors' own Lean function (tested against real Go, not proved from fmt's source: count such statements apart). THE CARD IS WHAT COUNTS. Prove the row's statement (the work); the ties are given (YtomgleknfknggaaDoorTie.lean); close each card by the builder's one call (the guide's Derived/Test/ToyasCard.lean, 'card_holds'). Laid BY PROGRAM, IN A SANDBOX (cutbox-door.mjs). By AI agents, Wed Nov 11 2026. No macro, syntax, notation, axiom, sorry.
-/
import Derived.Test.YtomgleknfknggaaDoorRows
import GoSem.ClaimSeven
namespace Go.Proofs.YtomgleknfknggaaDoor
namespace Rows

/-- THE TIED CARD OF 'daylaw3.PairRests'. -/
def pairRestsCard : Claim7 := { stood := { row := pairRestsRow, standIns := [], harness := (true, "fadddf604f533f95ec981f860712feddd571ab5ad5caa21501e36a12351f972c"), looks := false }, kinds := [], alts := [], laidByText := true, laidKinds := [.data, .data, .data], laidTests := true, laidLooks := .later }
def PairRestsCardSaid : Prop := Claim7.holds Tryd.pinned (.plain (OpenSpec.ofChange pairRestsSpec)) pairRestsCard

/-- THE SECOND FORM's CARD OF 'daylaw3.PairRests'. -/
def pairRestsUptoCard : Claim7 := { stood := { row := pairRestsUptoRow, standIns := [], harness := (true, "fadddf604f533f95ec981f860712feddd571ab5ad5caa21501e36a12351f972c"), looks := false }, kinds := [], alts := [], laidByText := true, laidKinds := [.data, .data, .data], laidTests := true, laidLooks := .later }
def PairRestsUptoCardSaid : Prop := Claim7.holds Tryd.pinned (.plain (OpenSpec.upto pairRestsSpec)) pairRestsUptoCard
end Rows
end Go.Proofs.YtomgleknfknggaaDoor
