/-
  DERIVED. GIVEN WITH THE SEED: THE CARDS: each row of YtffndpojkhekkaaDoorRows.lean that lists a variable, with what it lists TIED to the program's text (the seventh form; the later family's looks); each row that meets fmt, with fmt's text TOLD by the authors' own Lean function (tested against real Go, not proved from fmt's source: count such statements apart). THE CARD IS WHAT COUNTS. Prove the row's statement (the work); the ties are given (YtffndpojkhekkaaDoorTie.lean); close each card by the builder's one call (the guide's Derived/Test/ToyasCard.lean, 'card_holds'). Laid BY PROGRAM, IN A SANDBOX (cutbox-door.mjs). By AI agents, Wed Nov 11 2026. No macro, syntax, notation, axiom, sorry.
-/
import Derived.Test.YtffndpojkhekkaaDoorRows
import GoSem.ClaimSeven
namespace Go.Proofs.YtffndpojkhekkaaDoor
namespace Rows

/-- THE TIED CARD OF 'daylaw5.RateBases'. -/
def rateBasesCard : Claim7 := { stood := { row := rateBasesRow, standIns := [], harness := (true, "1e6b318fc5b40e3e801342d60ae7c5005eba50c64ed1eb12e874d6bb740ca2b4"), looks := true }, kinds := [], alts := [], laidByText := true, laidKinds := [.handle], laidTests := true, laidLooks := .later }
def RateBasesCardSaid : Prop := Claim7.holds Tryd.pinned (.plain (OpenSpec.ofChange rateBasesSpec)) rateBasesCard

/-- THE SECOND FORM's CARD OF 'daylaw5.RateBases'. -/
def rateBasesUptoCard : Claim7 := { stood := { row := rateBasesUptoRow, standIns := [], harness := (true, "1e6b318fc5b40e3e801342d60ae7c5005eba50c64ed1eb12e874d6bb740ca2b4"), looks := true }, kinds := [], alts := [], laidByText := true, laidKinds := [.handle], laidTests := true, laidLooks := .later }
def RateBasesUptoCardSaid : Prop := Claim7.holds Tryd.pinned (.plain (OpenSpec.upto rateBasesSpec)) rateBasesUptoCard
end Rows
end Go.Proofs.YtffndpojkhekkaaDoor
