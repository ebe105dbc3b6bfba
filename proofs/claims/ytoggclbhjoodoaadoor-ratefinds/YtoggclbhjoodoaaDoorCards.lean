/-
  DERIVED. GIVEN WITH THE SEED: THE CARDS: each row of YtoggclbhjoodoaaDoorRows.lean that lists a variable, with what it lists TIED to the program's text (the seventh form; the later family's looks); each row that meets fmt, with fmt's text TOLD by the authors' own Lean function (tested against real Go, not proved from fmt's source: count such statements apart). THE CARD IS WHAT COUNTS. Prove the row's statement (the work); the ties are given (YtoggclbhjoodoaaDoorTie.lean); close each card by the builder's one call (the guide's Derived/Test/ToyasCard.lean, 'card_holds'). Laid BY PROGRAM, IN A SANDBOX (cutbox-door.mjs). By AI agents, Wed Nov 11 2026. No macro, syntax, notation, axiom, sorry.
-/
import Derived.Test.YtoggclbhjoodoaaDoorRows
import GoSem.ClaimSeven
namespace Go.Proofs.YtoggclbhjoodoaaDoor
namespace Rows

/-- THE TIED CARD OF 'daylaw1.RateFinds'. -/
def rateFindsCard : Claim7 := { stood := { row := rateFindsRow, standIns := [], harness := (true, "b0b3a0e610a22b32f6d6eb95715bca2bd0c7e81696e00c1947fcefef4940da09"), looks := true }, kinds := [], alts := [], laidByText := true, laidKinds := [.handle], laidTests := true, laidLooks := .later }
def RateFindsCardSaid : Prop := Claim7.holds Tryd.pinned (.plain (OpenSpec.ofChange rateFindsSpec)) rateFindsCard

/-- THE SECOND FORM's CARD OF 'daylaw1.RateFinds'. -/
def rateFindsUptoCard : Claim7 := { stood := { row := rateFindsUptoRow, standIns := [], harness := (true, "b0b3a0e610a22b32f6d6eb95715bca2bd0c7e81696e00c1947fcefef4940da09"), looks := true }, kinds := [], alts := [], laidByText := true, laidKinds := [.handle], laidTests := true, laidLooks := .later }
def RateFindsUptoCardSaid : Prop := Claim7.holds Tryd.pinned (.plain (OpenSpec.upto rateFindsSpec)) rateFindsUptoCard
end Rows
end Go.Proofs.YtoggclbhjoodoaaDoor
