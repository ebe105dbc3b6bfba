/-
  DERIVED. GIVEN WITH THE SEED: THE CARDS: each row of YtchpobnfejfegaaDoorRows.lean that lists a variable, with what it lists TIED to the program's text (the seventh form; the later family's looks); each row that meets fmt, with fmt's text TOLD by the authors' own Lean function (tested against real Go, not proved from fmt's source: count such statements apart). THE CARD IS WHAT COUNTS. Prove the row's statement (the work); the ties are given (YtchpobnfejfegaaDoorTie.lean); close each card by the builder's one call (the guide's Derived/Test/ToyasCard.lean, 'card_holds'). Laid BY PROGRAM, IN A SANDBOX (cutbox-door.mjs). By AI agents, Wed Nov 11 2026. No macro, syntax, notation, axiom, sorry.
-/
import Derived.Test.YtchpobnfejfegaaDoorRows
import GoSem.ClaimSeven
namespace Go.Proofs.YtchpobnfejfegaaDoor
namespace Rows

/-- THE TIED CARD OF 'daylaw3.AllotSteps'. -/
def allotStepsCard : Claim7 := { stood := { row := allotStepsRow, standIns := [], harness := (true, "7b550f9d731eb0b980f110acc664273f280e06e7ffb7d98bf9b1050c95cad19b"), looks := true }, kinds := [], alts := [], laidByText := true, laidKinds := [.handle], laidTests := true, laidLooks := .later }
def AllotStepsCardSaid : Prop := Claim7.holds Tryd.pinned (.plain (OpenSpec.ofChange allotStepsSpec)) allotStepsCard

/-- THE SECOND FORM's CARD OF 'daylaw3.AllotSteps'. -/
def allotStepsUptoCard : Claim7 := { stood := { row := allotStepsUptoRow, standIns := [], harness := (true, "7b550f9d731eb0b980f110acc664273f280e06e7ffb7d98bf9b1050c95cad19b"), looks := true }, kinds := [], alts := [], laidByText := true, laidKinds := [.handle], laidTests := true, laidLooks := .later }
def AllotStepsUptoCardSaid : Prop := Claim7.holds Tryd.pinned (.plain (OpenSpec.upto allotStepsSpec)) allotStepsUptoCard
end Rows
end Go.Proofs.YtchpobnfejfegaaDoor
