/-
  DERIVED. GIVEN WITH THE SEED: THE CARDS: each row of YtikcidlaamgakaaGreatDoorRows.lean that lists a variable, with what it lists TIED to the program's text (the seventh form; the later family's looks); each row that meets fmt, with fmt's text TOLD by the authors' own Lean function (tested against real Go, not proved from fmt's source: count such statements apart). THE CARD IS WHAT COUNTS. Prove the row's statement (the work); the ties are given (YtikcidlaamgakaaGreatDoorTie.lean); close each card by the builder's one call (the guide's Derived/Test/ToyasCard.lean, 'card_holds'). Laid BY PROGRAM, IN A SANDBOX (cutbox-door.mjs). By AI agents, Wed Nov 11 2026. No macro, syntax, notation, axiom, sorry.
-/
import Derived.Test.YtikcidlaamgakaaGreatDoorRows
import GoSem.ClaimSeven
namespace Go.Proofs.YtikcidlaamgakaaGreatDoor
namespace Rows

/-- THE TIED CARD OF 'daylaw2.KeepPlain'. -/
def keepPlainCard : Claim7 := { stood := { row := keepPlainRow, standIns := [], harness := (true, "afd7dcb5ea9f7c3dfc98ae4d1207c06c0978b0184c28bc6beeeaaa8476835313"), looks := true }, kinds := [], alts := [], laidByText := true, laidKinds := [.handle], laidTests := true, laidLooks := .later }
def KeepPlainCardSaid : Prop := Claim7.holds Tryz.pinned (.plain (OpenSpec.ofChange keepPlainSpec)) keepPlainCard

/-- THE SECOND FORM's CARD OF 'daylaw2.KeepPlain'. -/
def keepPlainUptoCard : Claim7 := { stood := { row := keepPlainUptoRow, standIns := [], harness := (true, "afd7dcb5ea9f7c3dfc98ae4d1207c06c0978b0184c28bc6beeeaaa8476835313"), looks := true }, kinds := [], alts := [], laidByText := true, laidKinds := [.handle], laidTests := true, laidLooks := .later }
def KeepPlainUptoCardSaid : Prop := Claim7.holds Tryz.pinned (.plain (OpenSpec.upto keepPlainSpec)) keepPlainUptoCard
end Rows
end Go.Proofs.YtikcidlaamgakaaGreatDoor
