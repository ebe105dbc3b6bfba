/-
  DERIVED. GIVEN WITH THE SEED: THE CARDS: each row of YtphlcjghcffnbaaDoorRows.lean that lists a variable, with what it lists TIED to the program's text (the seventh form; the later family's looks); each row that meets fmt, with fmt's text TOLD by the authors' own Lean function (tested against real Go, not proved from fmt's source: count such statements apart). THE CARD IS WHAT COUNTS. Prove the row's statement (the work); the ties are given (YtphlcjghcffnbaaDoorTie.lean); close each card by the builder's one call (the guide's Derived/Test/ToyasCard.lean, 'card_holds'). Laid BY PROGRAM, IN A SANDBOX (cutbox-door.mjs). By AI agents, Wed Nov 11 2026. No macro, syntax, notation, axiom, sorry.
-/
import Derived.Test.YtphlcjghcffnbaaDoorRows
import GoSem.ClaimSeven
namespace Go.Proofs.YtphlcjghcffnbaaDoor
namespace Rows

/-- THE TIED CARD OF 'daylaw3.AccrueDeclines'. -/
def accrueDeclinesCard : Claim7 := { stood := { row := accrueDeclinesRow, standIns := [], harness := (true, "5b8680e8a2535277a6b2c2daa1c39cfbd77a9957fb05064e42022cb22a789356"), looks := true }, kinds := [], alts := [], laidByText := true, laidKinds := [.handle], laidTests := true, laidLooks := .later }
def AccrueDeclinesCardSaid : Prop := Claim7.holds Tryd.pinned (.plain (OpenSpec.ofChange accrueDeclinesSpec)) accrueDeclinesCard

/-- THE SECOND FORM's CARD OF 'daylaw3.AccrueDeclines'. -/
def accrueDeclinesUptoCard : Claim7 := { stood := { row := accrueDeclinesUptoRow, standIns := [], harness := (true, "5b8680e8a2535277a6b2c2daa1c39cfbd77a9957fb05064e42022cb22a789356"), looks := true }, kinds := [], alts := [], laidByText := true, laidKinds := [.handle], laidTests := true, laidLooks := .later }
def AccrueDeclinesUptoCardSaid : Prop := Claim7.holds Tryd.pinned (.plain (OpenSpec.upto accrueDeclinesSpec)) accrueDeclinesUptoCard
end Rows
end Go.Proofs.YtphlcjghcffnbaaDoor
