/-
  DERIVED. GIVEN WITH THE SEED: THE CARDS: each row of YtnbgehaliicbnaaDoorRows.lean that lists a variable, with what it lists TIED to the program's text (the seventh form; the later family's looks); each row that meets fmt, with fmt's text TOLD by the authors' own Lean function (tested against real Go, not proved from fmt's source: count such statements apart). THE CARD IS WHAT COUNTS. Prove the row's statement (the work); the ties are given (YtnbgehaliicbnaaDoorTie.lean); close each card by the builder's one call (the guide's Derived/Test/ToyasCard.lean, 'card_holds'). Laid BY PROGRAM, IN A SANDBOX (cutbox-door.mjs). By AI agents, Wed Nov 11 2026. No macro, syntax, notation, axiom, sorry.
-/
import Derived.Test.YtnbgehaliicbnaaDoorRows
import GoSem.ClaimSeven
namespace Go.Proofs.YtnbgehaliicbnaaDoor
namespace Rows

/-- THE TIED CARD OF 'laws.FnExactReplaceLetters'. -/
def fnExactReplaceLettersCard : Claim7 := { stood := { row := fnExactReplaceLettersRow, standIns := [], harness := (true, "4491f2b8b742aeddc38140d7c3c069ede591ffefedda087bb2ab26526626b27e"), looks := true }, kinds := [], alts := [], laidByText := true, laidKinds := [.data, .pinned], laidTests := true, laidLooks := .later }
def FnExactReplaceLettersCardSaid : Prop := Claim7.holds Tryd.pinned (.plain (OpenSpec.ofChange fnExactReplaceLettersSpec)) fnExactReplaceLettersCard

/-- THE SECOND FORM's CARD OF 'laws.FnExactReplaceLetters'. -/
def fnExactReplaceLettersUptoCard : Claim7 := { stood := { row := fnExactReplaceLettersUptoRow, standIns := [], harness := (true, "4491f2b8b742aeddc38140d7c3c069ede591ffefedda087bb2ab26526626b27e"), looks := true }, kinds := [], alts := [], laidByText := true, laidKinds := [.data, .pinned], laidTests := true, laidLooks := .later }
def FnExactReplaceLettersUptoCardSaid : Prop := Claim7.holds Tryd.pinned (.plain (OpenSpec.upto fnExactReplaceLettersSpec)) fnExactReplaceLettersUptoCard
end Rows
end Go.Proofs.YtnbgehaliicbnaaDoor
