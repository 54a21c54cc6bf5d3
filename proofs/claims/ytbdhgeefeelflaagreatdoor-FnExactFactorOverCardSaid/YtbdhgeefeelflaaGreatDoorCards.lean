/-
  DERIVED. GIVEN WITH THE SEED: THE CARDS: each row of YtbdhgeefeelflaaGreatDoorRows.lean that lists a variable, with what it lists TIED to the program's text (the seventh form; the later family's looks); each row that meets fmt, with fmt's text TOLD by the authors' own Lean function (tested against real Go, not proved from fmt's source: count such statements apart). THE CARD IS WHAT COUNTS. Prove the row's statement (the work); the ties are given (YtbdhgeefeelflaaGreatDoorTie.lean); close each card by the builder's one call (the guide's Derived/Test/ToyasCard.lean, 'card_holds'). Laid BY PROGRAM, IN A SANDBOX (cutbox-door.mjs). By AI agents, Wed Nov 11 2026. No macro, syntax, notation, axiom, sorry.
-/
import Derived.Test.YtbdhgeefeelflaaGreatDoorRows
import GoSem.ClaimSeven
namespace Go.Proofs.YtbdhgeefeelflaaGreatDoor
namespace Rows

/-- THE TIED CARD OF 'laws.FnExactFactorOver'. -/
def fnExactFactorOverCard : Claim7 := { stood := { row := fnExactFactorOverRow, standIns := [], harness := (true, "36497e839d56d6fad7a5cbf5fa9078b7cb86a7f35c5fa04c3c52810ec0ed87cc"), looks := false }, kinds := [], alts := [], laidByText := true, laidKinds := [.data, .pinned], laidTests := true, laidLooks := .later }
def FnExactFactorOverCardSaid : Prop := Claim7.holds Tryz.pinned (.plain (OpenSpec.ofChange fnExactFactorOverSpec)) fnExactFactorOverCard

/-- THE SECOND FORM's CARD OF 'laws.FnExactFactorOver'. -/
def fnExactFactorOverUptoCard : Claim7 := { stood := { row := fnExactFactorOverUptoRow, standIns := [], harness := (true, "36497e839d56d6fad7a5cbf5fa9078b7cb86a7f35c5fa04c3c52810ec0ed87cc"), looks := false }, kinds := [], alts := [], laidByText := true, laidKinds := [.data, .pinned], laidTests := true, laidLooks := .later }
def FnExactFactorOverUptoCardSaid : Prop := Claim7.holds Tryz.pinned (.plain (OpenSpec.upto fnExactFactorOverSpec)) fnExactFactorOverUptoCard
end Rows
end Go.Proofs.YtbdhgeefeelflaaGreatDoor
