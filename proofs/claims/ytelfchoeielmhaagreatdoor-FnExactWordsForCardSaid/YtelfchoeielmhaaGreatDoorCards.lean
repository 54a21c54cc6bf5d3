/-
  DERIVED. GIVEN WITH THE SEED: THE CARDS: each row of YtelfchoeielmhaaGreatDoorRows.lean that lists a variable, with what it lists TIED to the program's text (the seventh form; the later family's looks); each row that meets fmt, with fmt's text TOLD by the authors' own Lean function (tested against real Go, not proved from fmt's source: count such statements apart). THE CARD IS WHAT COUNTS. Prove the row's statement (the work); the ties are given (YtelfchoeielmhaaGreatDoorTie.lean); close each card by the builder's one call (the guide's Derived/Test/ToyasCard.lean, 'card_holds'). Laid BY PROGRAM, IN A SANDBOX (cutbox-door.mjs). By AI agents, Wed Nov 11 2026. No macro, syntax, notation, axiom, sorry.
-/
import Derived.Test.YtelfchoeielmhaaGreatDoorRows
import GoSem.ClaimSeven
namespace Go.Proofs.YtelfchoeielmhaaGreatDoor
namespace Rows

/-- THE TIED CARD OF 'laws.FnExactWordsFor'. -/
def fnExactWordsForCard : Claim7 := { stood := { row := fnExactWordsForRow, standIns := [], harness := (true, "b9419d346f087d42b95f5a9a9d00b4cec626ec69d6af1b1d0421763ecd29b025"), looks := true }, kinds := [], alts := [], laidByText := true, laidKinds := [.data, .pinned], laidTests := true, laidLooks := .later }
def FnExactWordsForCardSaid : Prop := Claim7.holds Tryz.pinned (.plain (OpenSpec.ofChange fnExactWordsForSpec)) fnExactWordsForCard

/-- THE SECOND FORM's CARD OF 'laws.FnExactWordsFor'. -/
def fnExactWordsForUptoCard : Claim7 := { stood := { row := fnExactWordsForUptoRow, standIns := [], harness := (true, "b9419d346f087d42b95f5a9a9d00b4cec626ec69d6af1b1d0421763ecd29b025"), looks := true }, kinds := [], alts := [], laidByText := true, laidKinds := [.data, .pinned], laidTests := true, laidLooks := .later }
def FnExactWordsForUptoCardSaid : Prop := Claim7.holds Tryz.pinned (.plain (OpenSpec.upto fnExactWordsForSpec)) fnExactWordsForUptoCard
end Rows
end Go.Proofs.YtelfchoeielmhaaGreatDoor
