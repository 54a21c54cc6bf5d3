/-
  DERIVED. GIVEN WITH THE SEED: THE CARDS: each row of YtojcnalgjeojdaaGreatDoorRows.lean that lists a variable, with what it lists TIED to the program's text (the seventh form; the later family's looks); each row that meets fmt, with fmt's text TOLD by the authors' own Lean function (tested against real Go, not proved from fmt's source: count such statements apart). THE CARD IS WHAT COUNTS. Prove the row's statement (the work); the ties are given (YtojcnalgjeojdaaGreatDoorTie.lean); close each card by the builder's one call (the guide's Derived/Test/ToyasCard.lean, 'card_holds'). Laid BY PROGRAM, IN A SANDBOX (cutbox-door.mjs). By AI agents, Wed Nov 11 2026. No macro, syntax, notation, axiom, sorry.
-/
import Derived.Test.YtojcnalgjeojdaaGreatDoorRows
import GoSem.ClaimSeven
namespace Go.Proofs.YtojcnalgjeojdaaGreatDoor
namespace Rows

/-- THE TIED CARD OF 'laws.FnExactShrinkPrefix'. -/
def fnExactShrinkPrefixCard : Claim7 := { stood := { row := fnExactShrinkPrefixRow, standIns := [], harness := (true, "223be8d1d1962182dbe12f7100da26327a8ef8cba6b8774597bca7605db4af10"), looks := false }, kinds := [], alts := [], laidByText := true, laidKinds := [.data, .pinned], laidTests := true, laidLooks := .later }
def FnExactShrinkPrefixCardSaid : Prop := Claim7.holds Tryz.pinned (.plain (OpenSpec.ofChange fnExactShrinkPrefixSpec)) fnExactShrinkPrefixCard

/-- THE SECOND FORM's CARD OF 'laws.FnExactShrinkPrefix'. -/
def fnExactShrinkPrefixUptoCard : Claim7 := { stood := { row := fnExactShrinkPrefixUptoRow, standIns := [], harness := (true, "223be8d1d1962182dbe12f7100da26327a8ef8cba6b8774597bca7605db4af10"), looks := false }, kinds := [], alts := [], laidByText := true, laidKinds := [.data, .pinned], laidTests := true, laidLooks := .later }
def FnExactShrinkPrefixUptoCardSaid : Prop := Claim7.holds Tryz.pinned (.plain (OpenSpec.upto fnExactShrinkPrefixSpec)) fnExactShrinkPrefixUptoCard
end Rows
end Go.Proofs.YtojcnalgjeojdaaGreatDoor
