/-
  DERIVED. GIVEN WITH THE SEED: THE CARDS: each row of YtgnehobhbioehaaGreatDoorRows.lean that lists a variable, with what it lists TIED to the program's text (the seventh form; the later family's looks); each row that meets fmt, with fmt's text TOLD by the authors' own Lean function (tested against real Go, not proved from fmt's source: count such statements apart). THE CARD IS WHAT COUNTS. Prove the row's statement (the work); the ties are given (YtgnehobhbioehaaGreatDoorTie.lean); close each card by the builder's one call (the guide's Derived/Test/ToyasCard.lean, 'card_holds'). Laid BY PROGRAM, IN A SANDBOX (cutbox-door.mjs). By AI agents, Wed Nov 11 2026. No macro, syntax, notation, axiom, sorry.
-/
import Derived.Test.YtgnehobhbioehaaGreatDoorRows
import GoSem.ClaimSeven
namespace Go.Proofs.YtgnehobhbioehaaGreatDoor
namespace Rows

/-- THE TIED CARD OF 'laws.FnExactStatesOf'. -/
def fnExactStatesOfCard : Claim7 := { stood := { row := fnExactStatesOfRow, standIns := [], harness := (true, "2e8ae9571221760d34c1b11139fd70b08f86905188477c538c9b9e48e6e9a7fe"), looks := true }, kinds := [], alts := [], laidByText := true, laidKinds := [.data, .pinned], laidTests := true, laidLooks := .later }
def FnExactStatesOfCardSaid : Prop := Claim7.holds Tryz.pinned (.plain (OpenSpec.ofChange fnExactStatesOfSpec)) fnExactStatesOfCard

/-- THE TIED CARD OF 'laws.FnExactStateAfter'. -/
def fnExactStateAfterCard : Claim7 := { stood := { row := fnExactStateAfterRow, standIns := [], harness := (true, "2e8ae9571221760d34c1b11139fd70b08f86905188477c538c9b9e48e6e9a7fe"), looks := true }, kinds := [], alts := [], laidByText := true, laidKinds := [.data, .pinned], laidTests := true, laidLooks := .later }
def FnExactStateAfterCardSaid : Prop := Claim7.holds Tryz.pinned (.plain (OpenSpec.ofChange fnExactStateAfterSpec)) fnExactStateAfterCard

/-- THE TIED CARD OF 'laws.FnExactIsStepWord'. -/
def fnExactIsStepWordCard : Claim7 := { stood := { row := fnExactIsStepWordRow, standIns := [], harness := (true, "2e8ae9571221760d34c1b11139fd70b08f86905188477c538c9b9e48e6e9a7fe"), looks := true }, kinds := [], alts := [], laidByText := true, laidKinds := [.data, .pinned], laidTests := true, laidLooks := .later }
def FnExactIsStepWordCardSaid : Prop := Claim7.holds Tryz.pinned (.plain (OpenSpec.ofChange fnExactIsStepWordSpec)) fnExactIsStepWordCard

/-- THE TIED CARD OF 'laws.FnExactStatesBehind'. -/
def fnExactStatesBehindCard : Claim7 := { stood := { row := fnExactStatesBehindRow, standIns := [], harness := (true, "2e8ae9571221760d34c1b11139fd70b08f86905188477c538c9b9e48e6e9a7fe"), looks := true }, kinds := [], alts := [], laidByText := true, laidKinds := [.data, .pinned], laidTests := true, laidLooks := .later }
def FnExactStatesBehindCardSaid : Prop := Claim7.holds Tryz.pinned (.plain (OpenSpec.ofChange fnExactStatesBehindSpec)) fnExactStatesBehindCard

/-- THE SECOND FORM's CARD OF 'laws.FnExactStatesOf'. -/
def fnExactStatesOfUptoCard : Claim7 := { stood := { row := fnExactStatesOfUptoRow, standIns := [], harness := (true, "2e8ae9571221760d34c1b11139fd70b08f86905188477c538c9b9e48e6e9a7fe"), looks := true }, kinds := [], alts := [], laidByText := true, laidKinds := [.data, .pinned], laidTests := true, laidLooks := .later }
def FnExactStatesOfUptoCardSaid : Prop := Claim7.holds Tryz.pinned (.plain (OpenSpec.upto fnExactStatesOfSpec)) fnExactStatesOfUptoCard

/-- THE SECOND FORM's CARD OF 'laws.FnExactStateAfter'. -/
def fnExactStateAfterUptoCard : Claim7 := { stood := { row := fnExactStateAfterUptoRow, standIns := [], harness := (true, "2e8ae9571221760d34c1b11139fd70b08f86905188477c538c9b9e48e6e9a7fe"), looks := true }, kinds := [], alts := [], laidByText := true, laidKinds := [.data, .pinned], laidTests := true, laidLooks := .later }
def FnExactStateAfterUptoCardSaid : Prop := Claim7.holds Tryz.pinned (.plain (OpenSpec.upto fnExactStateAfterSpec)) fnExactStateAfterUptoCard

/-- THE SECOND FORM's CARD OF 'laws.FnExactIsStepWord'. -/
def fnExactIsStepWordUptoCard : Claim7 := { stood := { row := fnExactIsStepWordUptoRow, standIns := [], harness := (true, "2e8ae9571221760d34c1b11139fd70b08f86905188477c538c9b9e48e6e9a7fe"), looks := true }, kinds := [], alts := [], laidByText := true, laidKinds := [.data, .pinned], laidTests := true, laidLooks := .later }
def FnExactIsStepWordUptoCardSaid : Prop := Claim7.holds Tryz.pinned (.plain (OpenSpec.upto fnExactIsStepWordSpec)) fnExactIsStepWordUptoCard

/-- THE SECOND FORM's CARD OF 'laws.FnExactStatesBehind'. -/
def fnExactStatesBehindUptoCard : Claim7 := { stood := { row := fnExactStatesBehindUptoRow, standIns := [], harness := (true, "2e8ae9571221760d34c1b11139fd70b08f86905188477c538c9b9e48e6e9a7fe"), looks := true }, kinds := [], alts := [], laidByText := true, laidKinds := [.data, .pinned], laidTests := true, laidLooks := .later }
def FnExactStatesBehindUptoCardSaid : Prop := Claim7.holds Tryz.pinned (.plain (OpenSpec.upto fnExactStatesBehindSpec)) fnExactStatesBehindUptoCard
end Rows
end Go.Proofs.YtgnehobhbioehaaGreatDoor
