/-
  DERIVED. GIVEN WITH THE SEED: THE CARDS: each row of YtiemoocdffobgaaDoorRows.lean that lists a variable, with what it lists TIED to the program's text (the seventh form; the later family's looks); each row that meets fmt, with fmt's text TOLD by the authors' own Lean function (tested against real Go, not proved from fmt's source: count such statements apart). THE CARD IS WHAT COUNTS. Prove the row's statement (the work); the ties are given (YtiemoocdffobgaaDoorTie.lean); close each card by the builder's one call (the guide's Derived/Test/ToyasCard.lean, 'card_holds'). Laid BY PROGRAM, IN A SANDBOX (cutbox-door.mjs). By AI agents, Wed Nov 11 2026. No macro, syntax, notation, axiom, sorry.
-/
import Derived.Test.YtiemoocdffobgaaDoorRows
import GoSem.ClaimSeven
namespace Go.Proofs.YtiemoocdffobgaaDoor
namespace Rows

/-- THE TIED CARD OF 'laws.FnExactIsCode'. -/
def fnExactIsCodeCard : Claim7 := { stood := { row := fnExactIsCodeRow, standIns := [], harness := (true, "014b0650cdf934e917654a019787c6384f61ba8f8cda8bef3c056ad6d1fff766"), looks := false }, kinds := [], alts := [], laidByText := true, laidKinds := [.data, .pinned], laidTests := true, laidLooks := .later }
def FnExactIsCodeCardSaid : Prop := Claim7.holds Tryd.pinned (.plain (OpenSpec.ofChange fnExactIsCodeSpec)) fnExactIsCodeCard

/-- THE TIED CARD OF 'laws.FnExactCountWritten'. -/
def fnExactCountWrittenCard : Claim7 := { stood := { row := fnExactCountWrittenRow, standIns := [], harness := (true, "014b0650cdf934e917654a019787c6384f61ba8f8cda8bef3c056ad6d1fff766"), looks := false }, kinds := [], alts := [], laidByText := true, laidKinds := [.data, .pinned], laidTests := true, laidLooks := .later }
def FnExactCountWrittenCardSaid : Prop := Claim7.holds Tryd.pinned (.plain (OpenSpec.ofChange fnExactCountWrittenSpec)) fnExactCountWrittenCard

/-- THE TIED CARD OF 'laws.FnExactGreatestCode'. -/
def fnExactGreatestCodeCard : Claim7 := { stood := { row := fnExactGreatestCodeRow, standIns := [], harness := (true, "014b0650cdf934e917654a019787c6384f61ba8f8cda8bef3c056ad6d1fff766"), looks := false }, kinds := [], alts := [], laidByText := true, laidKinds := [.data, .pinned], laidTests := true, laidLooks := .later }
def FnExactGreatestCodeCardSaid : Prop := Claim7.holds Tryd.pinned (.plain (OpenSpec.ofChange fnExactGreatestCodeSpec)) fnExactGreatestCodeCard

/-- THE TIED CARD OF 'laws.FnExactFirstRefused'. -/
def fnExactFirstRefusedCard : Claim7 := { stood := { row := fnExactFirstRefusedRow, standIns := [], harness := (true, "014b0650cdf934e917654a019787c6384f61ba8f8cda8bef3c056ad6d1fff766"), looks := false }, kinds := [], alts := [], laidByText := true, laidKinds := [.data, .pinned], laidTests := true, laidLooks := .later }
def FnExactFirstRefusedCardSaid : Prop := Claim7.holds Tryd.pinned (.plain (OpenSpec.ofChange fnExactFirstRefusedSpec)) fnExactFirstRefusedCard

/-- THE TIED CARD OF 'laws.FnExactShortestDouble'. -/
def fnExactShortestDoubleCard : Claim7 := { stood := { row := fnExactShortestDoubleRow, standIns := [], harness := (true, "014b0650cdf934e917654a019787c6384f61ba8f8cda8bef3c056ad6d1fff766"), looks := false }, kinds := [], alts := [], laidByText := true, laidKinds := [.data, .pinned], laidTests := true, laidLooks := .later }
def FnExactShortestDoubleCardSaid : Prop := Claim7.holds Tryd.pinned (.plain (OpenSpec.ofChange fnExactShortestDoubleSpec)) fnExactShortestDoubleCard

/-- THE TIED CARD OF 'laws.FnExactTwoReadings'. -/
def fnExactTwoReadingsCard : Claim7 := { stood := { row := fnExactTwoReadingsRow, standIns := [], harness := (true, "014b0650cdf934e917654a019787c6384f61ba8f8cda8bef3c056ad6d1fff766"), looks := false }, kinds := [], alts := [], laidByText := true, laidKinds := [.data, .pinned], laidTests := true, laidLooks := .later }
def FnExactTwoReadingsCardSaid : Prop := Claim7.holds Tryd.pinned (.plain (OpenSpec.ofChange fnExactTwoReadingsSpec)) fnExactTwoReadingsCard

/-- THE SECOND FORM's CARD OF 'laws.FnExactIsCode'. -/
def fnExactIsCodeUptoCard : Claim7 := { stood := { row := fnExactIsCodeUptoRow, standIns := [], harness := (true, "014b0650cdf934e917654a019787c6384f61ba8f8cda8bef3c056ad6d1fff766"), looks := false }, kinds := [], alts := [], laidByText := true, laidKinds := [.data, .pinned], laidTests := true, laidLooks := .later }
def FnExactIsCodeUptoCardSaid : Prop := Claim7.holds Tryd.pinned (.plain (OpenSpec.upto fnExactIsCodeSpec)) fnExactIsCodeUptoCard

/-- THE SECOND FORM's CARD OF 'laws.FnExactCountWritten'. -/
def fnExactCountWrittenUptoCard : Claim7 := { stood := { row := fnExactCountWrittenUptoRow, standIns := [], harness := (true, "014b0650cdf934e917654a019787c6384f61ba8f8cda8bef3c056ad6d1fff766"), looks := false }, kinds := [], alts := [], laidByText := true, laidKinds := [.data, .pinned], laidTests := true, laidLooks := .later }
def FnExactCountWrittenUptoCardSaid : Prop := Claim7.holds Tryd.pinned (.plain (OpenSpec.upto fnExactCountWrittenSpec)) fnExactCountWrittenUptoCard

/-- THE SECOND FORM's CARD OF 'laws.FnExactGreatestCode'. -/
def fnExactGreatestCodeUptoCard : Claim7 := { stood := { row := fnExactGreatestCodeUptoRow, standIns := [], harness := (true, "014b0650cdf934e917654a019787c6384f61ba8f8cda8bef3c056ad6d1fff766"), looks := false }, kinds := [], alts := [], laidByText := true, laidKinds := [.data, .pinned], laidTests := true, laidLooks := .later }
def FnExactGreatestCodeUptoCardSaid : Prop := Claim7.holds Tryd.pinned (.plain (OpenSpec.upto fnExactGreatestCodeSpec)) fnExactGreatestCodeUptoCard

/-- THE SECOND FORM's CARD OF 'laws.FnExactFirstRefused'. -/
def fnExactFirstRefusedUptoCard : Claim7 := { stood := { row := fnExactFirstRefusedUptoRow, standIns := [], harness := (true, "014b0650cdf934e917654a019787c6384f61ba8f8cda8bef3c056ad6d1fff766"), looks := false }, kinds := [], alts := [], laidByText := true, laidKinds := [.data, .pinned], laidTests := true, laidLooks := .later }
def FnExactFirstRefusedUptoCardSaid : Prop := Claim7.holds Tryd.pinned (.plain (OpenSpec.upto fnExactFirstRefusedSpec)) fnExactFirstRefusedUptoCard

/-- THE SECOND FORM's CARD OF 'laws.FnExactShortestDouble'. -/
def fnExactShortestDoubleUptoCard : Claim7 := { stood := { row := fnExactShortestDoubleUptoRow, standIns := [], harness := (true, "014b0650cdf934e917654a019787c6384f61ba8f8cda8bef3c056ad6d1fff766"), looks := false }, kinds := [], alts := [], laidByText := true, laidKinds := [.data, .pinned], laidTests := true, laidLooks := .later }
def FnExactShortestDoubleUptoCardSaid : Prop := Claim7.holds Tryd.pinned (.plain (OpenSpec.upto fnExactShortestDoubleSpec)) fnExactShortestDoubleUptoCard

/-- THE SECOND FORM's CARD OF 'laws.FnExactTwoReadings'. -/
def fnExactTwoReadingsUptoCard : Claim7 := { stood := { row := fnExactTwoReadingsUptoRow, standIns := [], harness := (true, "014b0650cdf934e917654a019787c6384f61ba8f8cda8bef3c056ad6d1fff766"), looks := false }, kinds := [], alts := [], laidByText := true, laidKinds := [.data, .pinned], laidTests := true, laidLooks := .later }
def FnExactTwoReadingsUptoCardSaid : Prop := Claim7.holds Tryd.pinned (.plain (OpenSpec.upto fnExactTwoReadingsSpec)) fnExactTwoReadingsUptoCard
end Rows
end Go.Proofs.YtiemoocdffobgaaDoor
