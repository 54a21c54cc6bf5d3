/-
  DERIVED. GIVEN WITH THE SEED: THE CARDS: each row of YtginmfkabnjlnaaDoorRows.lean that lists a variable, with what it lists TIED to the program's text (the seventh form; the later family's looks); each row that meets fmt, with fmt's text TOLD by the authors' own Lean function (tested against real Go, not proved from fmt's source: count such statements apart). THE CARD IS WHAT COUNTS. Prove the row's statement (the work); the ties are given (YtginmfkabnjlnaaDoorTie.lean); close each card by the builder's one call (the guide's Derived/Test/ToyasCard.lean, 'card_holds'). Laid BY PROGRAM, IN A SANDBOX (cutbox-door.mjs). By AI agents, Wed Nov 11 2026. No macro, syntax, notation, axiom, sorry.
-/
import Derived.Test.YtginmfkabnjlnaaDoorRows
import GoSem.ClaimSeven
namespace Go.Proofs.YtginmfkabnjlnaaDoor
namespace Rows

/-- THE TIED CARD OF 'laws.FnExactShortestDouble'. -/
def fnExactShortestDoubleCard : Claim7 := { stood := { row := fnExactShortestDoubleRow, standIns := [], harness := (true, "bb146dc3f25ab437b4a3da059a449975f6c52aae491528289947d3b1ed821b86"), looks := false }, kinds := [], alts := [], laidByText := true, laidKinds := [.data, .pinned], laidTests := true, laidLooks := .later }
def FnExactShortestDoubleCardSaid : Prop := Claim7.holds Tryd.pinned (.plain (OpenSpec.ofChange fnExactShortestDoubleSpec)) fnExactShortestDoubleCard

/-- THE TIED CARD OF 'laws.FnExactTwoReadings'. -/
def fnExactTwoReadingsCard : Claim7 := { stood := { row := fnExactTwoReadingsRow, standIns := [], harness := (true, "bb146dc3f25ab437b4a3da059a449975f6c52aae491528289947d3b1ed821b86"), looks := false }, kinds := [], alts := [], laidByText := true, laidKinds := [.data, .pinned], laidTests := true, laidLooks := .later }
def FnExactTwoReadingsCardSaid : Prop := Claim7.holds Tryd.pinned (.plain (OpenSpec.ofChange fnExactTwoReadingsSpec)) fnExactTwoReadingsCard

/-- THE SECOND FORM's CARD OF 'laws.FnExactShortestDouble'. -/
def fnExactShortestDoubleUptoCard : Claim7 := { stood := { row := fnExactShortestDoubleUptoRow, standIns := [], harness := (true, "bb146dc3f25ab437b4a3da059a449975f6c52aae491528289947d3b1ed821b86"), looks := false }, kinds := [], alts := [], laidByText := true, laidKinds := [.data, .pinned], laidTests := true, laidLooks := .later }
def FnExactShortestDoubleUptoCardSaid : Prop := Claim7.holds Tryd.pinned (.plain (OpenSpec.upto fnExactShortestDoubleSpec)) fnExactShortestDoubleUptoCard

/-- THE SECOND FORM's CARD OF 'laws.FnExactTwoReadings'. -/
def fnExactTwoReadingsUptoCard : Claim7 := { stood := { row := fnExactTwoReadingsUptoRow, standIns := [], harness := (true, "bb146dc3f25ab437b4a3da059a449975f6c52aae491528289947d3b1ed821b86"), looks := false }, kinds := [], alts := [], laidByText := true, laidKinds := [.data, .pinned], laidTests := true, laidLooks := .later }
def FnExactTwoReadingsUptoCardSaid : Prop := Claim7.holds Tryd.pinned (.plain (OpenSpec.upto fnExactTwoReadingsSpec)) fnExactTwoReadingsUptoCard
end Rows
end Go.Proofs.YtginmfkabnjlnaaDoor
