/-
  DERIVED. GIVEN WITH THE SEED: THE CARDS: each row of YtdmbfmpagcjdpaaDoorRows.lean that lists a variable, with what it lists TIED to the program's text (the seventh form; the later family's looks); each row that meets fmt, with fmt's text TOLD by the authors' own Lean function (tested against real Go, not proved from fmt's source: count such statements apart). THE CARD IS WHAT COUNTS. Prove the row's statement (the work); the ties are given (YtdmbfmpagcjdpaaDoorTie.lean); close each card by the builder's one call (the guide's Derived/Test/ToyasCard.lean, 'card_holds'). Laid BY PROGRAM, IN A SANDBOX (cutbox-door.mjs). By AI agents, Wed Nov 11 2026. No macro, syntax, notation, axiom, sorry.
-/
import Derived.Test.YtdmbfmpagcjdpaaDoorRows
import GoSem.ClaimSeven
namespace Go.Proofs.YtdmbfmpagcjdpaaDoor
namespace Rows

/-- THE TIED CARD OF 'laws.FnExactCommonDivisor'. -/
def fnExactCommonDivisorCard : Claim7 := { stood := { row := fnExactCommonDivisorRow, standIns := [], harness := (true, "cc737cdbf640af172272025302b343d9791edc09c8a841ace1e9279c4dde4c46"), looks := false }, kinds := [], alts := [], laidByText := true, laidKinds := [.data, .pinned], laidTests := true, laidLooks := .later }
def FnExactCommonDivisorCardSaid : Prop := Claim7.holds Tryd.pinned (.plain (OpenSpec.ofChange fnExactCommonDivisorSpec)) fnExactCommonDivisorCard

/-- THE TIED CARD OF 'laws.FnExactIsCommaFree'. -/
def fnExactIsCommaFreeCard : Claim7 := { stood := { row := fnExactIsCommaFreeRow, standIns := [], harness := (true, "cc737cdbf640af172272025302b343d9791edc09c8a841ace1e9279c4dde4c46"), looks := false }, kinds := [], alts := [], laidByText := true, laidKinds := [.data, .pinned], laidTests := true, laidLooks := .later }
def FnExactIsCommaFreeCardSaid : Prop := Claim7.holds Tryd.pinned (.plain (OpenSpec.ofChange fnExactIsCommaFreeSpec)) fnExactIsCommaFreeCard

/-- THE TIED CARD OF 'laws.FnExactFirstInside'. -/
def fnExactFirstInsideCard : Claim7 := { stood := { row := fnExactFirstInsideRow, standIns := [], harness := (true, "cc737cdbf640af172272025302b343d9791edc09c8a841ace1e9279c4dde4c46"), looks := false }, kinds := [], alts := [], laidByText := true, laidKinds := [.data, .pinned], laidTests := true, laidLooks := .later }
def FnExactFirstInsideCardSaid : Prop := Claim7.holds Tryd.pinned (.plain (OpenSpec.ofChange fnExactFirstInsideSpec)) fnExactFirstInsideCard

/-- THE SECOND FORM's CARD OF 'laws.FnExactCommonDivisor'. -/
def fnExactCommonDivisorUptoCard : Claim7 := { stood := { row := fnExactCommonDivisorUptoRow, standIns := [], harness := (true, "cc737cdbf640af172272025302b343d9791edc09c8a841ace1e9279c4dde4c46"), looks := false }, kinds := [], alts := [], laidByText := true, laidKinds := [.data, .pinned], laidTests := true, laidLooks := .later }
def FnExactCommonDivisorUptoCardSaid : Prop := Claim7.holds Tryd.pinned (.plain (OpenSpec.upto fnExactCommonDivisorSpec)) fnExactCommonDivisorUptoCard

/-- THE SECOND FORM's CARD OF 'laws.FnExactIsCommaFree'. -/
def fnExactIsCommaFreeUptoCard : Claim7 := { stood := { row := fnExactIsCommaFreeUptoRow, standIns := [], harness := (true, "cc737cdbf640af172272025302b343d9791edc09c8a841ace1e9279c4dde4c46"), looks := false }, kinds := [], alts := [], laidByText := true, laidKinds := [.data, .pinned], laidTests := true, laidLooks := .later }
def FnExactIsCommaFreeUptoCardSaid : Prop := Claim7.holds Tryd.pinned (.plain (OpenSpec.upto fnExactIsCommaFreeSpec)) fnExactIsCommaFreeUptoCard

/-- THE SECOND FORM's CARD OF 'laws.FnExactFirstInside'. -/
def fnExactFirstInsideUptoCard : Claim7 := { stood := { row := fnExactFirstInsideUptoRow, standIns := [], harness := (true, "cc737cdbf640af172272025302b343d9791edc09c8a841ace1e9279c4dde4c46"), looks := false }, kinds := [], alts := [], laidByText := true, laidKinds := [.data, .pinned], laidTests := true, laidLooks := .later }
def FnExactFirstInsideUptoCardSaid : Prop := Claim7.holds Tryd.pinned (.plain (OpenSpec.upto fnExactFirstInsideSpec)) fnExactFirstInsideUptoCard
end Rows
end Go.Proofs.YtdmbfmpagcjdpaaDoor
