/-
  DERIVED. GIVEN WITH THE SEED: THE CARDS: each row of YtmijimpfkbgngaaDoorRows.lean that lists a variable, with what it lists TIED to the program's text (the seventh form; the later family's looks); each row that meets fmt, with fmt's text TOLD by the authors' own Lean function (tested against real Go, not proved from fmt's source: count such statements apart). THE CARD IS WHAT COUNTS. Prove the row's statement (the work); the ties are given (YtmijimpfkbgngaaDoorTie.lean); close each card by the builder's one call (the guide's Derived/Test/ToyasCard.lean, 'card_holds'). Laid BY PROGRAM, IN A SANDBOX (cutbox-door.mjs). By AI agents, Wed Nov 11 2026. No macro, syntax, notation, axiom, sorry.
-/
import Derived.Test.YtmijimpfkbgngaaDoorRows
import GoSem.ClaimSeven
namespace Go.Proofs.YtmijimpfkbgngaaDoor
namespace Rows

/-- THE TIED CARD OF 'laws.FnExactRootOf'. -/
def fnExactRootOfCard : Claim7 := { stood := { row := fnExactRootOfRow, standIns := [], harness := (true, "2c400702116d1c9997c2ed3340fb4e62946e8369a484f15110c36a450c8b2c74"), looks := false }, kinds := [], alts := [], laidByText := true, laidKinds := [.data, .pinned], laidTests := true, laidLooks := .later }
def FnExactRootOfCardSaid : Prop := Claim7.holds Tryd.pinned (.plain (OpenSpec.ofChange fnExactRootOfSpec)) fnExactRootOfCard

/-- THE TIED CARD OF 'laws.FnExactIsPrimitive'. -/
def fnExactIsPrimitiveCard : Claim7 := { stood := { row := fnExactIsPrimitiveRow, standIns := [], harness := (true, "2c400702116d1c9997c2ed3340fb4e62946e8369a484f15110c36a450c8b2c74"), looks := false }, kinds := [], alts := [], laidByText := true, laidKinds := [.data, .pinned], laidTests := true, laidLooks := .later }
def FnExactIsPrimitiveCardSaid : Prop := Claim7.holds Tryd.pinned (.plain (OpenSpec.ofChange fnExactIsPrimitiveSpec)) fnExactIsPrimitiveCard

/-- THE TIED CARD OF 'laws.FnExactTurnsOf'. -/
def fnExactTurnsOfCard : Claim7 := { stood := { row := fnExactTurnsOfRow, standIns := [], harness := (true, "2c400702116d1c9997c2ed3340fb4e62946e8369a484f15110c36a450c8b2c74"), looks := false }, kinds := [], alts := [], laidByText := true, laidKinds := [.data, .pinned], laidTests := true, laidLooks := .later }
def FnExactTurnsOfCardSaid : Prop := Claim7.holds Tryd.pinned (.plain (OpenSpec.ofChange fnExactTurnsOfSpec)) fnExactTurnsOfCard

/-- THE TIED CARD OF 'laws.FnExactAreTurns'. -/
def fnExactAreTurnsCard : Claim7 := { stood := { row := fnExactAreTurnsRow, standIns := [], harness := (true, "2c400702116d1c9997c2ed3340fb4e62946e8369a484f15110c36a450c8b2c74"), looks := false }, kinds := [], alts := [], laidByText := true, laidKinds := [.data, .pinned], laidTests := true, laidLooks := .later }
def FnExactAreTurnsCardSaid : Prop := Claim7.holds Tryd.pinned (.plain (OpenSpec.ofChange fnExactAreTurnsSpec)) fnExactAreTurnsCard

/-- THE TIED CARD OF 'laws.FnExactCommonRoot'. -/
def fnExactCommonRootCard : Claim7 := { stood := { row := fnExactCommonRootRow, standIns := [], harness := (true, "2c400702116d1c9997c2ed3340fb4e62946e8369a484f15110c36a450c8b2c74"), looks := false }, kinds := [], alts := [], laidByText := true, laidKinds := [.data, .pinned], laidTests := true, laidLooks := .later }
def FnExactCommonRootCardSaid : Prop := Claim7.holds Tryd.pinned (.plain (OpenSpec.ofChange fnExactCommonRootSpec)) fnExactCommonRootCard

/-- THE TIED CARD OF 'laws.FnExactPeriodsOf'. -/
def fnExactPeriodsOfCard : Claim7 := { stood := { row := fnExactPeriodsOfRow, standIns := [], harness := (true, "2c400702116d1c9997c2ed3340fb4e62946e8369a484f15110c36a450c8b2c74"), looks := false }, kinds := [], alts := [], laidByText := true, laidKinds := [.data, .pinned], laidTests := true, laidLooks := .later }
def FnExactPeriodsOfCardSaid : Prop := Claim7.holds Tryd.pinned (.plain (OpenSpec.ofChange fnExactPeriodsOfSpec)) fnExactPeriodsOfCard

/-- THE SECOND FORM's CARD OF 'laws.FnExactRootOf'. -/
def fnExactRootOfUptoCard : Claim7 := { stood := { row := fnExactRootOfUptoRow, standIns := [], harness := (true, "2c400702116d1c9997c2ed3340fb4e62946e8369a484f15110c36a450c8b2c74"), looks := false }, kinds := [], alts := [], laidByText := true, laidKinds := [.data, .pinned], laidTests := true, laidLooks := .later }
def FnExactRootOfUptoCardSaid : Prop := Claim7.holds Tryd.pinned (.plain (OpenSpec.upto fnExactRootOfSpec)) fnExactRootOfUptoCard

/-- THE SECOND FORM's CARD OF 'laws.FnExactIsPrimitive'. -/
def fnExactIsPrimitiveUptoCard : Claim7 := { stood := { row := fnExactIsPrimitiveUptoRow, standIns := [], harness := (true, "2c400702116d1c9997c2ed3340fb4e62946e8369a484f15110c36a450c8b2c74"), looks := false }, kinds := [], alts := [], laidByText := true, laidKinds := [.data, .pinned], laidTests := true, laidLooks := .later }
def FnExactIsPrimitiveUptoCardSaid : Prop := Claim7.holds Tryd.pinned (.plain (OpenSpec.upto fnExactIsPrimitiveSpec)) fnExactIsPrimitiveUptoCard

/-- THE SECOND FORM's CARD OF 'laws.FnExactTurnsOf'. -/
def fnExactTurnsOfUptoCard : Claim7 := { stood := { row := fnExactTurnsOfUptoRow, standIns := [], harness := (true, "2c400702116d1c9997c2ed3340fb4e62946e8369a484f15110c36a450c8b2c74"), looks := false }, kinds := [], alts := [], laidByText := true, laidKinds := [.data, .pinned], laidTests := true, laidLooks := .later }
def FnExactTurnsOfUptoCardSaid : Prop := Claim7.holds Tryd.pinned (.plain (OpenSpec.upto fnExactTurnsOfSpec)) fnExactTurnsOfUptoCard

/-- THE SECOND FORM's CARD OF 'laws.FnExactAreTurns'. -/
def fnExactAreTurnsUptoCard : Claim7 := { stood := { row := fnExactAreTurnsUptoRow, standIns := [], harness := (true, "2c400702116d1c9997c2ed3340fb4e62946e8369a484f15110c36a450c8b2c74"), looks := false }, kinds := [], alts := [], laidByText := true, laidKinds := [.data, .pinned], laidTests := true, laidLooks := .later }
def FnExactAreTurnsUptoCardSaid : Prop := Claim7.holds Tryd.pinned (.plain (OpenSpec.upto fnExactAreTurnsSpec)) fnExactAreTurnsUptoCard

/-- THE SECOND FORM's CARD OF 'laws.FnExactCommonRoot'. -/
def fnExactCommonRootUptoCard : Claim7 := { stood := { row := fnExactCommonRootUptoRow, standIns := [], harness := (true, "2c400702116d1c9997c2ed3340fb4e62946e8369a484f15110c36a450c8b2c74"), looks := false }, kinds := [], alts := [], laidByText := true, laidKinds := [.data, .pinned], laidTests := true, laidLooks := .later }
def FnExactCommonRootUptoCardSaid : Prop := Claim7.holds Tryd.pinned (.plain (OpenSpec.upto fnExactCommonRootSpec)) fnExactCommonRootUptoCard

/-- THE SECOND FORM's CARD OF 'laws.FnExactPeriodsOf'. -/
def fnExactPeriodsOfUptoCard : Claim7 := { stood := { row := fnExactPeriodsOfUptoRow, standIns := [], harness := (true, "2c400702116d1c9997c2ed3340fb4e62946e8369a484f15110c36a450c8b2c74"), looks := false }, kinds := [], alts := [], laidByText := true, laidKinds := [.data, .pinned], laidTests := true, laidLooks := .later }
def FnExactPeriodsOfUptoCardSaid : Prop := Claim7.holds Tryd.pinned (.plain (OpenSpec.upto fnExactPeriodsOfSpec)) fnExactPeriodsOfUptoCard
end Rows
end Go.Proofs.YtmijimpfkbgngaaDoor
