/-
  DERIVED. GIVEN WITH THE SEED: THE CARDS: each row of YtdhdpkohkpdimaaDoorRows.lean that lists a variable, with what it lists TIED to the program's text (the seventh form; the later family's looks); each row that meets fmt, with fmt's text TOLD by the authors' own Lean function (tested against real Go, not proved from fmt's source: count such statements apart). THE CARD IS WHAT COUNTS. Prove the row's statement (the work); the ties are given (YtdhdpkohkpdimaaDoorTie.lean); close each card by the builder's one call (the guide's Derived/Test/ToyasCard.lean, 'card_holds'). Laid BY PROGRAM, IN A SANDBOX (cutbox-door.mjs). By AI agents, Wed Nov 11 2026. No macro, syntax, notation, axiom, sorry.
-/
import Derived.Test.YtdhdpkohkpdimaaDoorRows
import GoSem.ClaimSeven
namespace Go.Proofs.YtdhdpkohkpdimaaDoor
namespace Rows

/-- THE TIED CARD OF 'laws.FnExactLeftQuotient'. -/
def fnExactLeftQuotientCard : Claim7 := { stood := { row := fnExactLeftQuotientRow, standIns := [], harness := (true, "fbb9a617077db625a8c0e05d27e49077b379fd0615f58cbfd855c2f7f1dd6c5f"), looks := false }, kinds := [], alts := [], laidByText := true, laidKinds := [.data, .pinned], laidTests := true, laidLooks := .later }
def FnExactLeftQuotientCardSaid : Prop := Claim7.holds Tryd.pinned (.plain (OpenSpec.ofChange fnExactLeftQuotientSpec)) fnExactLeftQuotientCard

/-- THE TIED CARD OF 'laws.FnExactDanglingOf'. -/
def fnExactDanglingOfCard : Claim7 := { stood := { row := fnExactDanglingOfRow, standIns := [], harness := (true, "fbb9a617077db625a8c0e05d27e49077b379fd0615f58cbfd855c2f7f1dd6c5f"), looks := false }, kinds := [], alts := [], laidByText := true, laidKinds := [.data, .pinned], laidTests := true, laidLooks := .later }
def FnExactDanglingOfCardSaid : Prop := Claim7.holds Tryd.pinned (.plain (OpenSpec.ofChange fnExactDanglingOfSpec)) fnExactDanglingOfCard

/-- THE TIED CARD OF 'laws.FnExactCountWritten'. -/
def fnExactCountWrittenCard : Claim7 := { stood := { row := fnExactCountWrittenRow, standIns := [], harness := (true, "fbb9a617077db625a8c0e05d27e49077b379fd0615f58cbfd855c2f7f1dd6c5f"), looks := false }, kinds := [], alts := [], laidByText := true, laidKinds := [.data, .pinned], laidTests := true, laidLooks := .later }
def FnExactCountWrittenCardSaid : Prop := Claim7.holds Tryd.pinned (.plain (OpenSpec.ofChange fnExactCountWrittenSpec)) fnExactCountWrittenCard

/-- THE TIED CARD OF 'laws.FnExactIsCode'. -/
def fnExactIsCodeCard : Claim7 := { stood := { row := fnExactIsCodeRow, standIns := [], harness := (true, "fbb9a617077db625a8c0e05d27e49077b379fd0615f58cbfd855c2f7f1dd6c5f"), looks := false }, kinds := [], alts := [], laidByText := true, laidKinds := [.data, .pinned], laidTests := true, laidLooks := .later }
def FnExactIsCodeCardSaid : Prop := Claim7.holds Tryd.pinned (.plain (OpenSpec.ofChange fnExactIsCodeSpec)) fnExactIsCodeCard

/-- THE TIED CARD OF 'laws.FnExactGreatestCode'. -/
def fnExactGreatestCodeCard : Claim7 := { stood := { row := fnExactGreatestCodeRow, standIns := [], harness := (true, "fbb9a617077db625a8c0e05d27e49077b379fd0615f58cbfd855c2f7f1dd6c5f"), looks := false }, kinds := [], alts := [], laidByText := true, laidKinds := [.data, .pinned], laidTests := true, laidLooks := .later }
def FnExactGreatestCodeCardSaid : Prop := Claim7.holds Tryd.pinned (.plain (OpenSpec.ofChange fnExactGreatestCodeSpec)) fnExactGreatestCodeCard

/-- THE TIED CARD OF 'laws.FnExactFirstRefused'. -/
def fnExactFirstRefusedCard : Claim7 := { stood := { row := fnExactFirstRefusedRow, standIns := [], harness := (true, "fbb9a617077db625a8c0e05d27e49077b379fd0615f58cbfd855c2f7f1dd6c5f"), looks := false }, kinds := [], alts := [], laidByText := true, laidKinds := [.data, .pinned], laidTests := true, laidLooks := .later }
def FnExactFirstRefusedCardSaid : Prop := Claim7.holds Tryd.pinned (.plain (OpenSpec.ofChange fnExactFirstRefusedSpec)) fnExactFirstRefusedCard

/-- THE SECOND FORM's CARD OF 'laws.FnExactLeftQuotient'. -/
def fnExactLeftQuotientUptoCard : Claim7 := { stood := { row := fnExactLeftQuotientUptoRow, standIns := [], harness := (true, "fbb9a617077db625a8c0e05d27e49077b379fd0615f58cbfd855c2f7f1dd6c5f"), looks := false }, kinds := [], alts := [], laidByText := true, laidKinds := [.data, .pinned], laidTests := true, laidLooks := .later }
def FnExactLeftQuotientUptoCardSaid : Prop := Claim7.holds Tryd.pinned (.plain (OpenSpec.upto fnExactLeftQuotientSpec)) fnExactLeftQuotientUptoCard

/-- THE SECOND FORM's CARD OF 'laws.FnExactDanglingOf'. -/
def fnExactDanglingOfUptoCard : Claim7 := { stood := { row := fnExactDanglingOfUptoRow, standIns := [], harness := (true, "fbb9a617077db625a8c0e05d27e49077b379fd0615f58cbfd855c2f7f1dd6c5f"), looks := false }, kinds := [], alts := [], laidByText := true, laidKinds := [.data, .pinned], laidTests := true, laidLooks := .later }
def FnExactDanglingOfUptoCardSaid : Prop := Claim7.holds Tryd.pinned (.plain (OpenSpec.upto fnExactDanglingOfSpec)) fnExactDanglingOfUptoCard

/-- THE SECOND FORM's CARD OF 'laws.FnExactCountWritten'. -/
def fnExactCountWrittenUptoCard : Claim7 := { stood := { row := fnExactCountWrittenUptoRow, standIns := [], harness := (true, "fbb9a617077db625a8c0e05d27e49077b379fd0615f58cbfd855c2f7f1dd6c5f"), looks := false }, kinds := [], alts := [], laidByText := true, laidKinds := [.data, .pinned], laidTests := true, laidLooks := .later }
def FnExactCountWrittenUptoCardSaid : Prop := Claim7.holds Tryd.pinned (.plain (OpenSpec.upto fnExactCountWrittenSpec)) fnExactCountWrittenUptoCard

/-- THE SECOND FORM's CARD OF 'laws.FnExactIsCode'. -/
def fnExactIsCodeUptoCard : Claim7 := { stood := { row := fnExactIsCodeUptoRow, standIns := [], harness := (true, "fbb9a617077db625a8c0e05d27e49077b379fd0615f58cbfd855c2f7f1dd6c5f"), looks := false }, kinds := [], alts := [], laidByText := true, laidKinds := [.data, .pinned], laidTests := true, laidLooks := .later }
def FnExactIsCodeUptoCardSaid : Prop := Claim7.holds Tryd.pinned (.plain (OpenSpec.upto fnExactIsCodeSpec)) fnExactIsCodeUptoCard

/-- THE SECOND FORM's CARD OF 'laws.FnExactGreatestCode'. -/
def fnExactGreatestCodeUptoCard : Claim7 := { stood := { row := fnExactGreatestCodeUptoRow, standIns := [], harness := (true, "fbb9a617077db625a8c0e05d27e49077b379fd0615f58cbfd855c2f7f1dd6c5f"), looks := false }, kinds := [], alts := [], laidByText := true, laidKinds := [.data, .pinned], laidTests := true, laidLooks := .later }
def FnExactGreatestCodeUptoCardSaid : Prop := Claim7.holds Tryd.pinned (.plain (OpenSpec.upto fnExactGreatestCodeSpec)) fnExactGreatestCodeUptoCard

/-- THE SECOND FORM's CARD OF 'laws.FnExactFirstRefused'. -/
def fnExactFirstRefusedUptoCard : Claim7 := { stood := { row := fnExactFirstRefusedUptoRow, standIns := [], harness := (true, "fbb9a617077db625a8c0e05d27e49077b379fd0615f58cbfd855c2f7f1dd6c5f"), looks := false }, kinds := [], alts := [], laidByText := true, laidKinds := [.data, .pinned], laidTests := true, laidLooks := .later }
def FnExactFirstRefusedUptoCardSaid : Prop := Claim7.holds Tryd.pinned (.plain (OpenSpec.upto fnExactFirstRefusedSpec)) fnExactFirstRefusedUptoCard
end Rows
end Go.Proofs.YtdhdpkohkpdimaaDoor
