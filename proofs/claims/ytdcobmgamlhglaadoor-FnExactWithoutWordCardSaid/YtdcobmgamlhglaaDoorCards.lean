/-
  DERIVED. GIVEN WITH THE SEED: THE CARDS: each row of YtdcobmgamlhglaaDoorRows.lean that lists a variable, with what it lists TIED to the program's text (the seventh form; the later family's looks); each row that meets fmt, with fmt's text TOLD by the authors' own Lean function (tested against real Go, not proved from fmt's source: count such statements apart). THE CARD IS WHAT COUNTS. Prove the row's statement (the work); the ties are given (YtdcobmgamlhglaaDoorTie.lean); close each card by the builder's one call (the guide's Derived/Test/ToyasCard.lean, 'card_holds'). Laid BY PROGRAM, IN A SANDBOX (cutbox-door.mjs). By AI agents, Wed Nov 11 2026. No macro, syntax, notation, axiom, sorry.
-/
import Derived.Test.YtdcobmgamlhglaaDoorRows
import GoSem.ClaimSeven
namespace Go.Proofs.YtdcobmgamlhglaaDoor
namespace Rows

/-- THE TIED CARD OF 'laws.FnExactIsSet'. -/
def fnExactIsSetCard : Claim7 := { stood := { row := fnExactIsSetRow, standIns := [], harness := (true, "79f9ad9257d36b8a75f1c7019358cfb445e8b833ac927bcad805d6263abc093e"), looks := false }, kinds := [], alts := [], laidByText := true, laidKinds := [.data, .pinned], laidTests := true, laidLooks := .later }
def FnExactIsSetCardSaid : Prop := Claim7.holds Tryd.pinned (.plain (OpenSpec.ofChange fnExactIsSetSpec)) fnExactIsSetCard

/-- THE TIED CARD OF 'laws.FnExactLengthsOf'. -/
def fnExactLengthsOfCard : Claim7 := { stood := { row := fnExactLengthsOfRow, standIns := [], harness := (true, "79f9ad9257d36b8a75f1c7019358cfb445e8b833ac927bcad805d6263abc093e"), looks := false }, kinds := [], alts := [], laidByText := true, laidKinds := [.data, .pinned], laidTests := true, laidLooks := .later }
def FnExactLengthsOfCardSaid : Prop := Claim7.holds Tryd.pinned (.plain (OpenSpec.ofChange fnExactLengthsOfSpec)) fnExactLengthsOfCard

/-- THE TIED CARD OF 'laws.FnExactWithoutWord'. -/
def fnExactWithoutWordCard : Claim7 := { stood := { row := fnExactWithoutWordRow, standIns := [], harness := (true, "79f9ad9257d36b8a75f1c7019358cfb445e8b833ac927bcad805d6263abc093e"), looks := false }, kinds := [], alts := [], laidByText := true, laidKinds := [.data, .pinned], laidTests := true, laidLooks := .later }
def FnExactWithoutWordCardSaid : Prop := Claim7.holds Tryd.pinned (.plain (OpenSpec.ofChange fnExactWithoutWordSpec)) fnExactWithoutWordCard

/-- THE TIED CARD OF 'laws.FnExactSetText'. -/
def fnExactSetTextCard : Claim7 := { stood := { row := fnExactSetTextRow, standIns := [], harness := (true, "79f9ad9257d36b8a75f1c7019358cfb445e8b833ac927bcad805d6263abc093e"), looks := false }, kinds := [], alts := [], laidByText := true, laidKinds := [.data, .pinned], laidTests := true, laidLooks := .later }
def FnExactSetTextCardSaid : Prop := Claim7.holds Tryd.pinned (.plain (OpenSpec.ofChange fnExactSetTextSpec)) fnExactSetTextCard

/-- THE TIED CARD OF 'laws.FnExactConcat'. -/
def fnExactConcatCard : Claim7 := { stood := { row := fnExactConcatRow, standIns := [], harness := (true, "79f9ad9257d36b8a75f1c7019358cfb445e8b833ac927bcad805d6263abc093e"), looks := false }, kinds := [], alts := [], laidByText := true, laidKinds := [.data, .pinned], laidTests := true, laidLooks := .later }
def FnExactConcatCardSaid : Prop := Claim7.holds Tryd.pinned (.plain (OpenSpec.ofChange fnExactConcatSpec)) fnExactConcatCard

/-- THE TIED CARD OF 'laws.FnExactParseSet'. -/
def fnExactParseSetCard : Claim7 := { stood := { row := fnExactParseSetRow, standIns := [], harness := (true, "79f9ad9257d36b8a75f1c7019358cfb445e8b833ac927bcad805d6263abc093e"), looks := false }, kinds := [], alts := [], laidByText := true, laidKinds := [.data, .pinned], laidTests := true, laidLooks := .later }
def FnExactParseSetCardSaid : Prop := Claim7.holds Tryd.pinned (.plain (OpenSpec.ofChange fnExactParseSetSpec)) fnExactParseSetCard

/-- THE SECOND FORM's CARD OF 'laws.FnExactIsSet'. -/
def fnExactIsSetUptoCard : Claim7 := { stood := { row := fnExactIsSetUptoRow, standIns := [], harness := (true, "79f9ad9257d36b8a75f1c7019358cfb445e8b833ac927bcad805d6263abc093e"), looks := false }, kinds := [], alts := [], laidByText := true, laidKinds := [.data, .pinned], laidTests := true, laidLooks := .later }
def FnExactIsSetUptoCardSaid : Prop := Claim7.holds Tryd.pinned (.plain (OpenSpec.upto fnExactIsSetSpec)) fnExactIsSetUptoCard

/-- THE SECOND FORM's CARD OF 'laws.FnExactLengthsOf'. -/
def fnExactLengthsOfUptoCard : Claim7 := { stood := { row := fnExactLengthsOfUptoRow, standIns := [], harness := (true, "79f9ad9257d36b8a75f1c7019358cfb445e8b833ac927bcad805d6263abc093e"), looks := false }, kinds := [], alts := [], laidByText := true, laidKinds := [.data, .pinned], laidTests := true, laidLooks := .later }
def FnExactLengthsOfUptoCardSaid : Prop := Claim7.holds Tryd.pinned (.plain (OpenSpec.upto fnExactLengthsOfSpec)) fnExactLengthsOfUptoCard

/-- THE SECOND FORM's CARD OF 'laws.FnExactWithoutWord'. -/
def fnExactWithoutWordUptoCard : Claim7 := { stood := { row := fnExactWithoutWordUptoRow, standIns := [], harness := (true, "79f9ad9257d36b8a75f1c7019358cfb445e8b833ac927bcad805d6263abc093e"), looks := false }, kinds := [], alts := [], laidByText := true, laidKinds := [.data, .pinned], laidTests := true, laidLooks := .later }
def FnExactWithoutWordUptoCardSaid : Prop := Claim7.holds Tryd.pinned (.plain (OpenSpec.upto fnExactWithoutWordSpec)) fnExactWithoutWordUptoCard

/-- THE SECOND FORM's CARD OF 'laws.FnExactSetText'. -/
def fnExactSetTextUptoCard : Claim7 := { stood := { row := fnExactSetTextUptoRow, standIns := [], harness := (true, "79f9ad9257d36b8a75f1c7019358cfb445e8b833ac927bcad805d6263abc093e"), looks := false }, kinds := [], alts := [], laidByText := true, laidKinds := [.data, .pinned], laidTests := true, laidLooks := .later }
def FnExactSetTextUptoCardSaid : Prop := Claim7.holds Tryd.pinned (.plain (OpenSpec.upto fnExactSetTextSpec)) fnExactSetTextUptoCard

/-- THE SECOND FORM's CARD OF 'laws.FnExactConcat'. -/
def fnExactConcatUptoCard : Claim7 := { stood := { row := fnExactConcatUptoRow, standIns := [], harness := (true, "79f9ad9257d36b8a75f1c7019358cfb445e8b833ac927bcad805d6263abc093e"), looks := false }, kinds := [], alts := [], laidByText := true, laidKinds := [.data, .pinned], laidTests := true, laidLooks := .later }
def FnExactConcatUptoCardSaid : Prop := Claim7.holds Tryd.pinned (.plain (OpenSpec.upto fnExactConcatSpec)) fnExactConcatUptoCard

/-- THE SECOND FORM's CARD OF 'laws.FnExactParseSet'. -/
def fnExactParseSetUptoCard : Claim7 := { stood := { row := fnExactParseSetUptoRow, standIns := [], harness := (true, "79f9ad9257d36b8a75f1c7019358cfb445e8b833ac927bcad805d6263abc093e"), looks := false }, kinds := [], alts := [], laidByText := true, laidKinds := [.data, .pinned], laidTests := true, laidLooks := .later }
def FnExactParseSetUptoCardSaid : Prop := Claim7.holds Tryd.pinned (.plain (OpenSpec.upto fnExactParseSetSpec)) fnExactParseSetUptoCard
end Rows
end Go.Proofs.YtdcobmgamlhglaaDoor
