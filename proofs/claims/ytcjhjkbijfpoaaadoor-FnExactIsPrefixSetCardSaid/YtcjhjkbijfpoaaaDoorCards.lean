/-
  DERIVED. GIVEN WITH THE SEED: THE CARDS: each row of YtcjhjkbijfpoaaaDoorRows.lean that lists a variable, with what it lists TIED to the program's text (the seventh form; the later family's looks); each row that meets fmt, with fmt's text TOLD by the authors' own Lean function (tested against real Go, not proved from fmt's source: count such statements apart). THE CARD IS WHAT COUNTS. Prove the row's statement (the work); the ties are given (YtcjhjkbijfpoaaaDoorTie.lean); close each card by the builder's one call (the guide's Derived/Test/ToyasCard.lean, 'card_holds'). Laid BY PROGRAM, IN A SANDBOX (cutbox-door.mjs). By AI agents, Wed Nov 11 2026. No macro, syntax, notation, axiom, sorry.
-/
import Derived.Test.YtcjhjkbijfpoaaaDoorRows
import GoSem.ClaimSeven
namespace Go.Proofs.YtcjhjkbijfpoaaaDoor
namespace Rows

/-- THE TIED CARD OF 'laws.FnExactIsPrefixSet'. -/
def fnExactIsPrefixSetCard : Claim7 := { stood := { row := fnExactIsPrefixSetRow, standIns := [], harness := (true, "f2067ed9f1018322d90ef932d4778bf8fedf61158c48d9ebf1e08b6b7563ecca"), looks := false }, kinds := [], alts := [], laidByText := true, laidKinds := [.data, .pinned], laidTests := true, laidLooks := .later }
def FnExactIsPrefixSetCardSaid : Prop := Claim7.holds Tryd.pinned (.plain (OpenSpec.ofChange fnExactIsPrefixSetSpec)) fnExactIsPrefixSetCard

/-- THE TIED CARD OF 'laws.FnExactIsSuffixSet'. -/
def fnExactIsSuffixSetCard : Claim7 := { stood := { row := fnExactIsSuffixSetRow, standIns := [], harness := (true, "f2067ed9f1018322d90ef932d4778bf8fedf61158c48d9ebf1e08b6b7563ecca"), looks := false }, kinds := [], alts := [], laidByText := true, laidKinds := [.data, .pinned], laidTests := true, laidLooks := .later }
def FnExactIsSuffixSetCardSaid : Prop := Claim7.holds Tryd.pinned (.plain (OpenSpec.ofChange fnExactIsSuffixSetSpec)) fnExactIsSuffixSetCard

/-- THE TIED CARD OF 'laws.FnExactCountWritten'. -/
def fnExactCountWrittenCard : Claim7 := { stood := { row := fnExactCountWrittenRow, standIns := [], harness := (true, "f2067ed9f1018322d90ef932d4778bf8fedf61158c48d9ebf1e08b6b7563ecca"), looks := false }, kinds := [], alts := [], laidByText := true, laidKinds := [.data, .pinned], laidTests := true, laidLooks := .later }
def FnExactCountWrittenCardSaid : Prop := Claim7.holds Tryd.pinned (.plain (OpenSpec.ofChange fnExactCountWrittenSpec)) fnExactCountWrittenCard

/-- THE SECOND FORM's CARD OF 'laws.FnExactIsPrefixSet'. -/
def fnExactIsPrefixSetUptoCard : Claim7 := { stood := { row := fnExactIsPrefixSetUptoRow, standIns := [], harness := (true, "f2067ed9f1018322d90ef932d4778bf8fedf61158c48d9ebf1e08b6b7563ecca"), looks := false }, kinds := [], alts := [], laidByText := true, laidKinds := [.data, .pinned], laidTests := true, laidLooks := .later }
def FnExactIsPrefixSetUptoCardSaid : Prop := Claim7.holds Tryd.pinned (.plain (OpenSpec.upto fnExactIsPrefixSetSpec)) fnExactIsPrefixSetUptoCard

/-- THE SECOND FORM's CARD OF 'laws.FnExactIsSuffixSet'. -/
def fnExactIsSuffixSetUptoCard : Claim7 := { stood := { row := fnExactIsSuffixSetUptoRow, standIns := [], harness := (true, "f2067ed9f1018322d90ef932d4778bf8fedf61158c48d9ebf1e08b6b7563ecca"), looks := false }, kinds := [], alts := [], laidByText := true, laidKinds := [.data, .pinned], laidTests := true, laidLooks := .later }
def FnExactIsSuffixSetUptoCardSaid : Prop := Claim7.holds Tryd.pinned (.plain (OpenSpec.upto fnExactIsSuffixSetSpec)) fnExactIsSuffixSetUptoCard

/-- THE SECOND FORM's CARD OF 'laws.FnExactCountWritten'. -/
def fnExactCountWrittenUptoCard : Claim7 := { stood := { row := fnExactCountWrittenUptoRow, standIns := [], harness := (true, "f2067ed9f1018322d90ef932d4778bf8fedf61158c48d9ebf1e08b6b7563ecca"), looks := false }, kinds := [], alts := [], laidByText := true, laidKinds := [.data, .pinned], laidTests := true, laidLooks := .later }
def FnExactCountWrittenUptoCardSaid : Prop := Claim7.holds Tryd.pinned (.plain (OpenSpec.upto fnExactCountWrittenSpec)) fnExactCountWrittenUptoCard
end Rows
end Go.Proofs.YtcjhjkbijfpoaaaDoor
