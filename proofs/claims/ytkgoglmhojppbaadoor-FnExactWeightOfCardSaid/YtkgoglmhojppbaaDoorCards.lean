/-
  DERIVED. GIVEN WITH THE SEED: THE CARDS: each row of YtkgoglmhojppbaaDoorRows.lean that lists a variable, with what it lists TIED to the program's text (the seventh form; the later family's looks); each row that meets fmt, with fmt's text TOLD by the authors' own Lean function (tested against real Go, not proved from fmt's source: count such statements apart). THE CARD IS WHAT COUNTS. Prove the row's statement (the work); the ties are given (YtkgoglmhojppbaaDoorTie.lean); close each card by the builder's one call (the guide's Derived/Test/ToyasCard.lean, 'card_holds'). Laid BY PROGRAM, IN A SANDBOX (cutbox-door.mjs). By AI agents, Wed Nov 11 2026. No macro, syntax, notation, axiom, sorry.
-/
import Derived.Test.YtkgoglmhojppbaaDoorRows
import GoSem.ClaimSeven
namespace Go.Proofs.YtkgoglmhojppbaaDoor
namespace Rows

/-- THE TIED CARD OF 'laws.FnExactWeightOf'. -/
def fnExactWeightOfCard : Claim7 := { stood := { row := fnExactWeightOfRow, standIns := [], harness := (true, "9c482e2a846616dcf565e24330a60a94a18b7c42991be023f21539f79f4030fc"), looks := false }, kinds := [], alts := [], laidByText := true, laidKinds := [.data, .pinned], laidTests := true, laidLooks := .later }
def FnExactWeightOfCardSaid : Prop := Claim7.holds Tryd.pinned (.plain (OpenSpec.ofChange fnExactWeightOfSpec)) fnExactWeightOfCard

/-- THE TIED CARD OF 'laws.FnExactLetterCounts'. -/
def fnExactLetterCountsCard : Claim7 := { stood := { row := fnExactLetterCountsRow, standIns := [], harness := (true, "9c482e2a846616dcf565e24330a60a94a18b7c42991be023f21539f79f4030fc"), looks := false }, kinds := [], alts := [], laidByText := true, laidKinds := [.data, .pinned], laidTests := true, laidLooks := .later }
def FnExactLetterCountsCardSaid : Prop := Claim7.holds Tryd.pinned (.plain (OpenSpec.ofChange fnExactLetterCountsSpec)) fnExactLetterCountsCard

/-- THE TIED CARD OF 'laws.FnExactLettersOf'. -/
def fnExactLettersOfCard : Claim7 := { stood := { row := fnExactLettersOfRow, standIns := [], harness := (true, "9c482e2a846616dcf565e24330a60a94a18b7c42991be023f21539f79f4030fc"), looks := false }, kinds := [], alts := [], laidByText := true, laidKinds := [.data, .pinned], laidTests := true, laidLooks := .later }
def FnExactLettersOfCardSaid : Prop := Claim7.holds Tryd.pinned (.plain (OpenSpec.ofChange fnExactLettersOfSpec)) fnExactLettersOfCard

/-- THE SECOND FORM's CARD OF 'laws.FnExactWeightOf'. -/
def fnExactWeightOfUptoCard : Claim7 := { stood := { row := fnExactWeightOfUptoRow, standIns := [], harness := (true, "9c482e2a846616dcf565e24330a60a94a18b7c42991be023f21539f79f4030fc"), looks := false }, kinds := [], alts := [], laidByText := true, laidKinds := [.data, .pinned], laidTests := true, laidLooks := .later }
def FnExactWeightOfUptoCardSaid : Prop := Claim7.holds Tryd.pinned (.plain (OpenSpec.upto fnExactWeightOfSpec)) fnExactWeightOfUptoCard

/-- THE SECOND FORM's CARD OF 'laws.FnExactLetterCounts'. -/
def fnExactLetterCountsUptoCard : Claim7 := { stood := { row := fnExactLetterCountsUptoRow, standIns := [], harness := (true, "9c482e2a846616dcf565e24330a60a94a18b7c42991be023f21539f79f4030fc"), looks := false }, kinds := [], alts := [], laidByText := true, laidKinds := [.data, .pinned], laidTests := true, laidLooks := .later }
def FnExactLetterCountsUptoCardSaid : Prop := Claim7.holds Tryd.pinned (.plain (OpenSpec.upto fnExactLetterCountsSpec)) fnExactLetterCountsUptoCard

/-- THE SECOND FORM's CARD OF 'laws.FnExactLettersOf'. -/
def fnExactLettersOfUptoCard : Claim7 := { stood := { row := fnExactLettersOfUptoRow, standIns := [], harness := (true, "9c482e2a846616dcf565e24330a60a94a18b7c42991be023f21539f79f4030fc"), looks := false }, kinds := [], alts := [], laidByText := true, laidKinds := [.data, .pinned], laidTests := true, laidLooks := .later }
def FnExactLettersOfUptoCardSaid : Prop := Claim7.holds Tryd.pinned (.plain (OpenSpec.upto fnExactLettersOfSpec)) fnExactLettersOfUptoCard
end Rows
end Go.Proofs.YtkgoglmhojppbaaDoor
