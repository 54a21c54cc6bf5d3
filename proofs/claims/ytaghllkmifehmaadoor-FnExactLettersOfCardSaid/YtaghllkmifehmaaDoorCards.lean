/-
  DERIVED. GIVEN WITH THE SEED: THE CARDS: each row of YtaghllkmifehmaaDoorRows.lean that lists a variable, with what it lists TIED to the program's text (the seventh form; the later family's looks); each row that meets fmt, with fmt's text TOLD by the authors' own Lean function (tested against real Go, not proved from fmt's source: count such statements apart). THE CARD IS WHAT COUNTS. Prove the row's statement (the work); the ties are given (YtaghllkmifehmaaDoorTie.lean); close each card by the builder's one call (the guide's Derived/Test/ToyasCard.lean, 'card_holds'). Laid BY PROGRAM, IN A SANDBOX (cutbox-door.mjs). By AI agents, Wed Nov 11 2026. No macro, syntax, notation, axiom, sorry.
-/
import Derived.Test.YtaghllkmifehmaaDoorRows
import GoSem.ClaimSeven
namespace Go.Proofs.YtaghllkmifehmaaDoor
namespace Rows

/-- THE TIED CARD OF 'laws.FnExactIsWord'. -/
def fnExactIsWordCard : Claim7 := { stood := { row := fnExactIsWordRow, standIns := [], harness := (true, "f459ab1b782c644480584b7d6c5079a71c19395f3efc724a0c914e02667263f7"), looks := false }, kinds := [], alts := [], laidByText := true, laidKinds := [.data, .pinned], laidTests := true, laidLooks := .later }
def FnExactIsWordCardSaid : Prop := Claim7.holds Tryd.pinned (.plain (OpenSpec.ofChange fnExactIsWordSpec)) fnExactIsWordCard

/-- THE TIED CARD OF 'laws.FnExactBegins'. -/
def fnExactBeginsCard : Claim7 := { stood := { row := fnExactBeginsRow, standIns := [], harness := (true, "f459ab1b782c644480584b7d6c5079a71c19395f3efc724a0c914e02667263f7"), looks := false }, kinds := [], alts := [], laidByText := true, laidKinds := [.data, .pinned], laidTests := true, laidLooks := .later }
def FnExactBeginsCardSaid : Prop := Claim7.holds Tryd.pinned (.plain (OpenSpec.ofChange fnExactBeginsSpec)) fnExactBeginsCard

/-- THE TIED CARD OF 'laws.FnExactEnds'. -/
def fnExactEndsCard : Claim7 := { stood := { row := fnExactEndsRow, standIns := [], harness := (true, "f459ab1b782c644480584b7d6c5079a71c19395f3efc724a0c914e02667263f7"), looks := false }, kinds := [], alts := [], laidByText := true, laidKinds := [.data, .pinned], laidTests := true, laidLooks := .later }
def FnExactEndsCardSaid : Prop := Claim7.holds Tryd.pinned (.plain (OpenSpec.ofChange fnExactEndsSpec)) fnExactEndsCard

/-- THE TIED CARD OF 'laws.FnExactLessWord'. -/
def fnExactLessWordCard : Claim7 := { stood := { row := fnExactLessWordRow, standIns := [], harness := (true, "f459ab1b782c644480584b7d6c5079a71c19395f3efc724a0c914e02667263f7"), looks := false }, kinds := [], alts := [], laidByText := true, laidKinds := [.data, .pinned], laidTests := true, laidLooks := .later }
def FnExactLessWordCardSaid : Prop := Claim7.holds Tryd.pinned (.plain (OpenSpec.ofChange fnExactLessWordSpec)) fnExactLessWordCard

/-- THE TIED CARD OF 'laws.FnExactCountIn'. -/
def fnExactCountInCard : Claim7 := { stood := { row := fnExactCountInRow, standIns := [], harness := (true, "f459ab1b782c644480584b7d6c5079a71c19395f3efc724a0c914e02667263f7"), looks := false }, kinds := [], alts := [], laidByText := true, laidKinds := [.data, .pinned], laidTests := true, laidLooks := .later }
def FnExactCountInCardSaid : Prop := Claim7.holds Tryd.pinned (.plain (OpenSpec.ofChange fnExactCountInSpec)) fnExactCountInCard

/-- THE TIED CARD OF 'laws.FnExactBordersOf'. -/
def fnExactBordersOfCard : Claim7 := { stood := { row := fnExactBordersOfRow, standIns := [], harness := (true, "f459ab1b782c644480584b7d6c5079a71c19395f3efc724a0c914e02667263f7"), looks := false }, kinds := [], alts := [], laidByText := true, laidKinds := [.data, .pinned], laidTests := true, laidLooks := .later }
def FnExactBordersOfCardSaid : Prop := Claim7.holds Tryd.pinned (.plain (OpenSpec.ofChange fnExactBordersOfSpec)) fnExactBordersOfCard

/-- THE TIED CARD OF 'laws.FnExactLettersOf'. -/
def fnExactLettersOfCard : Claim7 := { stood := { row := fnExactLettersOfRow, standIns := [], harness := (true, "f459ab1b782c644480584b7d6c5079a71c19395f3efc724a0c914e02667263f7"), looks := false }, kinds := [], alts := [], laidByText := true, laidKinds := [.data, .pinned], laidTests := true, laidLooks := .later }
def FnExactLettersOfCardSaid : Prop := Claim7.holds Tryd.pinned (.plain (OpenSpec.ofChange fnExactLettersOfSpec)) fnExactLettersOfCard

/-- THE SECOND FORM's CARD OF 'laws.FnExactIsWord'. -/
def fnExactIsWordUptoCard : Claim7 := { stood := { row := fnExactIsWordUptoRow, standIns := [], harness := (true, "f459ab1b782c644480584b7d6c5079a71c19395f3efc724a0c914e02667263f7"), looks := false }, kinds := [], alts := [], laidByText := true, laidKinds := [.data, .pinned], laidTests := true, laidLooks := .later }
def FnExactIsWordUptoCardSaid : Prop := Claim7.holds Tryd.pinned (.plain (OpenSpec.upto fnExactIsWordSpec)) fnExactIsWordUptoCard

/-- THE SECOND FORM's CARD OF 'laws.FnExactBegins'. -/
def fnExactBeginsUptoCard : Claim7 := { stood := { row := fnExactBeginsUptoRow, standIns := [], harness := (true, "f459ab1b782c644480584b7d6c5079a71c19395f3efc724a0c914e02667263f7"), looks := false }, kinds := [], alts := [], laidByText := true, laidKinds := [.data, .pinned], laidTests := true, laidLooks := .later }
def FnExactBeginsUptoCardSaid : Prop := Claim7.holds Tryd.pinned (.plain (OpenSpec.upto fnExactBeginsSpec)) fnExactBeginsUptoCard

/-- THE SECOND FORM's CARD OF 'laws.FnExactEnds'. -/
def fnExactEndsUptoCard : Claim7 := { stood := { row := fnExactEndsUptoRow, standIns := [], harness := (true, "f459ab1b782c644480584b7d6c5079a71c19395f3efc724a0c914e02667263f7"), looks := false }, kinds := [], alts := [], laidByText := true, laidKinds := [.data, .pinned], laidTests := true, laidLooks := .later }
def FnExactEndsUptoCardSaid : Prop := Claim7.holds Tryd.pinned (.plain (OpenSpec.upto fnExactEndsSpec)) fnExactEndsUptoCard

/-- THE SECOND FORM's CARD OF 'laws.FnExactLessWord'. -/
def fnExactLessWordUptoCard : Claim7 := { stood := { row := fnExactLessWordUptoRow, standIns := [], harness := (true, "f459ab1b782c644480584b7d6c5079a71c19395f3efc724a0c914e02667263f7"), looks := false }, kinds := [], alts := [], laidByText := true, laidKinds := [.data, .pinned], laidTests := true, laidLooks := .later }
def FnExactLessWordUptoCardSaid : Prop := Claim7.holds Tryd.pinned (.plain (OpenSpec.upto fnExactLessWordSpec)) fnExactLessWordUptoCard

/-- THE SECOND FORM's CARD OF 'laws.FnExactCountIn'. -/
def fnExactCountInUptoCard : Claim7 := { stood := { row := fnExactCountInUptoRow, standIns := [], harness := (true, "f459ab1b782c644480584b7d6c5079a71c19395f3efc724a0c914e02667263f7"), looks := false }, kinds := [], alts := [], laidByText := true, laidKinds := [.data, .pinned], laidTests := true, laidLooks := .later }
def FnExactCountInUptoCardSaid : Prop := Claim7.holds Tryd.pinned (.plain (OpenSpec.upto fnExactCountInSpec)) fnExactCountInUptoCard

/-- THE SECOND FORM's CARD OF 'laws.FnExactBordersOf'. -/
def fnExactBordersOfUptoCard : Claim7 := { stood := { row := fnExactBordersOfUptoRow, standIns := [], harness := (true, "f459ab1b782c644480584b7d6c5079a71c19395f3efc724a0c914e02667263f7"), looks := false }, kinds := [], alts := [], laidByText := true, laidKinds := [.data, .pinned], laidTests := true, laidLooks := .later }
def FnExactBordersOfUptoCardSaid : Prop := Claim7.holds Tryd.pinned (.plain (OpenSpec.upto fnExactBordersOfSpec)) fnExactBordersOfUptoCard

/-- THE SECOND FORM's CARD OF 'laws.FnExactLettersOf'. -/
def fnExactLettersOfUptoCard : Claim7 := { stood := { row := fnExactLettersOfUptoRow, standIns := [], harness := (true, "f459ab1b782c644480584b7d6c5079a71c19395f3efc724a0c914e02667263f7"), looks := false }, kinds := [], alts := [], laidByText := true, laidKinds := [.data, .pinned], laidTests := true, laidLooks := .later }
def FnExactLettersOfUptoCardSaid : Prop := Claim7.holds Tryd.pinned (.plain (OpenSpec.upto fnExactLettersOfSpec)) fnExactLettersOfUptoCard
end Rows
end Go.Proofs.YtaghllkmifehmaaDoor
