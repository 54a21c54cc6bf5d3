/-
  DERIVED. GIVEN WITH THE SEED: THE CARDS: each row of YtojcnalgjeojdaaDoorRows.lean that lists a variable, with what it lists TIED to the program's text (the seventh form; the later family's looks); each row that meets fmt, with fmt's text TOLD by the authors' own Lean function (tested against real Go, not proved from fmt's source: count such statements apart). THE CARD IS WHAT COUNTS. Prove the row's statement (the work); the ties are given (YtojcnalgjeojdaaDoorTie.lean); close each card by the builder's one call (the guide's Derived/Test/ToyasCard.lean, 'card_holds'). Laid BY PROGRAM, IN A SANDBOX (cutbox-door.mjs). By AI agents, Wed Nov 11 2026. No macro, syntax, notation, axiom, sorry.
-/
import Derived.Test.YtojcnalgjeojdaaDoorRows
import GoSem.ClaimSeven
namespace Go.Proofs.YtojcnalgjeojdaaDoor
namespace Rows

/-- THE TIED CARD OF 'laws.FnExactInnerWords'. -/
def fnExactInnerWordsCard : Claim7 := { stood := { row := fnExactInnerWordsRow, standIns := [], harness := (true, "64530e2043228ab0f8f71f89cff8df1850ec00de9f7d997bccf057a046dd270c"), looks := false }, kinds := [], alts := [], laidByText := true, laidKinds := [.data, .pinned], laidTests := true, laidLooks := .later }
def FnExactInnerWordsCardSaid : Prop := Claim7.holds Tryd.pinned (.plain (OpenSpec.ofChange fnExactInnerWordsSpec)) fnExactInnerWordsCard

/-- THE TIED CARD OF 'laws.FnExactIsTwoSided'. -/
def fnExactIsTwoSidedCard : Claim7 := { stood := { row := fnExactIsTwoSidedRow, standIns := [], harness := (true, "64530e2043228ab0f8f71f89cff8df1850ec00de9f7d997bccf057a046dd270c"), looks := false }, kinds := [], alts := [], laidByText := true, laidKinds := [.data, .pinned], laidTests := true, laidLooks := .later }
def FnExactIsTwoSidedCardSaid : Prop := Claim7.holds Tryd.pinned (.plain (OpenSpec.ofChange fnExactIsTwoSidedSpec)) fnExactIsTwoSidedCard

/-- THE TIED CARD OF 'laws.FnExactIsPartFree'. -/
def fnExactIsPartFreeCard : Claim7 := { stood := { row := fnExactIsPartFreeRow, standIns := [], harness := (true, "64530e2043228ab0f8f71f89cff8df1850ec00de9f7d997bccf057a046dd270c"), looks := false }, kinds := [], alts := [], laidByText := true, laidKinds := [.data, .pinned], laidTests := true, laidLooks := .later }
def FnExactIsPartFreeCardSaid : Prop := Claim7.holds Tryd.pinned (.plain (OpenSpec.ofChange fnExactIsPartFreeSpec)) fnExactIsPartFreeCard

/-- THE TIED CARD OF 'laws.FnExactPutBehind'. -/
def fnExactPutBehindCard : Claim7 := { stood := { row := fnExactPutBehindRow, standIns := [], harness := (true, "64530e2043228ab0f8f71f89cff8df1850ec00de9f7d997bccf057a046dd270c"), looks := false }, kinds := [], alts := [], laidByText := true, laidKinds := [.data, .pinned], laidTests := true, laidLooks := .later }
def FnExactPutBehindCardSaid : Prop := Claim7.holds Tryd.pinned (.plain (OpenSpec.ofChange fnExactPutBehindSpec)) fnExactPutBehindCard

/-- THE TIED CARD OF 'laws.FnExactLevelsOf'. -/
def fnExactLevelsOfCard : Claim7 := { stood := { row := fnExactLevelsOfRow, standIns := [], harness := (true, "64530e2043228ab0f8f71f89cff8df1850ec00de9f7d997bccf057a046dd270c"), looks := false }, kinds := [], alts := [], laidByText := true, laidKinds := [.data, .pinned], laidTests := true, laidLooks := .later }
def FnExactLevelsOfCardSaid : Prop := Claim7.holds Tryd.pinned (.plain (OpenSpec.ofChange fnExactLevelsOfSpec)) fnExactLevelsOfCard

/-- THE TIED CARD OF 'laws.FnExactReadFromLeft'. -/
def fnExactReadFromLeftCard : Claim7 := { stood := { row := fnExactReadFromLeftRow, standIns := [], harness := (true, "64530e2043228ab0f8f71f89cff8df1850ec00de9f7d997bccf057a046dd270c"), looks := false }, kinds := [], alts := [], laidByText := true, laidKinds := [.data, .pinned], laidTests := true, laidLooks := .later }
def FnExactReadFromLeftCardSaid : Prop := Claim7.holds Tryd.pinned (.plain (OpenSpec.ofChange fnExactReadFromLeftSpec)) fnExactReadFromLeftCard

/-- THE SECOND FORM's CARD OF 'laws.FnExactInnerWords'. -/
def fnExactInnerWordsUptoCard : Claim7 := { stood := { row := fnExactInnerWordsUptoRow, standIns := [], harness := (true, "64530e2043228ab0f8f71f89cff8df1850ec00de9f7d997bccf057a046dd270c"), looks := false }, kinds := [], alts := [], laidByText := true, laidKinds := [.data, .pinned], laidTests := true, laidLooks := .later }
def FnExactInnerWordsUptoCardSaid : Prop := Claim7.holds Tryd.pinned (.plain (OpenSpec.upto fnExactInnerWordsSpec)) fnExactInnerWordsUptoCard

/-- THE SECOND FORM's CARD OF 'laws.FnExactIsTwoSided'. -/
def fnExactIsTwoSidedUptoCard : Claim7 := { stood := { row := fnExactIsTwoSidedUptoRow, standIns := [], harness := (true, "64530e2043228ab0f8f71f89cff8df1850ec00de9f7d997bccf057a046dd270c"), looks := false }, kinds := [], alts := [], laidByText := true, laidKinds := [.data, .pinned], laidTests := true, laidLooks := .later }
def FnExactIsTwoSidedUptoCardSaid : Prop := Claim7.holds Tryd.pinned (.plain (OpenSpec.upto fnExactIsTwoSidedSpec)) fnExactIsTwoSidedUptoCard

/-- THE SECOND FORM's CARD OF 'laws.FnExactIsPartFree'. -/
def fnExactIsPartFreeUptoCard : Claim7 := { stood := { row := fnExactIsPartFreeUptoRow, standIns := [], harness := (true, "64530e2043228ab0f8f71f89cff8df1850ec00de9f7d997bccf057a046dd270c"), looks := false }, kinds := [], alts := [], laidByText := true, laidKinds := [.data, .pinned], laidTests := true, laidLooks := .later }
def FnExactIsPartFreeUptoCardSaid : Prop := Claim7.holds Tryd.pinned (.plain (OpenSpec.upto fnExactIsPartFreeSpec)) fnExactIsPartFreeUptoCard

/-- THE SECOND FORM's CARD OF 'laws.FnExactPutBehind'. -/
def fnExactPutBehindUptoCard : Claim7 := { stood := { row := fnExactPutBehindUptoRow, standIns := [], harness := (true, "64530e2043228ab0f8f71f89cff8df1850ec00de9f7d997bccf057a046dd270c"), looks := false }, kinds := [], alts := [], laidByText := true, laidKinds := [.data, .pinned], laidTests := true, laidLooks := .later }
def FnExactPutBehindUptoCardSaid : Prop := Claim7.holds Tryd.pinned (.plain (OpenSpec.upto fnExactPutBehindSpec)) fnExactPutBehindUptoCard

/-- THE SECOND FORM's CARD OF 'laws.FnExactLevelsOf'. -/
def fnExactLevelsOfUptoCard : Claim7 := { stood := { row := fnExactLevelsOfUptoRow, standIns := [], harness := (true, "64530e2043228ab0f8f71f89cff8df1850ec00de9f7d997bccf057a046dd270c"), looks := false }, kinds := [], alts := [], laidByText := true, laidKinds := [.data, .pinned], laidTests := true, laidLooks := .later }
def FnExactLevelsOfUptoCardSaid : Prop := Claim7.holds Tryd.pinned (.plain (OpenSpec.upto fnExactLevelsOfSpec)) fnExactLevelsOfUptoCard

/-- THE SECOND FORM's CARD OF 'laws.FnExactReadFromLeft'. -/
def fnExactReadFromLeftUptoCard : Claim7 := { stood := { row := fnExactReadFromLeftUptoRow, standIns := [], harness := (true, "64530e2043228ab0f8f71f89cff8df1850ec00de9f7d997bccf057a046dd270c"), looks := false }, kinds := [], alts := [], laidByText := true, laidKinds := [.data, .pinned], laidTests := true, laidLooks := .later }
def FnExactReadFromLeftUptoCardSaid : Prop := Claim7.holds Tryd.pinned (.plain (OpenSpec.upto fnExactReadFromLeftSpec)) fnExactReadFromLeftUptoCard
end Rows
end Go.Proofs.YtojcnalgjeojdaaDoor
