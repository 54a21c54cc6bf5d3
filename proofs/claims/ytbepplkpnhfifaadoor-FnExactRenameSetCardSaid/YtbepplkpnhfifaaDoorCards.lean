/-
  DERIVED. GIVEN WITH THE SEED: THE CARDS: each row of YtbepplkpnhfifaaDoorRows.lean that lists a variable, with what it lists TIED to the program's text (the seventh form; the later family's looks); each row that meets fmt, with fmt's text TOLD by the authors' own Lean function (tested against real Go, not proved from fmt's source: count such statements apart). THE CARD IS WHAT COUNTS. Prove the row's statement (the work); the ties are given (YtbepplkpnhfifaaDoorTie.lean); close each card by the builder's one call (the guide's Derived/Test/ToyasCard.lean, 'card_holds'). Laid BY PROGRAM, IN A SANDBOX (cutbox-door.mjs). By AI agents, Wed Nov 11 2026. No macro, syntax, notation, axiom, sorry.
-/
import Derived.Test.YtbepplkpnhfifaaDoorRows
import GoSem.ClaimSeven
namespace Go.Proofs.YtbepplkpnhfifaaDoor
namespace Rows

/-- THE TIED CARD OF 'laws.FnExactSetOf'. -/
def fnExactSetOfCard : Claim7 := { stood := { row := fnExactSetOfRow, standIns := [], harness := (true, "8ff5a4b9536dd6b241f74d2851bb9ea4594dcace75e8e104f83ed049abbd6185"), looks := false }, kinds := [], alts := [], laidByText := true, laidKinds := [.data, .pinned], laidTests := true, laidLooks := .later }
def FnExactSetOfCardSaid : Prop := Claim7.holds Tryd.pinned (.plain (OpenSpec.ofChange fnExactSetOfSpec)) fnExactSetOfCard

/-- THE TIED CARD OF 'laws.FnExactReverseSet'. -/
def fnExactReverseSetCard : Claim7 := { stood := { row := fnExactReverseSetRow, standIns := [], harness := (true, "8ff5a4b9536dd6b241f74d2851bb9ea4594dcace75e8e104f83ed049abbd6185"), looks := false }, kinds := [], alts := [], laidByText := true, laidKinds := [.data, .pinned], laidTests := true, laidLooks := .later }
def FnExactReverseSetCardSaid : Prop := Claim7.holds Tryd.pinned (.plain (OpenSpec.ofChange fnExactReverseSetSpec)) fnExactReverseSetCard

/-- THE TIED CARD OF 'laws.FnExactJoinSets'. -/
def fnExactJoinSetsCard : Claim7 := { stood := { row := fnExactJoinSetsRow, standIns := [], harness := (true, "8ff5a4b9536dd6b241f74d2851bb9ea4594dcace75e8e104f83ed049abbd6185"), looks := false }, kinds := [], alts := [], laidByText := true, laidKinds := [.data, .pinned], laidTests := true, laidLooks := .later }
def FnExactJoinSetsCardSaid : Prop := Claim7.holds Tryd.pinned (.plain (OpenSpec.ofChange fnExactJoinSetsSpec)) fnExactJoinSetsCard

/-- THE TIED CARD OF 'laws.FnExactLeftQuotient'. -/
def fnExactLeftQuotientCard : Claim7 := { stood := { row := fnExactLeftQuotientRow, standIns := [], harness := (true, "8ff5a4b9536dd6b241f74d2851bb9ea4594dcace75e8e104f83ed049abbd6185"), looks := false }, kinds := [], alts := [], laidByText := true, laidKinds := [.data, .pinned], laidTests := true, laidLooks := .later }
def FnExactLeftQuotientCardSaid : Prop := Claim7.holds Tryd.pinned (.plain (OpenSpec.ofChange fnExactLeftQuotientSpec)) fnExactLeftQuotientCard

/-- THE TIED CARD OF 'laws.FnExactRenameSet'. -/
def fnExactRenameSetCard : Claim7 := { stood := { row := fnExactRenameSetRow, standIns := [], harness := (true, "8ff5a4b9536dd6b241f74d2851bb9ea4594dcace75e8e104f83ed049abbd6185"), looks := false }, kinds := [], alts := [], laidByText := true, laidKinds := [.data, .pinned], laidTests := true, laidLooks := .later }
def FnExactRenameSetCardSaid : Prop := Claim7.holds Tryd.pinned (.plain (OpenSpec.ofChange fnExactRenameSetSpec)) fnExactRenameSetCard

/-- THE SECOND FORM's CARD OF 'laws.FnExactSetOf'. -/
def fnExactSetOfUptoCard : Claim7 := { stood := { row := fnExactSetOfUptoRow, standIns := [], harness := (true, "8ff5a4b9536dd6b241f74d2851bb9ea4594dcace75e8e104f83ed049abbd6185"), looks := false }, kinds := [], alts := [], laidByText := true, laidKinds := [.data, .pinned], laidTests := true, laidLooks := .later }
def FnExactSetOfUptoCardSaid : Prop := Claim7.holds Tryd.pinned (.plain (OpenSpec.upto fnExactSetOfSpec)) fnExactSetOfUptoCard

/-- THE SECOND FORM's CARD OF 'laws.FnExactReverseSet'. -/
def fnExactReverseSetUptoCard : Claim7 := { stood := { row := fnExactReverseSetUptoRow, standIns := [], harness := (true, "8ff5a4b9536dd6b241f74d2851bb9ea4594dcace75e8e104f83ed049abbd6185"), looks := false }, kinds := [], alts := [], laidByText := true, laidKinds := [.data, .pinned], laidTests := true, laidLooks := .later }
def FnExactReverseSetUptoCardSaid : Prop := Claim7.holds Tryd.pinned (.plain (OpenSpec.upto fnExactReverseSetSpec)) fnExactReverseSetUptoCard

/-- THE SECOND FORM's CARD OF 'laws.FnExactJoinSets'. -/
def fnExactJoinSetsUptoCard : Claim7 := { stood := { row := fnExactJoinSetsUptoRow, standIns := [], harness := (true, "8ff5a4b9536dd6b241f74d2851bb9ea4594dcace75e8e104f83ed049abbd6185"), looks := false }, kinds := [], alts := [], laidByText := true, laidKinds := [.data, .pinned], laidTests := true, laidLooks := .later }
def FnExactJoinSetsUptoCardSaid : Prop := Claim7.holds Tryd.pinned (.plain (OpenSpec.upto fnExactJoinSetsSpec)) fnExactJoinSetsUptoCard

/-- THE SECOND FORM's CARD OF 'laws.FnExactLeftQuotient'. -/
def fnExactLeftQuotientUptoCard : Claim7 := { stood := { row := fnExactLeftQuotientUptoRow, standIns := [], harness := (true, "8ff5a4b9536dd6b241f74d2851bb9ea4594dcace75e8e104f83ed049abbd6185"), looks := false }, kinds := [], alts := [], laidByText := true, laidKinds := [.data, .pinned], laidTests := true, laidLooks := .later }
def FnExactLeftQuotientUptoCardSaid : Prop := Claim7.holds Tryd.pinned (.plain (OpenSpec.upto fnExactLeftQuotientSpec)) fnExactLeftQuotientUptoCard

/-- THE SECOND FORM's CARD OF 'laws.FnExactRenameSet'. -/
def fnExactRenameSetUptoCard : Claim7 := { stood := { row := fnExactRenameSetUptoRow, standIns := [], harness := (true, "8ff5a4b9536dd6b241f74d2851bb9ea4594dcace75e8e104f83ed049abbd6185"), looks := false }, kinds := [], alts := [], laidByText := true, laidKinds := [.data, .pinned], laidTests := true, laidLooks := .later }
def FnExactRenameSetUptoCardSaid : Prop := Claim7.holds Tryd.pinned (.plain (OpenSpec.upto fnExactRenameSetSpec)) fnExactRenameSetUptoCard
end Rows
end Go.Proofs.YtbepplkpnhfifaaDoor
