/-
  DERIVED. GIVEN WITH THE SEED: THE CARDS: each row of YtaeligamgpikkaaDoorRows.lean that lists a variable, with what it lists TIED to the program's text (the seventh form; the later family's looks); each row that meets fmt, with fmt's text TOLD by the authors' own Lean function (tested against real Go, not proved from fmt's source: count such statements apart). THE CARD IS WHAT COUNTS. Prove the row's statement (the work); the ties are given (YtaeligamgpikkaaDoorTie.lean); close each card by the builder's one call (the guide's Derived/Test/ToyasCard.lean, 'card_holds'). Laid BY PROGRAM, IN A SANDBOX (cutbox-door.mjs). By AI agents, Wed Nov 11 2026. No macro, syntax, notation, axiom, sorry.
-/
import Derived.Test.YtaeligamgpikkaaDoorRows
import GoSem.ClaimSeven
namespace Go.Proofs.YtaeligamgpikkaaDoor
namespace Rows

/-- THE TIED CARD OF 'laws.FnExactCountReadings'. -/
def fnExactCountReadingsCard : Claim7 := { stood := { row := fnExactCountReadingsRow, standIns := [], harness := (true, "bc395c30de571fc5845d1e587a39719589e5fe7582eced3af69525161f1d0525"), looks := false }, kinds := [], alts := [], laidByText := true, laidKinds := [.data, .pinned], laidTests := true, laidLooks := .later }
def FnExactCountReadingsCardSaid : Prop := Claim7.holds Tryd.pinned (.plain (OpenSpec.ofChange fnExactCountReadingsSpec)) fnExactCountReadingsCard

/-- THE TIED CARD OF 'laws.FnExactCanRead'. -/
def fnExactCanReadCard : Claim7 := { stood := { row := fnExactCanReadRow, standIns := [], harness := (true, "bc395c30de571fc5845d1e587a39719589e5fe7582eced3af69525161f1d0525"), looks := false }, kinds := [], alts := [], laidByText := true, laidKinds := [.data, .pinned], laidTests := true, laidLooks := .later }
def FnExactCanReadCardSaid : Prop := Claim7.holds Tryd.pinned (.plain (OpenSpec.ofChange fnExactCanReadSpec)) fnExactCanReadCard

/-- THE TIED CARD OF 'laws.FnExactIsUniquelyRead'. -/
def fnExactIsUniquelyReadCard : Claim7 := { stood := { row := fnExactIsUniquelyReadRow, standIns := [], harness := (true, "bc395c30de571fc5845d1e587a39719589e5fe7582eced3af69525161f1d0525"), looks := false }, kinds := [], alts := [], laidByText := true, laidKinds := [.data, .pinned], laidTests := true, laidLooks := .later }
def FnExactIsUniquelyReadCardSaid : Prop := Claim7.holds Tryd.pinned (.plain (OpenSpec.ofChange fnExactIsUniquelyReadSpec)) fnExactIsUniquelyReadCard

/-- THE TIED CARD OF 'laws.FnExactReadWord'. -/
def fnExactReadWordCard : Claim7 := { stood := { row := fnExactReadWordRow, standIns := [], harness := (true, "bc395c30de571fc5845d1e587a39719589e5fe7582eced3af69525161f1d0525"), looks := false }, kinds := [], alts := [], laidByText := true, laidKinds := [.data, .pinned], laidTests := true, laidLooks := .later }
def FnExactReadWordCardSaid : Prop := Claim7.holds Tryd.pinned (.plain (OpenSpec.ofChange fnExactReadWordSpec)) fnExactReadWordCard

/-- THE TIED CARD OF 'laws.FnExactAllReadings'. -/
def fnExactAllReadingsCard : Claim7 := { stood := { row := fnExactAllReadingsRow, standIns := [], harness := (true, "bc395c30de571fc5845d1e587a39719589e5fe7582eced3af69525161f1d0525"), looks := false }, kinds := [], alts := [], laidByText := true, laidKinds := [.data, .pinned], laidTests := true, laidLooks := .later }
def FnExactAllReadingsCardSaid : Prop := Claim7.holds Tryd.pinned (.plain (OpenSpec.ofChange fnExactAllReadingsSpec)) fnExactAllReadingsCard

/-- THE TIED CARD OF 'laws.FnExactWriteMessage'. -/
def fnExactWriteMessageCard : Claim7 := { stood := { row := fnExactWriteMessageRow, standIns := [], harness := (true, "bc395c30de571fc5845d1e587a39719589e5fe7582eced3af69525161f1d0525"), looks := false }, kinds := [], alts := [], laidByText := true, laidKinds := [.data, .pinned], laidTests := true, laidLooks := .later }
def FnExactWriteMessageCardSaid : Prop := Claim7.holds Tryd.pinned (.plain (OpenSpec.ofChange fnExactWriteMessageSpec)) fnExactWriteMessageCard

/-- THE TIED CARD OF 'laws.FnExactCountMessages'. -/
def fnExactCountMessagesCard : Claim7 := { stood := { row := fnExactCountMessagesRow, standIns := [], harness := (true, "bc395c30de571fc5845d1e587a39719589e5fe7582eced3af69525161f1d0525"), looks := false }, kinds := [], alts := [], laidByText := true, laidKinds := [.data, .pinned], laidTests := true, laidLooks := .later }
def FnExactCountMessagesCardSaid : Prop := Claim7.holds Tryd.pinned (.plain (OpenSpec.ofChange fnExactCountMessagesSpec)) fnExactCountMessagesCard

/-- THE SECOND FORM's CARD OF 'laws.FnExactCountReadings'. -/
def fnExactCountReadingsUptoCard : Claim7 := { stood := { row := fnExactCountReadingsUptoRow, standIns := [], harness := (true, "bc395c30de571fc5845d1e587a39719589e5fe7582eced3af69525161f1d0525"), looks := false }, kinds := [], alts := [], laidByText := true, laidKinds := [.data, .pinned], laidTests := true, laidLooks := .later }
def FnExactCountReadingsUptoCardSaid : Prop := Claim7.holds Tryd.pinned (.plain (OpenSpec.upto fnExactCountReadingsSpec)) fnExactCountReadingsUptoCard

/-- THE SECOND FORM's CARD OF 'laws.FnExactCanRead'. -/
def fnExactCanReadUptoCard : Claim7 := { stood := { row := fnExactCanReadUptoRow, standIns := [], harness := (true, "bc395c30de571fc5845d1e587a39719589e5fe7582eced3af69525161f1d0525"), looks := false }, kinds := [], alts := [], laidByText := true, laidKinds := [.data, .pinned], laidTests := true, laidLooks := .later }
def FnExactCanReadUptoCardSaid : Prop := Claim7.holds Tryd.pinned (.plain (OpenSpec.upto fnExactCanReadSpec)) fnExactCanReadUptoCard

/-- THE SECOND FORM's CARD OF 'laws.FnExactIsUniquelyRead'. -/
def fnExactIsUniquelyReadUptoCard : Claim7 := { stood := { row := fnExactIsUniquelyReadUptoRow, standIns := [], harness := (true, "bc395c30de571fc5845d1e587a39719589e5fe7582eced3af69525161f1d0525"), looks := false }, kinds := [], alts := [], laidByText := true, laidKinds := [.data, .pinned], laidTests := true, laidLooks := .later }
def FnExactIsUniquelyReadUptoCardSaid : Prop := Claim7.holds Tryd.pinned (.plain (OpenSpec.upto fnExactIsUniquelyReadSpec)) fnExactIsUniquelyReadUptoCard

/-- THE SECOND FORM's CARD OF 'laws.FnExactReadWord'. -/
def fnExactReadWordUptoCard : Claim7 := { stood := { row := fnExactReadWordUptoRow, standIns := [], harness := (true, "bc395c30de571fc5845d1e587a39719589e5fe7582eced3af69525161f1d0525"), looks := false }, kinds := [], alts := [], laidByText := true, laidKinds := [.data, .pinned], laidTests := true, laidLooks := .later }
def FnExactReadWordUptoCardSaid : Prop := Claim7.holds Tryd.pinned (.plain (OpenSpec.upto fnExactReadWordSpec)) fnExactReadWordUptoCard

/-- THE SECOND FORM's CARD OF 'laws.FnExactAllReadings'. -/
def fnExactAllReadingsUptoCard : Claim7 := { stood := { row := fnExactAllReadingsUptoRow, standIns := [], harness := (true, "bc395c30de571fc5845d1e587a39719589e5fe7582eced3af69525161f1d0525"), looks := false }, kinds := [], alts := [], laidByText := true, laidKinds := [.data, .pinned], laidTests := true, laidLooks := .later }
def FnExactAllReadingsUptoCardSaid : Prop := Claim7.holds Tryd.pinned (.plain (OpenSpec.upto fnExactAllReadingsSpec)) fnExactAllReadingsUptoCard

/-- THE SECOND FORM's CARD OF 'laws.FnExactWriteMessage'. -/
def fnExactWriteMessageUptoCard : Claim7 := { stood := { row := fnExactWriteMessageUptoRow, standIns := [], harness := (true, "bc395c30de571fc5845d1e587a39719589e5fe7582eced3af69525161f1d0525"), looks := false }, kinds := [], alts := [], laidByText := true, laidKinds := [.data, .pinned], laidTests := true, laidLooks := .later }
def FnExactWriteMessageUptoCardSaid : Prop := Claim7.holds Tryd.pinned (.plain (OpenSpec.upto fnExactWriteMessageSpec)) fnExactWriteMessageUptoCard

/-- THE SECOND FORM's CARD OF 'laws.FnExactCountMessages'. -/
def fnExactCountMessagesUptoCard : Claim7 := { stood := { row := fnExactCountMessagesUptoRow, standIns := [], harness := (true, "bc395c30de571fc5845d1e587a39719589e5fe7582eced3af69525161f1d0525"), looks := false }, kinds := [], alts := [], laidByText := true, laidKinds := [.data, .pinned], laidTests := true, laidLooks := .later }
def FnExactCountMessagesUptoCardSaid : Prop := Claim7.holds Tryd.pinned (.plain (OpenSpec.upto fnExactCountMessagesSpec)) fnExactCountMessagesUptoCard
end Rows
end Go.Proofs.YtaeligamgpikkaaDoor
