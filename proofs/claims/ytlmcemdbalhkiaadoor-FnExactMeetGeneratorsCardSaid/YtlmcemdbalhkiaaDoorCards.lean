/-
  DERIVED. GIVEN WITH THE SEED: THE CARDS: each row of YtlmcemdbalhkiaaDoorRows.lean that lists a variable, with what it lists TIED to the program's text (the seventh form; the later family's looks); each row that meets fmt, with fmt's text TOLD by the authors' own Lean function (tested against real Go, not proved from fmt's source: count such statements apart). THE CARD IS WHAT COUNTS. Prove the row's statement (the work); the ties are given (YtlmcemdbalhkiaaDoorTie.lean); close each card by the builder's one call (the guide's Derived/Test/ToyasCard.lean, 'card_holds'). Laid BY PROGRAM, IN A SANDBOX (cutbox-door.mjs). By AI agents, Wed Nov 11 2026. No macro, syntax, notation, axiom, sorry.
-/
import Derived.Test.YtlmcemdbalhkiaaDoorRows
import GoSem.ClaimSeven
namespace Go.Proofs.YtlmcemdbalhkiaaDoor
namespace Rows

/-- THE TIED CARD OF 'laws.FnExactLeastGenerators'. -/
def fnExactLeastGeneratorsCard : Claim7 := { stood := { row := fnExactLeastGeneratorsRow, standIns := [], harness := (true, "1c9f2c236f4ac6e0c67853bbea402eed3278cd89dcd33732f47df2dd4d3a0bd4"), looks := false }, kinds := [], alts := [], laidByText := true, laidKinds := [.data, .pinned], laidTests := true, laidLooks := .later }
def FnExactLeastGeneratorsCardSaid : Prop := Claim7.holds Tryd.pinned (.plain (OpenSpec.ofChange fnExactLeastGeneratorsSpec)) fnExactLeastGeneratorsCard

/-- THE TIED CARD OF 'laws.FnExactWrittenUpTo'. -/
def fnExactWrittenUpToCard : Claim7 := { stood := { row := fnExactWrittenUpToRow, standIns := [], harness := (true, "1c9f2c236f4ac6e0c67853bbea402eed3278cd89dcd33732f47df2dd4d3a0bd4"), looks := false }, kinds := [], alts := [], laidByText := true, laidKinds := [.data, .pinned], laidTests := true, laidLooks := .later }
def FnExactWrittenUpToCardSaid : Prop := Claim7.holds Tryd.pinned (.plain (OpenSpec.ofChange fnExactWrittenUpToSpec)) fnExactWrittenUpToCard

/-- THE TIED CARD OF 'laws.FnExactMeetGenerators'. -/
def fnExactMeetGeneratorsCard : Claim7 := { stood := { row := fnExactMeetGeneratorsRow, standIns := [], harness := (true, "1c9f2c236f4ac6e0c67853bbea402eed3278cd89dcd33732f47df2dd4d3a0bd4"), looks := false }, kinds := [], alts := [], laidByText := true, laidKinds := [.data, .pinned], laidTests := true, laidLooks := .later }
def FnExactMeetGeneratorsCardSaid : Prop := Claim7.holds Tryd.pinned (.plain (OpenSpec.ofChange fnExactMeetGeneratorsSpec)) fnExactMeetGeneratorsCard

/-- THE TIED CARD OF 'laws.FnExactFreeHull'. -/
def fnExactFreeHullCard : Claim7 := { stood := { row := fnExactFreeHullRow, standIns := [], harness := (true, "1c9f2c236f4ac6e0c67853bbea402eed3278cd89dcd33732f47df2dd4d3a0bd4"), looks := false }, kinds := [], alts := [], laidByText := true, laidKinds := [.data, .pinned], laidTests := true, laidLooks := .later }
def FnExactFreeHullCardSaid : Prop := Claim7.holds Tryd.pinned (.plain (OpenSpec.ofChange fnExactFreeHullSpec)) fnExactFreeHullCard

/-- THE TIED CARD OF 'laws.FnExactHullSteps'. -/
def fnExactHullStepsCard : Claim7 := { stood := { row := fnExactHullStepsRow, standIns := [], harness := (true, "1c9f2c236f4ac6e0c67853bbea402eed3278cd89dcd33732f47df2dd4d3a0bd4"), looks := false }, kinds := [], alts := [], laidByText := true, laidKinds := [.data, .pinned], laidTests := true, laidLooks := .later }
def FnExactHullStepsCardSaid : Prop := Claim7.holds Tryd.pinned (.plain (OpenSpec.ofChange fnExactHullStepsSpec)) fnExactHullStepsCard

/-- THE TIED CARD OF 'laws.FnExactCanMeet'. -/
def fnExactCanMeetCard : Claim7 := { stood := { row := fnExactCanMeetRow, standIns := [], harness := (true, "1c9f2c236f4ac6e0c67853bbea402eed3278cd89dcd33732f47df2dd4d3a0bd4"), looks := false }, kinds := [], alts := [], laidByText := true, laidKinds := [.data, .pinned], laidTests := true, laidLooks := .later }
def FnExactCanMeetCardSaid : Prop := Claim7.holds Tryd.pinned (.plain (OpenSpec.ofChange fnExactCanMeetSpec)) fnExactCanMeetCard

/-- THE SECOND FORM's CARD OF 'laws.FnExactLeastGenerators'. -/
def fnExactLeastGeneratorsUptoCard : Claim7 := { stood := { row := fnExactLeastGeneratorsUptoRow, standIns := [], harness := (true, "1c9f2c236f4ac6e0c67853bbea402eed3278cd89dcd33732f47df2dd4d3a0bd4"), looks := false }, kinds := [], alts := [], laidByText := true, laidKinds := [.data, .pinned], laidTests := true, laidLooks := .later }
def FnExactLeastGeneratorsUptoCardSaid : Prop := Claim7.holds Tryd.pinned (.plain (OpenSpec.upto fnExactLeastGeneratorsSpec)) fnExactLeastGeneratorsUptoCard

/-- THE SECOND FORM's CARD OF 'laws.FnExactWrittenUpTo'. -/
def fnExactWrittenUpToUptoCard : Claim7 := { stood := { row := fnExactWrittenUpToUptoRow, standIns := [], harness := (true, "1c9f2c236f4ac6e0c67853bbea402eed3278cd89dcd33732f47df2dd4d3a0bd4"), looks := false }, kinds := [], alts := [], laidByText := true, laidKinds := [.data, .pinned], laidTests := true, laidLooks := .later }
def FnExactWrittenUpToUptoCardSaid : Prop := Claim7.holds Tryd.pinned (.plain (OpenSpec.upto fnExactWrittenUpToSpec)) fnExactWrittenUpToUptoCard

/-- THE SECOND FORM's CARD OF 'laws.FnExactMeetGenerators'. -/
def fnExactMeetGeneratorsUptoCard : Claim7 := { stood := { row := fnExactMeetGeneratorsUptoRow, standIns := [], harness := (true, "1c9f2c236f4ac6e0c67853bbea402eed3278cd89dcd33732f47df2dd4d3a0bd4"), looks := false }, kinds := [], alts := [], laidByText := true, laidKinds := [.data, .pinned], laidTests := true, laidLooks := .later }
def FnExactMeetGeneratorsUptoCardSaid : Prop := Claim7.holds Tryd.pinned (.plain (OpenSpec.upto fnExactMeetGeneratorsSpec)) fnExactMeetGeneratorsUptoCard

/-- THE SECOND FORM's CARD OF 'laws.FnExactFreeHull'. -/
def fnExactFreeHullUptoCard : Claim7 := { stood := { row := fnExactFreeHullUptoRow, standIns := [], harness := (true, "1c9f2c236f4ac6e0c67853bbea402eed3278cd89dcd33732f47df2dd4d3a0bd4"), looks := false }, kinds := [], alts := [], laidByText := true, laidKinds := [.data, .pinned], laidTests := true, laidLooks := .later }
def FnExactFreeHullUptoCardSaid : Prop := Claim7.holds Tryd.pinned (.plain (OpenSpec.upto fnExactFreeHullSpec)) fnExactFreeHullUptoCard

/-- THE SECOND FORM's CARD OF 'laws.FnExactHullSteps'. -/
def fnExactHullStepsUptoCard : Claim7 := { stood := { row := fnExactHullStepsUptoRow, standIns := [], harness := (true, "1c9f2c236f4ac6e0c67853bbea402eed3278cd89dcd33732f47df2dd4d3a0bd4"), looks := false }, kinds := [], alts := [], laidByText := true, laidKinds := [.data, .pinned], laidTests := true, laidLooks := .later }
def FnExactHullStepsUptoCardSaid : Prop := Claim7.holds Tryd.pinned (.plain (OpenSpec.upto fnExactHullStepsSpec)) fnExactHullStepsUptoCard

/-- THE SECOND FORM's CARD OF 'laws.FnExactCanMeet'. -/
def fnExactCanMeetUptoCard : Claim7 := { stood := { row := fnExactCanMeetUptoRow, standIns := [], harness := (true, "1c9f2c236f4ac6e0c67853bbea402eed3278cd89dcd33732f47df2dd4d3a0bd4"), looks := false }, kinds := [], alts := [], laidByText := true, laidKinds := [.data, .pinned], laidTests := true, laidLooks := .later }
def FnExactCanMeetUptoCardSaid : Prop := Claim7.holds Tryd.pinned (.plain (OpenSpec.upto fnExactCanMeetSpec)) fnExactCanMeetUptoCard
end Rows
end Go.Proofs.YtlmcemdbalhkiaaDoor
