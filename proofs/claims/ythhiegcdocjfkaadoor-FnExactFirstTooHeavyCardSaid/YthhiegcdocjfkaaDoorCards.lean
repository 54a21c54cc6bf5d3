/-
  DERIVED. GIVEN WITH THE SEED: THE CARDS: each row of YthhiegcdocjfkaaDoorRows.lean that lists a variable, with what it lists TIED to the program's text (the seventh form; the later family's looks); each row that meets fmt, with fmt's text TOLD by the authors' own Lean function (tested against real Go, not proved from fmt's source: count such statements apart). THE CARD IS WHAT COUNTS. Prove the row's statement (the work); the ties are given (YthhiegcdocjfkaaDoorTie.lean); close each card by the builder's one call (the guide's Derived/Test/ToyasCard.lean, 'card_holds'). Laid BY PROGRAM, IN A SANDBOX (cutbox-door.mjs). By AI agents, Wed Nov 11 2026. No macro, syntax, notation, axiom, sorry.
-/
import Derived.Test.YthhiegcdocjfkaaDoorRows
import GoSem.ClaimSeven
namespace Go.Proofs.YthhiegcdocjfkaaDoor
namespace Rows

/-- THE TIED CARD OF 'laws.FnExactWeightedSum'. -/
def fnExactWeightedSumCard : Claim7 := { stood := { row := fnExactWeightedSumRow, standIns := [], harness := (true, "7396ebc1c2a08555bf83cdc4fa4f84cd2d8766664645359015f335d5204fd092"), looks := false }, kinds := [], alts := [], laidByText := true, laidKinds := [.data, .pinned], laidTests := true, laidLooks := .later }
def FnExactWeightedSumCardSaid : Prop := Claim7.holds Tryd.pinned (.plain (OpenSpec.ofChange fnExactWeightedSumSpec)) fnExactWeightedSumCard

/-- THE TIED CARD OF 'laws.FnExactMeanLength'. -/
def fnExactMeanLengthCard : Claim7 := { stood := { row := fnExactMeanLengthRow, standIns := [], harness := (true, "7396ebc1c2a08555bf83cdc4fa4f84cd2d8766664645359015f335d5204fd092"), looks := false }, kinds := [], alts := [], laidByText := true, laidKinds := [.data, .pinned], laidTests := true, laidLooks := .later }
def FnExactMeanLengthCardSaid : Prop := Claim7.holds Tryd.pinned (.plain (OpenSpec.ofChange fnExactMeanLengthSpec)) fnExactMeanLengthCard

/-- THE TIED CARD OF 'laws.FnExactFirstTooHeavy'. -/
def fnExactFirstTooHeavyCard : Claim7 := { stood := { row := fnExactFirstTooHeavyRow, standIns := [], harness := (true, "7396ebc1c2a08555bf83cdc4fa4f84cd2d8766664645359015f335d5204fd092"), looks := false }, kinds := [], alts := [], laidByText := true, laidKinds := [.data, .pinned], laidTests := true, laidLooks := .later }
def FnExactFirstTooHeavyCardSaid : Prop := Claim7.holds Tryd.pinned (.plain (OpenSpec.ofChange fnExactFirstTooHeavySpec)) fnExactFirstTooHeavyCard

/-- THE TIED CARD OF 'laws.FnExactInnerWeight'. -/
def fnExactInnerWeightCard : Claim7 := { stood := { row := fnExactInnerWeightRow, standIns := [], harness := (true, "7396ebc1c2a08555bf83cdc4fa4f84cd2d8766664645359015f335d5204fd092"), looks := false }, kinds := [], alts := [], laidByText := true, laidKinds := [.data, .pinned], laidTests := true, laidLooks := .later }
def FnExactInnerWeightCardSaid : Prop := Claim7.holds Tryd.pinned (.plain (OpenSpec.ofChange fnExactInnerWeightSpec)) fnExactInnerWeightCard

/-- THE SECOND FORM's CARD OF 'laws.FnExactWeightedSum'. -/
def fnExactWeightedSumUptoCard : Claim7 := { stood := { row := fnExactWeightedSumUptoRow, standIns := [], harness := (true, "7396ebc1c2a08555bf83cdc4fa4f84cd2d8766664645359015f335d5204fd092"), looks := false }, kinds := [], alts := [], laidByText := true, laidKinds := [.data, .pinned], laidTests := true, laidLooks := .later }
def FnExactWeightedSumUptoCardSaid : Prop := Claim7.holds Tryd.pinned (.plain (OpenSpec.upto fnExactWeightedSumSpec)) fnExactWeightedSumUptoCard

/-- THE SECOND FORM's CARD OF 'laws.FnExactMeanLength'. -/
def fnExactMeanLengthUptoCard : Claim7 := { stood := { row := fnExactMeanLengthUptoRow, standIns := [], harness := (true, "7396ebc1c2a08555bf83cdc4fa4f84cd2d8766664645359015f335d5204fd092"), looks := false }, kinds := [], alts := [], laidByText := true, laidKinds := [.data, .pinned], laidTests := true, laidLooks := .later }
def FnExactMeanLengthUptoCardSaid : Prop := Claim7.holds Tryd.pinned (.plain (OpenSpec.upto fnExactMeanLengthSpec)) fnExactMeanLengthUptoCard

/-- THE SECOND FORM's CARD OF 'laws.FnExactFirstTooHeavy'. -/
def fnExactFirstTooHeavyUptoCard : Claim7 := { stood := { row := fnExactFirstTooHeavyUptoRow, standIns := [], harness := (true, "7396ebc1c2a08555bf83cdc4fa4f84cd2d8766664645359015f335d5204fd092"), looks := false }, kinds := [], alts := [], laidByText := true, laidKinds := [.data, .pinned], laidTests := true, laidLooks := .later }
def FnExactFirstTooHeavyUptoCardSaid : Prop := Claim7.holds Tryd.pinned (.plain (OpenSpec.upto fnExactFirstTooHeavySpec)) fnExactFirstTooHeavyUptoCard

/-- THE SECOND FORM's CARD OF 'laws.FnExactInnerWeight'. -/
def fnExactInnerWeightUptoCard : Claim7 := { stood := { row := fnExactInnerWeightUptoRow, standIns := [], harness := (true, "7396ebc1c2a08555bf83cdc4fa4f84cd2d8766664645359015f335d5204fd092"), looks := false }, kinds := [], alts := [], laidByText := true, laidKinds := [.data, .pinned], laidTests := true, laidLooks := .later }
def FnExactInnerWeightUptoCardSaid : Prop := Claim7.holds Tryd.pinned (.plain (OpenSpec.upto fnExactInnerWeightSpec)) fnExactInnerWeightUptoCard
end Rows
end Go.Proofs.YthhiegcdocjfkaaDoor
