/-
  DERIVED. GIVEN WITH THE SEED: THE CARDS: each row of YtjopbmhldpcpdaaDoorRows.lean that lists a variable, with what it lists TIED to the program's text (the seventh form; the later family's looks); each row that meets fmt, with fmt's text TOLD by the authors' own Lean function (tested against real Go, not proved from fmt's source: count such statements apart). THE CARD IS WHAT COUNTS. Prove the row's statement (the work); the ties are given (YtjopbmhldpcpdaaDoorTie.lean); close each card by the builder's one call (the guide's Derived/Test/ToyasCard.lean, 'card_holds'). Laid BY PROGRAM, IN A SANDBOX (cutbox-door.mjs). By AI agents, Wed Nov 11 2026. No macro, syntax, notation, axiom, sorry.
-/
import Derived.Test.YtjopbmhldpcpdaaDoorRows
import GoSem.ClaimSeven
namespace Go.Proofs.YtjopbmhldpcpdaaDoor
namespace Rows

/-- THE TIED CARD OF 'laws.FnExactKraftSum'. -/
def fnExactKraftSumCard : Claim7 := { stood := { row := fnExactKraftSumRow, standIns := [], harness := (true, "154c7d7acbddb82bc162042eba8eb4bda79a36cbbc4768f4be9bdc260ca9c56c"), looks := true }, kinds := [], alts := [], laidByText := true, laidKinds := [.data, .pinned], laidTests := true, laidLooks := .later }
def FnExactKraftSumCardSaid : Prop := Claim7.holds Tryd.pinned (.plain (OpenSpec.ofChange fnExactKraftSumSpec)) fnExactKraftSumCard

/-- THE TIED CARD OF 'laws.FnExactSumOfLengths'. -/
def fnExactSumOfLengthsCard : Claim7 := { stood := { row := fnExactSumOfLengthsRow, standIns := [], harness := (true, "154c7d7acbddb82bc162042eba8eb4bda79a36cbbc4768f4be9bdc260ca9c56c"), looks := true }, kinds := [], alts := [], laidByText := true, laidKinds := [.data, .pinned], laidTests := true, laidLooks := .later }
def FnExactSumOfLengthsCardSaid : Prop := Claim7.holds Tryd.pinned (.plain (OpenSpec.ofChange fnExactSumOfLengthsSpec)) fnExactSumOfLengthsCard

/-- THE SECOND FORM's CARD OF 'laws.FnExactKraftSum'. -/
def fnExactKraftSumUptoCard : Claim7 := { stood := { row := fnExactKraftSumUptoRow, standIns := [], harness := (true, "154c7d7acbddb82bc162042eba8eb4bda79a36cbbc4768f4be9bdc260ca9c56c"), looks := true }, kinds := [], alts := [], laidByText := true, laidKinds := [.data, .pinned], laidTests := true, laidLooks := .later }
def FnExactKraftSumUptoCardSaid : Prop := Claim7.holds Tryd.pinned (.plain (OpenSpec.upto fnExactKraftSumSpec)) fnExactKraftSumUptoCard

/-- THE SECOND FORM's CARD OF 'laws.FnExactSumOfLengths'. -/
def fnExactSumOfLengthsUptoCard : Claim7 := { stood := { row := fnExactSumOfLengthsUptoRow, standIns := [], harness := (true, "154c7d7acbddb82bc162042eba8eb4bda79a36cbbc4768f4be9bdc260ca9c56c"), looks := true }, kinds := [], alts := [], laidByText := true, laidKinds := [.data, .pinned], laidTests := true, laidLooks := .later }
def FnExactSumOfLengthsUptoCardSaid : Prop := Claim7.holds Tryd.pinned (.plain (OpenSpec.upto fnExactSumOfLengthsSpec)) fnExactSumOfLengthsUptoCard
end Rows
end Go.Proofs.YtjopbmhldpcpdaaDoor
