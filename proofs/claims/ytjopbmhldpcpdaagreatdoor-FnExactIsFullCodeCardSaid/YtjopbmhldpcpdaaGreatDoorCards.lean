/-
  DERIVED. GIVEN WITH THE SEED: THE CARDS: each row of YtjopbmhldpcpdaaGreatDoorRows.lean that lists a variable, with what it lists TIED to the program's text (the seventh form; the later family's looks); each row that meets fmt, with fmt's text TOLD by the authors' own Lean function (tested against real Go, not proved from fmt's source: count such statements apart). THE CARD IS WHAT COUNTS. Prove the row's statement (the work); the ties are given (YtjopbmhldpcpdaaGreatDoorTie.lean); close each card by the builder's one call (the guide's Derived/Test/ToyasCard.lean, 'card_holds'). Laid BY PROGRAM, IN A SANDBOX (cutbox-door.mjs). By AI agents, Wed Nov 11 2026. No macro, syntax, notation, axiom, sorry.
-/
import Derived.Test.YtjopbmhldpcpdaaGreatDoorRows
import GoSem.ClaimSeven
namespace Go.Proofs.YtjopbmhldpcpdaaGreatDoor
namespace Rows

/-- THE TIED CARD OF 'laws.FnExactIsFullCode'. -/
def fnExactIsFullCodeCard : Claim7 := { stood := { row := fnExactIsFullCodeRow, standIns := [], harness := (true, "56643dc1594d311a5ab73de251ae153e017fa29ce088c2298911b0fccb85ef66"), looks := true }, kinds := [], alts := [], laidByText := true, laidKinds := [.data, .pinned], laidTests := true, laidLooks := .later }
def FnExactIsFullCodeCardSaid : Prop := Claim7.holds Tryz.pinned (.plain (OpenSpec.ofChange fnExactIsFullCodeSpec)) fnExactIsFullCodeCard

/-- THE SECOND FORM's CARD OF 'laws.FnExactIsFullCode'. -/
def fnExactIsFullCodeUptoCard : Claim7 := { stood := { row := fnExactIsFullCodeUptoRow, standIns := [], harness := (true, "56643dc1594d311a5ab73de251ae153e017fa29ce088c2298911b0fccb85ef66"), looks := true }, kinds := [], alts := [], laidByText := true, laidKinds := [.data, .pinned], laidTests := true, laidLooks := .later }
def FnExactIsFullCodeUptoCardSaid : Prop := Claim7.holds Tryz.pinned (.plain (OpenSpec.upto fnExactIsFullCodeSpec)) fnExactIsFullCodeUptoCard
end Rows
end Go.Proofs.YtjopbmhldpcpdaaGreatDoor
