/-
  DERIVED. GIVEN WITH THE SEED: THE CARDS: each row of YtcjhjkbijfpoaaaGreatDoorRows.lean that lists a variable, with what it lists TIED to the program's text (the seventh form; the later family's looks); each row that meets fmt, with fmt's text TOLD by the authors' own Lean function (tested against real Go, not proved from fmt's source: count such statements apart). THE CARD IS WHAT COUNTS. Prove the row's statement (the work); the ties are given (YtcjhjkbijfpoaaaGreatDoorTie.lean); close each card by the builder's one call (the guide's Derived/Test/ToyasCard.lean, 'card_holds'). Laid BY PROGRAM, IN A SANDBOX (cutbox-door.mjs). By AI agents, Wed Nov 11 2026. No macro, syntax, notation, axiom, sorry.
-/
import Derived.Test.YtcjhjkbijfpoaaaGreatDoorRows
import GoSem.ClaimSeven
namespace Go.Proofs.YtcjhjkbijfpoaaaGreatDoor
namespace Rows

/-- THE TIED CARD OF 'laws.FnExactFillPrefix'. -/
def fnExactFillPrefixCard : Claim7 := { stood := { row := fnExactFillPrefixRow, standIns := [], harness := (true, "875ca58039df0f7b150c2465371f25700aa09e975168df33fd9cdc447bdd1a49"), looks := true }, kinds := [], alts := [], laidByText := true, laidKinds := [.data, .pinned], laidTests := true, laidLooks := .later }
def FnExactFillPrefixCardSaid : Prop := Claim7.holds Tryz.pinned (.plain (OpenSpec.ofChange fnExactFillPrefixSpec)) fnExactFillPrefixCard

/-- THE SECOND FORM's CARD OF 'laws.FnExactFillPrefix'. -/
def fnExactFillPrefixUptoCard : Claim7 := { stood := { row := fnExactFillPrefixUptoRow, standIns := [], harness := (true, "875ca58039df0f7b150c2465371f25700aa09e975168df33fd9cdc447bdd1a49"), looks := true }, kinds := [], alts := [], laidByText := true, laidKinds := [.data, .pinned], laidTests := true, laidLooks := .later }
def FnExactFillPrefixUptoCardSaid : Prop := Claim7.holds Tryz.pinned (.plain (OpenSpec.upto fnExactFillPrefixSpec)) fnExactFillPrefixUptoCard
end Rows
end Go.Proofs.YtcjhjkbijfpoaaaGreatDoor
