/-
  DERIVED. GIVEN WITH THE SEED: THE CARDS: each row of YtampgpekhjhciaaDoorRows.lean that lists a variable, with what it lists TIED to the program's text (the seventh form; the later family's looks); each row that meets fmt, with fmt's text TOLD by the authors' own Lean function (tested against real Go, not proved from fmt's source: count such statements apart). THE CARD IS WHAT COUNTS. Prove the row's statement (the work); the ties are given (YtampgpekhjhciaaDoorTie.lean); close each card by the builder's one call (the guide's Derived/Test/ToyasCard.lean, 'card_holds'). Laid BY PROGRAM, IN A SANDBOX (cutbox-door.mjs). By AI agents, Wed Nov 11 2026. No macro, syntax, notation, axiom, sorry.
-/
import Derived.Test.YtampgpekhjhciaaDoorRows
import GoSem.ClaimSeven
namespace Go.Proofs.YtampgpekhjhciaaDoor
namespace Rows

/-- THE TIED CARD OF 'laws.FnExactKraftSum'. -/
def fnExactKraftSumCard : Claim7 := { stood := { row := fnExactKraftSumRow, standIns := [], harness := (true, "db92c95ee515920ba3040f2ea63fdb17bd61c446b278d1685e020bac32b004f0"), looks := true }, kinds := [], alts := [], laidByText := true, laidKinds := [.data, .pinned], laidTests := true, laidLooks := .later }
def FnExactKraftSumCardSaid : Prop := Claim7.holds Tryd.pinned (.plain (OpenSpec.ofChange fnExactKraftSumSpec)) fnExactKraftSumCard

/-- THE TIED CARD OF 'laws.FnExactSumOfLengths'. -/
def fnExactSumOfLengthsCard : Claim7 := { stood := { row := fnExactSumOfLengthsRow, standIns := [], harness := (true, "db92c95ee515920ba3040f2ea63fdb17bd61c446b278d1685e020bac32b004f0"), looks := true }, kinds := [], alts := [], laidByText := true, laidKinds := [.data, .pinned], laidTests := true, laidLooks := .later }
def FnExactSumOfLengthsCardSaid : Prop := Claim7.holds Tryd.pinned (.plain (OpenSpec.ofChange fnExactSumOfLengthsSpec)) fnExactSumOfLengthsCard

/-- THE TIED CARD OF 'laws.FnExactCanBePrefix'. -/
def fnExactCanBePrefixCard : Claim7 := { stood := { row := fnExactCanBePrefixRow, standIns := [], harness := (true, "db92c95ee515920ba3040f2ea63fdb17bd61c446b278d1685e020bac32b004f0"), looks := true }, kinds := [], alts := [], laidByText := true, laidKinds := [.data, .pinned], laidTests := true, laidLooks := .later }
def FnExactCanBePrefixCardSaid : Prop := Claim7.holds Tryd.pinned (.plain (OpenSpec.ofChange fnExactCanBePrefixSpec)) fnExactCanBePrefixCard

/-- THE TIED CARD OF 'laws.FnExactFirstPrefixCode'. -/
def fnExactFirstPrefixCodeCard : Claim7 := { stood := { row := fnExactFirstPrefixCodeRow, standIns := [], harness := (true, "db92c95ee515920ba3040f2ea63fdb17bd61c446b278d1685e020bac32b004f0"), looks := true }, kinds := [], alts := [], laidByText := true, laidKinds := [.data, .pinned], laidTests := true, laidLooks := .later }
def FnExactFirstPrefixCodeCardSaid : Prop := Claim7.holds Tryd.pinned (.plain (OpenSpec.ofChange fnExactFirstPrefixCodeSpec)) fnExactFirstPrefixCodeCard

/-- THE TIED CARD OF 'laws.FnExactRoomLeft'. -/
def fnExactRoomLeftCard : Claim7 := { stood := { row := fnExactRoomLeftRow, standIns := [], harness := (true, "db92c95ee515920ba3040f2ea63fdb17bd61c446b278d1685e020bac32b004f0"), looks := true }, kinds := [], alts := [], laidByText := true, laidKinds := [.data, .pinned], laidTests := true, laidLooks := .later }
def FnExactRoomLeftCardSaid : Prop := Claim7.holds Tryd.pinned (.plain (OpenSpec.ofChange fnExactRoomLeftSpec)) fnExactRoomLeftCard

/-- THE TIED CARD OF 'laws.FnExactSumsOfPowers'. -/
def fnExactSumsOfPowersCard : Claim7 := { stood := { row := fnExactSumsOfPowersRow, standIns := [], harness := (true, "db92c95ee515920ba3040f2ea63fdb17bd61c446b278d1685e020bac32b004f0"), looks := true }, kinds := [], alts := [], laidByText := true, laidKinds := [.data, .pinned], laidTests := true, laidLooks := .later }
def FnExactSumsOfPowersCardSaid : Prop := Claim7.holds Tryd.pinned (.plain (OpenSpec.ofChange fnExactSumsOfPowersSpec)) fnExactSumsOfPowersCard

/-- THE TIED CARD OF 'laws.FnExactIsMaximalPrefix'. -/
def fnExactIsMaximalPrefixCard : Claim7 := { stood := { row := fnExactIsMaximalPrefixRow, standIns := [], harness := (true, "db92c95ee515920ba3040f2ea63fdb17bd61c446b278d1685e020bac32b004f0"), looks := true }, kinds := [], alts := [], laidByText := true, laidKinds := [.data, .pinned], laidTests := true, laidLooks := .later }
def FnExactIsMaximalPrefixCardSaid : Prop := Claim7.holds Tryd.pinned (.plain (OpenSpec.ofChange fnExactIsMaximalPrefixSpec)) fnExactIsMaximalPrefixCard

/-- THE SECOND FORM's CARD OF 'laws.FnExactKraftSum'. -/
def fnExactKraftSumUptoCard : Claim7 := { stood := { row := fnExactKraftSumUptoRow, standIns := [], harness := (true, "db92c95ee515920ba3040f2ea63fdb17bd61c446b278d1685e020bac32b004f0"), looks := true }, kinds := [], alts := [], laidByText := true, laidKinds := [.data, .pinned], laidTests := true, laidLooks := .later }
def FnExactKraftSumUptoCardSaid : Prop := Claim7.holds Tryd.pinned (.plain (OpenSpec.upto fnExactKraftSumSpec)) fnExactKraftSumUptoCard

/-- THE SECOND FORM's CARD OF 'laws.FnExactSumOfLengths'. -/
def fnExactSumOfLengthsUptoCard : Claim7 := { stood := { row := fnExactSumOfLengthsUptoRow, standIns := [], harness := (true, "db92c95ee515920ba3040f2ea63fdb17bd61c446b278d1685e020bac32b004f0"), looks := true }, kinds := [], alts := [], laidByText := true, laidKinds := [.data, .pinned], laidTests := true, laidLooks := .later }
def FnExactSumOfLengthsUptoCardSaid : Prop := Claim7.holds Tryd.pinned (.plain (OpenSpec.upto fnExactSumOfLengthsSpec)) fnExactSumOfLengthsUptoCard

/-- THE SECOND FORM's CARD OF 'laws.FnExactCanBePrefix'. -/
def fnExactCanBePrefixUptoCard : Claim7 := { stood := { row := fnExactCanBePrefixUptoRow, standIns := [], harness := (true, "db92c95ee515920ba3040f2ea63fdb17bd61c446b278d1685e020bac32b004f0"), looks := true }, kinds := [], alts := [], laidByText := true, laidKinds := [.data, .pinned], laidTests := true, laidLooks := .later }
def FnExactCanBePrefixUptoCardSaid : Prop := Claim7.holds Tryd.pinned (.plain (OpenSpec.upto fnExactCanBePrefixSpec)) fnExactCanBePrefixUptoCard

/-- THE SECOND FORM's CARD OF 'laws.FnExactFirstPrefixCode'. -/
def fnExactFirstPrefixCodeUptoCard : Claim7 := { stood := { row := fnExactFirstPrefixCodeUptoRow, standIns := [], harness := (true, "db92c95ee515920ba3040f2ea63fdb17bd61c446b278d1685e020bac32b004f0"), looks := true }, kinds := [], alts := [], laidByText := true, laidKinds := [.data, .pinned], laidTests := true, laidLooks := .later }
def FnExactFirstPrefixCodeUptoCardSaid : Prop := Claim7.holds Tryd.pinned (.plain (OpenSpec.upto fnExactFirstPrefixCodeSpec)) fnExactFirstPrefixCodeUptoCard

/-- THE SECOND FORM's CARD OF 'laws.FnExactRoomLeft'. -/
def fnExactRoomLeftUptoCard : Claim7 := { stood := { row := fnExactRoomLeftUptoRow, standIns := [], harness := (true, "db92c95ee515920ba3040f2ea63fdb17bd61c446b278d1685e020bac32b004f0"), looks := true }, kinds := [], alts := [], laidByText := true, laidKinds := [.data, .pinned], laidTests := true, laidLooks := .later }
def FnExactRoomLeftUptoCardSaid : Prop := Claim7.holds Tryd.pinned (.plain (OpenSpec.upto fnExactRoomLeftSpec)) fnExactRoomLeftUptoCard

/-- THE SECOND FORM's CARD OF 'laws.FnExactSumsOfPowers'. -/
def fnExactSumsOfPowersUptoCard : Claim7 := { stood := { row := fnExactSumsOfPowersUptoRow, standIns := [], harness := (true, "db92c95ee515920ba3040f2ea63fdb17bd61c446b278d1685e020bac32b004f0"), looks := true }, kinds := [], alts := [], laidByText := true, laidKinds := [.data, .pinned], laidTests := true, laidLooks := .later }
def FnExactSumsOfPowersUptoCardSaid : Prop := Claim7.holds Tryd.pinned (.plain (OpenSpec.upto fnExactSumsOfPowersSpec)) fnExactSumsOfPowersUptoCard

/-- THE SECOND FORM's CARD OF 'laws.FnExactIsMaximalPrefix'. -/
def fnExactIsMaximalPrefixUptoCard : Claim7 := { stood := { row := fnExactIsMaximalPrefixUptoRow, standIns := [], harness := (true, "db92c95ee515920ba3040f2ea63fdb17bd61c446b278d1685e020bac32b004f0"), looks := true }, kinds := [], alts := [], laidByText := true, laidKinds := [.data, .pinned], laidTests := true, laidLooks := .later }
def FnExactIsMaximalPrefixUptoCardSaid : Prop := Claim7.holds Tryd.pinned (.plain (OpenSpec.upto fnExactIsMaximalPrefixSpec)) fnExactIsMaximalPrefixUptoCard
end Rows
end Go.Proofs.YtampgpekhjhciaaDoor
