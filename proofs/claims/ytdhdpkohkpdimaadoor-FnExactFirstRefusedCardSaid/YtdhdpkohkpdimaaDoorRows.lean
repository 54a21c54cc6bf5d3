/-
  NARROWER THAN 'FOR EVERY INPUT', by the rows' own cells (each row's printed sentence says how): FnExactLeftQuotient: laid · FnExactDanglingOf: laid · FnExactCountWritten: laid · FnExactIsCode: laid · FnExactGreatestCode: laid · FnExactFirstRefused: laid.
  DERIVED. THE GIVEN ROWS OF THIS SEAT. 6 by the template 'for every input the law returns true; each argument reads behind the call as it read before'; 0 by the template 'total and deterministic' (their statements: YtdhdpkohkpdimaaDoorTotals.lean).
  GIVEN WITH THE SEED: the statements are not yours to turn. If you find one false, say at which input.
  Laid BY PROGRAM, IN A SANDBOX (cutbox-rows.mjs): the forced cells as the released guide's own fill.sh prints them over the translation ea627941ff89d054… (all of the seat's roots in one cut). By AI agents, Wed Nov 11 2026. No macro, syntax, notation, axiom, sorry.
-/
import Derived.Test.YtdhdpkohkpdimaaDoorChecked
import GoSem.PinnedTables
import GoSem.Claim
import GoSem.ClaimJoined
import GoSem.ClaimMapViews
import Derived.JoinedTies
import Derived.KernelRfl
namespace Go.Proofs.YtdhdpkohkpdimaaDoor
/- THE CELL 'sum', in the pinned program and in every row, IS THE sha256 OF THE DUMP (.gsa) THAT YtdhdpkohkpdimaaDoorProg.lean LOADS. Nothing in Lean hashes anything: it is a label: what it is worth is what the hold of that sum in a sandbox is worth. -/
noncomputable def Tryd.pinned : Pinned := { name := "ytdhdpkohkpdimaadoor", sum := "ea627941ff89d05403d2ac2f89f0ca231263c1c0183d87bec638bf67c46ffd24", checked := Tryd.checked }
namespace Rows
def none {H : Type} : Left H := { results := [], args := [] }

/- WHAT THE LISTED PACKAGE-LEVEL VARIABLES READ AS WHEN THE CALL BEGINS. Each datum BY PROGRAM (the guide's laid-datum.mjs) off the statement by which the dump's own 'gosem.cut.vars' lays the variable. In a bare row this is a premise. The card (YtdhdpkohkpdimaaDoorCards.lean) ties it to the program's text. -/
def laid_unicode_utf8_acceptRanges {H : Type} : DataW H := .agg [.agg [.lit (.int .u8 128), .lit (.int .u8 191)], .agg [.lit (.int .u8 160), .lit (.int .u8 191)], .agg [.lit (.int .u8 128), .lit (.int .u8 159)], .agg [.lit (.int .u8 144), .lit (.int .u8 191)], .agg [.lit (.int .u8 128), .lit (.int .u8 143)], .agg [.lit (.int .u8 0), .lit (.int .u8 0)], .agg [.lit (.int .u8 0), .lit (.int .u8 0)], .agg [.lit (.int .u8 0), .lit (.int .u8 0)], .agg [.lit (.int .u8 0), .lit (.int .u8 0)], .agg [.lit (.int .u8 0), .lit (.int .u8 0)], .agg [.lit (.int .u8 0), .lit (.int .u8 0)], .agg [.lit (.int .u8 0), .lit (.int .u8 0)], .agg [.lit (.int .u8 0), .lit (.int .u8 0)], .agg [.lit (.int .u8 0), .lit (.int .u8 0)], .agg [.lit (.int .u8 0), .lit (.int .u8 0)], .agg [.lit (.int .u8 0), .lit (.int .u8 0)]]
/-- One of Go's own tables, pinned by name: the form's constant. -/
def laid_unicode_utf8_first : DataW Unit := Go.Pinned.utf8First

/-- 'laws.FnExactLeftQuotient': WHATEVER THE INPUT: true; the input reads as it did. -/
def fnExactLeftQuotientSpec : ChangeSpec := { name := "fnExactLeftQuotient", fn := fun _ => fun
  | [d1, d2] => { results := [.lit (.bool true)], args := [d1, d2] }
  | _ => none }
def fnExactLeftQuotientRow : OpenClaim := { program := "ytdhdpkohkpdimaadoor", sum := "ea627941ff89d05403d2ac2f89f0ca231263c1c0183d87bec638bf67c46ffd24", func := "loop.example/g01164/laws.FnExactLeftQuotient", spec := "fnExactLeftQuotient", inPlace := ["internal/bytealg.IndexByteString", "internal/bytealg.IndexString", "internal/bytealg.abigen_runtime_cmpstring"], unfollowed := true, recurses := true, named := ["unicode/utf8.first", "unicode/utf8.acceptRanges", "internal/bytealg.MaxLen"], apart := false, laid := [("unicode/utf8.acceptRanges", laid_unicode_utf8_acceptRanges), ("unicode/utf8.first", laid_unicode_utf8_first)] }
def FnExactLeftQuotientSaid : Prop := fnExactLeftQuotientRow.holds Tryd.pinned (OpenSpec.ofChange fnExactLeftQuotientSpec)

/-- ITS FALSE NEIGHBOUR: 'it returns false'. Refute it at one input. -/
def fnExactLeftQuotientWrong : ChangeSpec := { name := "fnExactLeftQuotient", fn := fun _ => fun
  | [d1, d2] => { results := [.lit (.bool false)], args := [d1, d2] }
  | _ => none }
def FnExactLeftQuotientWrongFalsely : Prop := fnExactLeftQuotientRow.holds Tryd.pinned (OpenSpec.ofChange fnExactLeftQuotientWrong)

/-- 'laws.FnExactDanglingOf': WHATEVER THE INPUT: true; the input reads as it did. -/
def fnExactDanglingOfSpec : ChangeSpec := { name := "fnExactDanglingOf", fn := fun _ => fun
  | [d] => { results := [.lit (.bool true)], args := [d] }
  | _ => none }
def fnExactDanglingOfRow : OpenClaim := { program := "ytdhdpkohkpdimaadoor", sum := "ea627941ff89d05403d2ac2f89f0ca231263c1c0183d87bec638bf67c46ffd24", func := "loop.example/g01164/laws.FnExactDanglingOf", spec := "fnExactDanglingOf", inPlace := ["internal/bytealg.IndexByteString", "internal/bytealg.IndexString", "internal/bytealg.abigen_runtime_cmpstring", "internal/abi.NoEscape", "internal/bytealg.MakeNoZero"], unfollowed := true, recurses := true, named := ["unicode/utf8.first", "unicode/utf8.acceptRanges", "internal/bytealg.MaxLen"], apart := false, laid := [("unicode/utf8.acceptRanges", laid_unicode_utf8_acceptRanges), ("unicode/utf8.first", laid_unicode_utf8_first)] }
def FnExactDanglingOfSaid : Prop := fnExactDanglingOfRow.holds Tryd.pinned (OpenSpec.ofChange fnExactDanglingOfSpec)

/-- ITS FALSE NEIGHBOUR: 'it returns false'. Refute it at one input. -/
def fnExactDanglingOfWrong : ChangeSpec := { name := "fnExactDanglingOf", fn := fun _ => fun
  | [d] => { results := [.lit (.bool false)], args := [d] }
  | _ => none }
def FnExactDanglingOfWrongFalsely : Prop := fnExactDanglingOfRow.holds Tryd.pinned (OpenSpec.ofChange fnExactDanglingOfWrong)

/-- 'laws.FnExactCountWritten': WHATEVER THE INPUT: true; the input reads as it did. -/
def fnExactCountWrittenSpec : ChangeSpec := { name := "fnExactCountWritten", fn := fun _ => fun
  | [d1, d2] => { results := [.lit (.bool true)], args := [d1, d2] }
  | _ => none }
def fnExactCountWrittenRow : OpenClaim := { program := "ytdhdpkohkpdimaadoor", sum := "ea627941ff89d05403d2ac2f89f0ca231263c1c0183d87bec638bf67c46ffd24", func := "loop.example/g01164/laws.FnExactCountWritten", spec := "fnExactCountWritten", inPlace := ["internal/bytealg.IndexByteString", "internal/bytealg.IndexString", "internal/bytealg.abigen_runtime_cmpstring"], unfollowed := true, recurses := true, named := ["unicode/utf8.first", "unicode/utf8.acceptRanges", "internal/bytealg.MaxLen"], apart := false, laid := [("unicode/utf8.acceptRanges", laid_unicode_utf8_acceptRanges), ("unicode/utf8.first", laid_unicode_utf8_first)] }
def FnExactCountWrittenSaid : Prop := fnExactCountWrittenRow.holds Tryd.pinned (OpenSpec.ofChange fnExactCountWrittenSpec)

/-- ITS FALSE NEIGHBOUR: 'it returns false'. Refute it at one input. -/
def fnExactCountWrittenWrong : ChangeSpec := { name := "fnExactCountWritten", fn := fun _ => fun
  | [d1, d2] => { results := [.lit (.bool false)], args := [d1, d2] }
  | _ => none }
def FnExactCountWrittenWrongFalsely : Prop := fnExactCountWrittenRow.holds Tryd.pinned (OpenSpec.ofChange fnExactCountWrittenWrong)

/-- 'laws.FnExactIsCode': WHATEVER THE INPUT: true; the input reads as it did. -/
def fnExactIsCodeSpec : ChangeSpec := { name := "fnExactIsCode", fn := fun _ => fun
  | [d] => { results := [.lit (.bool true)], args := [d] }
  | _ => none }
def fnExactIsCodeRow : OpenClaim := { program := "ytdhdpkohkpdimaadoor", sum := "ea627941ff89d05403d2ac2f89f0ca231263c1c0183d87bec638bf67c46ffd24", func := "loop.example/g01164/laws.FnExactIsCode", spec := "fnExactIsCode", inPlace := ["internal/bytealg.IndexByteString", "internal/bytealg.IndexString", "internal/bytealg.abigen_runtime_cmpstring"], unfollowed := true, recurses := true, named := ["unicode/utf8.first", "unicode/utf8.acceptRanges", "internal/bytealg.MaxLen"], apart := false, laid := [("unicode/utf8.acceptRanges", laid_unicode_utf8_acceptRanges), ("unicode/utf8.first", laid_unicode_utf8_first)] }
def FnExactIsCodeSaid : Prop := fnExactIsCodeRow.holds Tryd.pinned (OpenSpec.ofChange fnExactIsCodeSpec)

/-- ITS FALSE NEIGHBOUR: 'it returns false'. Refute it at one input. -/
def fnExactIsCodeWrong : ChangeSpec := { name := "fnExactIsCode", fn := fun _ => fun
  | [d] => { results := [.lit (.bool false)], args := [d] }
  | _ => none }
def FnExactIsCodeWrongFalsely : Prop := fnExactIsCodeRow.holds Tryd.pinned (OpenSpec.ofChange fnExactIsCodeWrong)

/-- 'laws.FnExactGreatestCode': WHATEVER THE INPUT: true; the input reads as it did. -/
def fnExactGreatestCodeSpec : ChangeSpec := { name := "fnExactGreatestCode", fn := fun _ => fun
  | [d] => { results := [.lit (.bool true)], args := [d] }
  | _ => none }
def fnExactGreatestCodeRow : OpenClaim := { program := "ytdhdpkohkpdimaadoor", sum := "ea627941ff89d05403d2ac2f89f0ca231263c1c0183d87bec638bf67c46ffd24", func := "loop.example/g01164/laws.FnExactGreatestCode", spec := "fnExactGreatestCode", inPlace := ["internal/bytealg.IndexByteString", "internal/bytealg.IndexString", "internal/bytealg.abigen_runtime_cmpstring"], unfollowed := true, recurses := true, named := ["unicode/utf8.first", "unicode/utf8.acceptRanges", "internal/bytealg.MaxLen"], apart := false, laid := [("unicode/utf8.acceptRanges", laid_unicode_utf8_acceptRanges), ("unicode/utf8.first", laid_unicode_utf8_first)] }
def FnExactGreatestCodeSaid : Prop := fnExactGreatestCodeRow.holds Tryd.pinned (OpenSpec.ofChange fnExactGreatestCodeSpec)

/-- ITS FALSE NEIGHBOUR: 'it returns false'. Refute it at one input. -/
def fnExactGreatestCodeWrong : ChangeSpec := { name := "fnExactGreatestCode", fn := fun _ => fun
  | [d] => { results := [.lit (.bool false)], args := [d] }
  | _ => none }
def FnExactGreatestCodeWrongFalsely : Prop := fnExactGreatestCodeRow.holds Tryd.pinned (OpenSpec.ofChange fnExactGreatestCodeWrong)

/-- 'laws.FnExactFirstRefused': WHATEVER THE INPUT: true; the input reads as it did. -/
def fnExactFirstRefusedSpec : ChangeSpec := { name := "fnExactFirstRefused", fn := fun _ => fun
  | [d] => { results := [.lit (.bool true)], args := [d] }
  | _ => none }
def fnExactFirstRefusedRow : OpenClaim := { program := "ytdhdpkohkpdimaadoor", sum := "ea627941ff89d05403d2ac2f89f0ca231263c1c0183d87bec638bf67c46ffd24", func := "loop.example/g01164/laws.FnExactFirstRefused", spec := "fnExactFirstRefused", inPlace := ["internal/bytealg.IndexByteString", "internal/bytealg.IndexString", "internal/bytealg.abigen_runtime_cmpstring"], unfollowed := true, recurses := true, named := ["unicode/utf8.first", "unicode/utf8.acceptRanges", "internal/bytealg.MaxLen"], apart := false, laid := [("unicode/utf8.acceptRanges", laid_unicode_utf8_acceptRanges), ("unicode/utf8.first", laid_unicode_utf8_first)] }
def FnExactFirstRefusedSaid : Prop := fnExactFirstRefusedRow.holds Tryd.pinned (OpenSpec.ofChange fnExactFirstRefusedSpec)

/-- ITS FALSE NEIGHBOUR: 'it returns false'. Refute it at one input. -/
def fnExactFirstRefusedWrong : ChangeSpec := { name := "fnExactFirstRefused", fn := fun _ => fun
  | [d] => { results := [.lit (.bool false)], args := [d] }
  | _ => none }
def FnExactFirstRefusedWrongFalsely : Prop := fnExactFirstRefusedRow.holds Tryd.pinned (OpenSpec.ofChange fnExactFirstRefusedWrong)

/- THE SECOND FORM. 'bulk': how many values and letters a reading holds, each counted each time it is reached (what is shared counts as often as it is met; a slice's spare places count too). A statement '..UptoSaid' is the law's where the arguments, and the package variables that the reading takes, are together of bulk at most 1048576: NARROWER than '..Said'. Prove '..Said' where nothing that the law and all that it calls make is longer than what came in: it says more and counts as full. Else prove '..UptoSaid'. A law counts once. -/
mutual
def uptoBulk {H : Type} : DataW H → Nat
  | .lit (.string bytes) => bytes.length + 1
  | .lit _ => 1
  | .nil => 1
  | .ptr d => uptoBulk d + 1
  | .slice elems spare => uptoBulkAll elems + uptoBulkAll spare + 1
  | .agg parts => uptoBulkAll parts + 1
  | .iface _ d => uptoBulk d + 1
  | .map entries => uptoBulkEntries entries + 1
  | .held _ => 1
def uptoBulkAll {H : Type} : List (DataW H) → Nat
  | [] => 0
  | d :: r => uptoBulk d + uptoBulkAll r
def uptoBulkEntries {H : Type} : List (Lit × DataW H) → Nat
  | [] => 0
  | x :: r => uptoBulkEntry x + uptoBulkEntries r
def uptoBulkEntry {H : Type} : Lit × DataW H → Nat
  | (.string bytes, d) => bytes.length + uptoBulk d + 1
  | (_, d) => uptoBulk d + 1
 end
def uptoSmall : (H : Type) → List (DataW H) → Bool := fun _ ds => decide (uptoBulkAll ds ≤ 1048576)
def OpenSpec.upto (s : _root_.Go.ChangeSpec) : _root_.Go.OpenSpec := { _root_.Go.OpenSpec.ofChange s with cond := some uptoSmall }

/-- 'laws.FnExactLeftQuotient', WHERE WHAT IT READS IS OF BULK AT MOST 1048576: true; the input reads as it did. -/
def fnExactLeftQuotientUptoRow : OpenClaim := { program := "ytdhdpkohkpdimaadoor", sum := "ea627941ff89d05403d2ac2f89f0ca231263c1c0183d87bec638bf67c46ffd24", func := "loop.example/g01164/laws.FnExactLeftQuotient", spec := "fnExactLeftQuotient", inPlace := ["internal/bytealg.IndexByteString", "internal/bytealg.IndexString", "internal/bytealg.abigen_runtime_cmpstring"], unfollowed := true, recurses := true, named := ["unicode/utf8.first", "unicode/utf8.acceptRanges", "internal/bytealg.MaxLen"], apart := false, laid := [("unicode/utf8.acceptRanges", laid_unicode_utf8_acceptRanges), ("unicode/utf8.first", laid_unicode_utf8_first)], narrowed := true }
def FnExactLeftQuotientUptoSaid : Prop := fnExactLeftQuotientUptoRow.holds Tryd.pinned (OpenSpec.upto fnExactLeftQuotientSpec)

/-- 'laws.FnExactDanglingOf', WHERE WHAT IT READS IS OF BULK AT MOST 1048576: true; the input reads as it did. -/
def fnExactDanglingOfUptoRow : OpenClaim := { program := "ytdhdpkohkpdimaadoor", sum := "ea627941ff89d05403d2ac2f89f0ca231263c1c0183d87bec638bf67c46ffd24", func := "loop.example/g01164/laws.FnExactDanglingOf", spec := "fnExactDanglingOf", inPlace := ["internal/bytealg.IndexByteString", "internal/bytealg.IndexString", "internal/bytealg.abigen_runtime_cmpstring", "internal/abi.NoEscape", "internal/bytealg.MakeNoZero"], unfollowed := true, recurses := true, named := ["unicode/utf8.first", "unicode/utf8.acceptRanges", "internal/bytealg.MaxLen"], apart := false, laid := [("unicode/utf8.acceptRanges", laid_unicode_utf8_acceptRanges), ("unicode/utf8.first", laid_unicode_utf8_first)], narrowed := true }
def FnExactDanglingOfUptoSaid : Prop := fnExactDanglingOfUptoRow.holds Tryd.pinned (OpenSpec.upto fnExactDanglingOfSpec)

/-- 'laws.FnExactCountWritten', WHERE WHAT IT READS IS OF BULK AT MOST 1048576: true; the input reads as it did. -/
def fnExactCountWrittenUptoRow : OpenClaim := { program := "ytdhdpkohkpdimaadoor", sum := "ea627941ff89d05403d2ac2f89f0ca231263c1c0183d87bec638bf67c46ffd24", func := "loop.example/g01164/laws.FnExactCountWritten", spec := "fnExactCountWritten", inPlace := ["internal/bytealg.IndexByteString", "internal/bytealg.IndexString", "internal/bytealg.abigen_runtime_cmpstring"], unfollowed := true, recurses := true, named := ["unicode/utf8.first", "unicode/utf8.acceptRanges", "internal/bytealg.MaxLen"], apart := false, laid := [("unicode/utf8.acceptRanges", laid_unicode_utf8_acceptRanges), ("unicode/utf8.first", laid_unicode_utf8_first)], narrowed := true }
def FnExactCountWrittenUptoSaid : Prop := fnExactCountWrittenUptoRow.holds Tryd.pinned (OpenSpec.upto fnExactCountWrittenSpec)

/-- 'laws.FnExactIsCode', WHERE WHAT IT READS IS OF BULK AT MOST 1048576: true; the input reads as it did. -/
def fnExactIsCodeUptoRow : OpenClaim := { program := "ytdhdpkohkpdimaadoor", sum := "ea627941ff89d05403d2ac2f89f0ca231263c1c0183d87bec638bf67c46ffd24", func := "loop.example/g01164/laws.FnExactIsCode", spec := "fnExactIsCode", inPlace := ["internal/bytealg.IndexByteString", "internal/bytealg.IndexString", "internal/bytealg.abigen_runtime_cmpstring"], unfollowed := true, recurses := true, named := ["unicode/utf8.first", "unicode/utf8.acceptRanges", "internal/bytealg.MaxLen"], apart := false, laid := [("unicode/utf8.acceptRanges", laid_unicode_utf8_acceptRanges), ("unicode/utf8.first", laid_unicode_utf8_first)], narrowed := true }
def FnExactIsCodeUptoSaid : Prop := fnExactIsCodeUptoRow.holds Tryd.pinned (OpenSpec.upto fnExactIsCodeSpec)

/-- 'laws.FnExactGreatestCode', WHERE WHAT IT READS IS OF BULK AT MOST 1048576: true; the input reads as it did. -/
def fnExactGreatestCodeUptoRow : OpenClaim := { program := "ytdhdpkohkpdimaadoor", sum := "ea627941ff89d05403d2ac2f89f0ca231263c1c0183d87bec638bf67c46ffd24", func := "loop.example/g01164/laws.FnExactGreatestCode", spec := "fnExactGreatestCode", inPlace := ["internal/bytealg.IndexByteString", "internal/bytealg.IndexString", "internal/bytealg.abigen_runtime_cmpstring"], unfollowed := true, recurses := true, named := ["unicode/utf8.first", "unicode/utf8.acceptRanges", "internal/bytealg.MaxLen"], apart := false, laid := [("unicode/utf8.acceptRanges", laid_unicode_utf8_acceptRanges), ("unicode/utf8.first", laid_unicode_utf8_first)], narrowed := true }
def FnExactGreatestCodeUptoSaid : Prop := fnExactGreatestCodeUptoRow.holds Tryd.pinned (OpenSpec.upto fnExactGreatestCodeSpec)

/-- 'laws.FnExactFirstRefused', WHERE WHAT IT READS IS OF BULK AT MOST 1048576: true; the input reads as it did. -/
def fnExactFirstRefusedUptoRow : OpenClaim := { program := "ytdhdpkohkpdimaadoor", sum := "ea627941ff89d05403d2ac2f89f0ca231263c1c0183d87bec638bf67c46ffd24", func := "loop.example/g01164/laws.FnExactFirstRefused", spec := "fnExactFirstRefused", inPlace := ["internal/bytealg.IndexByteString", "internal/bytealg.IndexString", "internal/bytealg.abigen_runtime_cmpstring"], unfollowed := true, recurses := true, named := ["unicode/utf8.first", "unicode/utf8.acceptRanges", "internal/bytealg.MaxLen"], apart := false, laid := [("unicode/utf8.acceptRanges", laid_unicode_utf8_acceptRanges), ("unicode/utf8.first", laid_unicode_utf8_first)], narrowed := true }
def FnExactFirstRefusedUptoSaid : Prop := fnExactFirstRefusedUptoRow.holds Tryd.pinned (OpenSpec.upto fnExactFirstRefusedSpec)

end Rows
end Go.Proofs.YtdhdpkohkpdimaaDoor
