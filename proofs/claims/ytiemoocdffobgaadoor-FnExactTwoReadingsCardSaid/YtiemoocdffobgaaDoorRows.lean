/-
  NARROWER THAN 'FOR EVERY INPUT', by the rows' own cells (each row's printed sentence says how): FnExactIsCode: laid · FnExactCountWritten: laid · FnExactGreatestCode: laid · FnExactFirstRefused: laid · FnExactShortestDouble: laid · FnExactTwoReadings: laid.
  DERIVED. THE GIVEN ROWS OF THIS SEAT. 6 by the template 'for every input the law returns true; each argument reads behind the call as it read before'; 0 by the template 'total and deterministic' (their statements: YtiemoocdffobgaaDoorTotals.lean).
  GIVEN WITH THE SEED: the statements are not yours to turn. If you find one false, say at which input.
  Laid BY PROGRAM, IN A SANDBOX (cutbox-rows.mjs): the forced cells as the released guide's own fill.sh prints them over the translation 46e6e96832bea36e… (all of the seat's roots in one cut). By AI agents, Wed Nov 11 2026. No macro, syntax, notation, axiom, sorry.
-/
import Derived.Test.YtiemoocdffobgaaDoorChecked
import GoSem.PinnedTables
import GoSem.Claim
import GoSem.ClaimJoined
import GoSem.ClaimMapViews
import Derived.JoinedTies
import Derived.KernelRfl
namespace Go.Proofs.YtiemoocdffobgaaDoor
/- THE CELL 'sum', in the pinned program and in every row, IS THE sha256 OF THE DUMP (.gsa) THAT YtiemoocdffobgaaDoorProg.lean LOADS. Nothing in Lean hashes anything: it is a label: what it is worth is what the hold of that sum in a sandbox is worth. -/
noncomputable def Tryd.pinned : Pinned := { name := "ytiemoocdffobgaadoor", sum := "46e6e96832bea36e6f455135dc2ea006ef644b7e7d1830707cbf5b0d64405cea", checked := Tryd.checked }
namespace Rows
def none {H : Type} : Left H := { results := [], args := [] }

/- WHAT THE LISTED PACKAGE-LEVEL VARIABLES READ AS WHEN THE CALL BEGINS. Each datum BY PROGRAM (the guide's laid-datum.mjs) off the statement by which the dump's own 'gosem.cut.vars' lays the variable. In a bare row this is a premise. The card (YtiemoocdffobgaaDoorCards.lean) ties it to the program's text. -/
def laid_unicode_utf8_acceptRanges {H : Type} : DataW H := .agg [.agg [.lit (.int .u8 128), .lit (.int .u8 191)], .agg [.lit (.int .u8 160), .lit (.int .u8 191)], .agg [.lit (.int .u8 128), .lit (.int .u8 159)], .agg [.lit (.int .u8 144), .lit (.int .u8 191)], .agg [.lit (.int .u8 128), .lit (.int .u8 143)], .agg [.lit (.int .u8 0), .lit (.int .u8 0)], .agg [.lit (.int .u8 0), .lit (.int .u8 0)], .agg [.lit (.int .u8 0), .lit (.int .u8 0)], .agg [.lit (.int .u8 0), .lit (.int .u8 0)], .agg [.lit (.int .u8 0), .lit (.int .u8 0)], .agg [.lit (.int .u8 0), .lit (.int .u8 0)], .agg [.lit (.int .u8 0), .lit (.int .u8 0)], .agg [.lit (.int .u8 0), .lit (.int .u8 0)], .agg [.lit (.int .u8 0), .lit (.int .u8 0)], .agg [.lit (.int .u8 0), .lit (.int .u8 0)], .agg [.lit (.int .u8 0), .lit (.int .u8 0)]]
/-- One of Go's own tables, pinned by name: the form's constant. -/
def laid_unicode_utf8_first : DataW Unit := Go.Pinned.utf8First

/-- 'laws.FnExactIsCode': WHATEVER THE INPUT: true; the input reads as it did. -/
def fnExactIsCodeSpec : ChangeSpec := { name := "fnExactIsCode", fn := fun _ => fun
  | [d] => { results := [.lit (.bool true)], args := [d] }
  | _ => none }
def fnExactIsCodeRow : OpenClaim := { program := "ytiemoocdffobgaadoor", sum := "46e6e96832bea36e6f455135dc2ea006ef644b7e7d1830707cbf5b0d64405cea", func := "loop.example/g01164/laws.FnExactIsCode", spec := "fnExactIsCode", inPlace := ["internal/bytealg.IndexByteString", "internal/bytealg.IndexString", "internal/bytealg.abigen_runtime_cmpstring"], unfollowed := true, recurses := true, named := ["unicode/utf8.first", "unicode/utf8.acceptRanges", "internal/bytealg.MaxLen"], apart := false, laid := [("unicode/utf8.acceptRanges", laid_unicode_utf8_acceptRanges), ("unicode/utf8.first", laid_unicode_utf8_first)] }
def FnExactIsCodeSaid : Prop := fnExactIsCodeRow.holds Tryd.pinned (OpenSpec.ofChange fnExactIsCodeSpec)

/-- ITS FALSE NEIGHBOUR: 'it returns false'. Refute it at one input. -/
def fnExactIsCodeWrong : ChangeSpec := { name := "fnExactIsCode", fn := fun _ => fun
  | [d] => { results := [.lit (.bool false)], args := [d] }
  | _ => none }
def FnExactIsCodeWrongFalsely : Prop := fnExactIsCodeRow.holds Tryd.pinned (OpenSpec.ofChange fnExactIsCodeWrong)

/-- 'laws.FnExactCountWritten': WHATEVER THE INPUT: true; the input reads as it did. -/
def fnExactCountWrittenSpec : ChangeSpec := { name := "fnExactCountWritten", fn := fun _ => fun
  | [d1, d2] => { results := [.lit (.bool true)], args := [d1, d2] }
  | _ => none }
def fnExactCountWrittenRow : OpenClaim := { program := "ytiemoocdffobgaadoor", sum := "46e6e96832bea36e6f455135dc2ea006ef644b7e7d1830707cbf5b0d64405cea", func := "loop.example/g01164/laws.FnExactCountWritten", spec := "fnExactCountWritten", inPlace := ["internal/bytealg.IndexByteString", "internal/bytealg.IndexString", "internal/bytealg.abigen_runtime_cmpstring"], unfollowed := true, recurses := true, named := ["unicode/utf8.first", "unicode/utf8.acceptRanges", "internal/bytealg.MaxLen"], apart := false, laid := [("unicode/utf8.acceptRanges", laid_unicode_utf8_acceptRanges), ("unicode/utf8.first", laid_unicode_utf8_first)] }
def FnExactCountWrittenSaid : Prop := fnExactCountWrittenRow.holds Tryd.pinned (OpenSpec.ofChange fnExactCountWrittenSpec)

/-- ITS FALSE NEIGHBOUR: 'it returns false'. Refute it at one input. -/
def fnExactCountWrittenWrong : ChangeSpec := { name := "fnExactCountWritten", fn := fun _ => fun
  | [d1, d2] => { results := [.lit (.bool false)], args := [d1, d2] }
  | _ => none }
def FnExactCountWrittenWrongFalsely : Prop := fnExactCountWrittenRow.holds Tryd.pinned (OpenSpec.ofChange fnExactCountWrittenWrong)

/-- 'laws.FnExactGreatestCode': WHATEVER THE INPUT: true; the input reads as it did. -/
def fnExactGreatestCodeSpec : ChangeSpec := { name := "fnExactGreatestCode", fn := fun _ => fun
  | [d] => { results := [.lit (.bool true)], args := [d] }
  | _ => none }
def fnExactGreatestCodeRow : OpenClaim := { program := "ytiemoocdffobgaadoor", sum := "46e6e96832bea36e6f455135dc2ea006ef644b7e7d1830707cbf5b0d64405cea", func := "loop.example/g01164/laws.FnExactGreatestCode", spec := "fnExactGreatestCode", inPlace := ["internal/bytealg.IndexByteString", "internal/bytealg.IndexString", "internal/bytealg.abigen_runtime_cmpstring"], unfollowed := true, recurses := true, named := ["unicode/utf8.first", "unicode/utf8.acceptRanges", "internal/bytealg.MaxLen"], apart := false, laid := [("unicode/utf8.acceptRanges", laid_unicode_utf8_acceptRanges), ("unicode/utf8.first", laid_unicode_utf8_first)] }
def FnExactGreatestCodeSaid : Prop := fnExactGreatestCodeRow.holds Tryd.pinned (OpenSpec.ofChange fnExactGreatestCodeSpec)

/-- ITS FALSE NEIGHBOUR: 'it returns false'. Refute it at one input. -/
def fnExactGreatestCodeWrong : ChangeSpec := { name := "fnExactGreatestCode", fn := fun _ => fun
  | [d] => { results := [.lit (.bool false)], args := [d] }
  | _ => none }
def FnExactGreatestCodeWrongFalsely : Prop := fnExactGreatestCodeRow.holds Tryd.pinned (OpenSpec.ofChange fnExactGreatestCodeWrong)

/-- 'laws.FnExactFirstRefused': WHATEVER THE INPUT: true; the input reads as it did. -/
def fnExactFirstRefusedSpec : ChangeSpec := { name := "fnExactFirstRefused", fn := fun _ => fun
  | [d] => { results := [.lit (.bool true)], args := [d] }
  | _ => none }
def fnExactFirstRefusedRow : OpenClaim := { program := "ytiemoocdffobgaadoor", sum := "46e6e96832bea36e6f455135dc2ea006ef644b7e7d1830707cbf5b0d64405cea", func := "loop.example/g01164/laws.FnExactFirstRefused", spec := "fnExactFirstRefused", inPlace := ["internal/bytealg.IndexByteString", "internal/bytealg.IndexString", "internal/bytealg.abigen_runtime_cmpstring"], unfollowed := true, recurses := true, named := ["unicode/utf8.first", "unicode/utf8.acceptRanges", "internal/bytealg.MaxLen"], apart := false, laid := [("unicode/utf8.acceptRanges", laid_unicode_utf8_acceptRanges), ("unicode/utf8.first", laid_unicode_utf8_first)] }
def FnExactFirstRefusedSaid : Prop := fnExactFirstRefusedRow.holds Tryd.pinned (OpenSpec.ofChange fnExactFirstRefusedSpec)

/-- ITS FALSE NEIGHBOUR: 'it returns false'. Refute it at one input. -/
def fnExactFirstRefusedWrong : ChangeSpec := { name := "fnExactFirstRefused", fn := fun _ => fun
  | [d] => { results := [.lit (.bool false)], args := [d] }
  | _ => none }
def FnExactFirstRefusedWrongFalsely : Prop := fnExactFirstRefusedRow.holds Tryd.pinned (OpenSpec.ofChange fnExactFirstRefusedWrong)

/-- 'laws.FnExactShortestDouble': WHATEVER THE INPUT: true; the input reads as it did. -/
def fnExactShortestDoubleSpec : ChangeSpec := { name := "fnExactShortestDouble", fn := fun _ => fun
  | [d] => { results := [.lit (.bool true)], args := [d] }
  | _ => none }
def fnExactShortestDoubleRow : OpenClaim := { program := "ytiemoocdffobgaadoor", sum := "46e6e96832bea36e6f455135dc2ea006ef644b7e7d1830707cbf5b0d64405cea", func := "loop.example/g01164/laws.FnExactShortestDouble", spec := "fnExactShortestDouble", inPlace := ["internal/bytealg.IndexByteString", "internal/bytealg.IndexString", "internal/bytealg.abigen_runtime_cmpstring"], unfollowed := true, recurses := true, named := ["unicode/utf8.first", "unicode/utf8.acceptRanges", "internal/bytealg.MaxLen"], apart := false, laid := [("unicode/utf8.acceptRanges", laid_unicode_utf8_acceptRanges), ("unicode/utf8.first", laid_unicode_utf8_first)] }
def FnExactShortestDoubleSaid : Prop := fnExactShortestDoubleRow.holds Tryd.pinned (OpenSpec.ofChange fnExactShortestDoubleSpec)

/-- ITS FALSE NEIGHBOUR: 'it returns false'. Refute it at one input. -/
def fnExactShortestDoubleWrong : ChangeSpec := { name := "fnExactShortestDouble", fn := fun _ => fun
  | [d] => { results := [.lit (.bool false)], args := [d] }
  | _ => none }
def FnExactShortestDoubleWrongFalsely : Prop := fnExactShortestDoubleRow.holds Tryd.pinned (OpenSpec.ofChange fnExactShortestDoubleWrong)

/-- 'laws.FnExactTwoReadings': WHATEVER THE INPUT: true; the input reads as it did. -/
def fnExactTwoReadingsSpec : ChangeSpec := { name := "fnExactTwoReadings", fn := fun _ => fun
  | [d] => { results := [.lit (.bool true)], args := [d] }
  | _ => none }
def fnExactTwoReadingsRow : OpenClaim := { program := "ytiemoocdffobgaadoor", sum := "46e6e96832bea36e6f455135dc2ea006ef644b7e7d1830707cbf5b0d64405cea", func := "loop.example/g01164/laws.FnExactTwoReadings", spec := "fnExactTwoReadings", inPlace := ["internal/bytealg.IndexByteString", "internal/bytealg.IndexString", "internal/bytealg.abigen_runtime_cmpstring"], unfollowed := true, recurses := true, named := ["unicode/utf8.first", "unicode/utf8.acceptRanges", "internal/bytealg.MaxLen"], apart := false, laid := [("unicode/utf8.acceptRanges", laid_unicode_utf8_acceptRanges), ("unicode/utf8.first", laid_unicode_utf8_first)] }
def FnExactTwoReadingsSaid : Prop := fnExactTwoReadingsRow.holds Tryd.pinned (OpenSpec.ofChange fnExactTwoReadingsSpec)

/-- ITS FALSE NEIGHBOUR: 'it returns false'. Refute it at one input. -/
def fnExactTwoReadingsWrong : ChangeSpec := { name := "fnExactTwoReadings", fn := fun _ => fun
  | [d] => { results := [.lit (.bool false)], args := [d] }
  | _ => none }
def FnExactTwoReadingsWrongFalsely : Prop := fnExactTwoReadingsRow.holds Tryd.pinned (OpenSpec.ofChange fnExactTwoReadingsWrong)

/- THE SECOND FORM. 'bulk': how many values and letters a reading holds, each counted each time it is reached (what is shared counts as often as it is met; a slice's spare places count too). A statement '..UptoSaid' is the law's where the arguments, and the package variables that the reading takes, are together of bulk at most 1048576: NARROWER than '..Said'. Prove '..Said' where nothing that the law and all that it calls make is longer than what came in: it says more and counts as full. Else prove '..UptoSaid'. A law counts once. -/
mutual
def uptoBulk {H : Type} : DataW H → Nat
  | .lit (.string bytes) => bytes.length + 1
  | .lit _ => 1
  | .nil => 1
  | .ptr d => uptoBulk d + 1
  | .slice elems spare => uptoBulkAll elems + uptoBulkAll spare + 1
  | .agg parts => uptoBulkAll parts + 1
  | .iface _ d => uptoBulk d + 1
  | .map entries => uptoBulkEntries entries + 1
  | .held _ => 1
def uptoBulkAll {H : Type} : List (DataW H) → Nat
  | [] => 0
  | d :: r => uptoBulk d + uptoBulkAll r
def uptoBulkEntries {H : Type} : List (Lit × DataW H) → Nat
  | [] => 0
  | x :: r => uptoBulkEntry x + uptoBulkEntries r
def uptoBulkEntry {H : Type} : Lit × DataW H → Nat
  | (.string bytes, d) => bytes.length + uptoBulk d + 1
  | (_, d) => uptoBulk d + 1
 end
def uptoSmall : (H : Type) → List (DataW H) → Bool := fun _ ds => decide (uptoBulkAll ds ≤ 1048576)
def OpenSpec.upto (s : _root_.Go.ChangeSpec) : _root_.Go.OpenSpec := { _root_.Go.OpenSpec.ofChange s with cond := some uptoSmall }

/-- 'laws.FnExactIsCode', WHERE WHAT IT READS IS OF BULK AT MOST 1048576: true; the input reads as it did. -/
def fnExactIsCodeUptoRow : OpenClaim := { program := "ytiemoocdffobgaadoor", sum := "46e6e96832bea36e6f455135dc2ea006ef644b7e7d1830707cbf5b0d64405cea", func := "loop.example/g01164/laws.FnExactIsCode", spec := "fnExactIsCode", inPlace := ["internal/bytealg.IndexByteString", "internal/bytealg.IndexString", "internal/bytealg.abigen_runtime_cmpstring"], unfollowed := true, recurses := true, named := ["unicode/utf8.first", "unicode/utf8.acceptRanges", "internal/bytealg.MaxLen"], apart := false, laid := [("unicode/utf8.acceptRanges", laid_unicode_utf8_acceptRanges), ("unicode/utf8.first", laid_unicode_utf8_first)], narrowed := true }
def FnExactIsCodeUptoSaid : Prop := fnExactIsCodeUptoRow.holds Tryd.pinned (OpenSpec.upto fnExactIsCodeSpec)

/-- 'laws.FnExactCountWritten', WHERE WHAT IT READS IS OF BULK AT MOST 1048576: true; the input reads as it did. -/
def fnExactCountWrittenUptoRow : OpenClaim := { program := "ytiemoocdffobgaadoor", sum := "46e6e96832bea36e6f455135dc2ea006ef644b7e7d1830707cbf5b0d64405cea", func := "loop.example/g01164/laws.FnExactCountWritten", spec := "fnExactCountWritten", inPlace := ["internal/bytealg.IndexByteString", "internal/bytealg.IndexString", "internal/bytealg.abigen_runtime_cmpstring"], unfollowed := true, recurses := true, named := ["unicode/utf8.first", "unicode/utf8.acceptRanges", "internal/bytealg.MaxLen"], apart := false, laid := [("unicode/utf8.acceptRanges", laid_unicode_utf8_acceptRanges), ("unicode/utf8.first", laid_unicode_utf8_first)], narrowed := true }
def FnExactCountWrittenUptoSaid : Prop := fnExactCountWrittenUptoRow.holds Tryd.pinned (OpenSpec.upto fnExactCountWrittenSpec)

/-- 'laws.FnExactGreatestCode', WHERE WHAT IT READS IS OF BULK AT MOST 1048576: true; the input reads as it did. -/
def fnExactGreatestCodeUptoRow : OpenClaim := { program := "ytiemoocdffobgaadoor", sum := "46e6e96832bea36e6f455135dc2ea006ef644b7e7d1830707cbf5b0d64405cea", func := "loop.example/g01164/laws.FnExactGreatestCode", spec := "fnExactGreatestCode", inPlace := ["internal/bytealg.IndexByteString", "internal/bytealg.IndexString", "internal/bytealg.abigen_runtime_cmpstring"], unfollowed := true, recurses := true, named := ["unicode/utf8.first", "unicode/utf8.acceptRanges", "internal/bytealg.MaxLen"], apart := false, laid := [("unicode/utf8.acceptRanges", laid_unicode_utf8_acceptRanges), ("unicode/utf8.first", laid_unicode_utf8_first)], narrowed := true }
def FnExactGreatestCodeUptoSaid : Prop := fnExactGreatestCodeUptoRow.holds Tryd.pinned (OpenSpec.upto fnExactGreatestCodeSpec)

/-- 'laws.FnExactFirstRefused', WHERE WHAT IT READS IS OF BULK AT MOST 1048576: true; the input reads as it did. -/
def fnExactFirstRefusedUptoRow : OpenClaim := { program := "ytiemoocdffobgaadoor", sum := "46e6e96832bea36e6f455135dc2ea006ef644b7e7d1830707cbf5b0d64405cea", func := "loop.example/g01164/laws.FnExactFirstRefused", spec := "fnExactFirstRefused", inPlace := ["internal/bytealg.IndexByteString", "internal/bytealg.IndexString", "internal/bytealg.abigen_runtime_cmpstring"], unfollowed := true, recurses := true, named := ["unicode/utf8.first", "unicode/utf8.acceptRanges", "internal/bytealg.MaxLen"], apart := false, laid := [("unicode/utf8.acceptRanges", laid_unicode_utf8_acceptRanges), ("unicode/utf8.first", laid_unicode_utf8_first)], narrowed := true }
def FnExactFirstRefusedUptoSaid : Prop := fnExactFirstRefusedUptoRow.holds Tryd.pinned (OpenSpec.upto fnExactFirstRefusedSpec)

/-- 'laws.FnExactShortestDouble', WHERE WHAT IT READS IS OF BULK AT MOST 1048576: true; the input reads as it did. -/
def fnExactShortestDoubleUptoRow : OpenClaim := { program := "ytiemoocdffobgaadoor", sum := "46e6e96832bea36e6f455135dc2ea006ef644b7e7d1830707cbf5b0d64405cea", func := "loop.example/g01164/laws.FnExactShortestDouble", spec := "fnExactShortestDouble", inPlace := ["internal/bytealg.IndexByteString", "internal/bytealg.IndexString", "internal/bytealg.abigen_runtime_cmpstring"], unfollowed := true, recurses := true, named := ["unicode/utf8.first", "unicode/utf8.acceptRanges", "internal/bytealg.MaxLen"], apart := false, laid := [("unicode/utf8.acceptRanges", laid_unicode_utf8_acceptRanges), ("unicode/utf8.first", laid_unicode_utf8_first)], narrowed := true }
def FnExactShortestDoubleUptoSaid : Prop := fnExactShortestDoubleUptoRow.holds Tryd.pinned (OpenSpec.upto fnExactShortestDoubleSpec)

/-- 'laws.FnExactTwoReadings', WHERE WHAT IT READS IS OF BULK AT MOST 1048576: true; the input reads as it did. -/
def fnExactTwoReadingsUptoRow : OpenClaim := { program := "ytiemoocdffobgaadoor", sum := "46e6e96832bea36e6f455135dc2ea006ef644b7e7d1830707cbf5b0d64405cea", func := "loop.example/g01164/laws.FnExactTwoReadings", spec := "fnExactTwoReadings", inPlace := ["internal/bytealg.IndexByteString", "internal/bytealg.IndexString", "internal/bytealg.abigen_runtime_cmpstring"], unfollowed := true, recurses := true, named := ["unicode/utf8.first", "unicode/utf8.acceptRanges", "internal/bytealg.MaxLen"], apart := false, laid := [("unicode/utf8.acceptRanges", laid_unicode_utf8_acceptRanges), ("unicode/utf8.first", laid_unicode_utf8_first)], narrowed := true }
def FnExactTwoReadingsUptoSaid : Prop := fnExactTwoReadingsUptoRow.holds Tryd.pinned (OpenSpec.upto fnExactTwoReadingsSpec)

end Rows
end Go.Proofs.YtiemoocdffobgaaDoor
