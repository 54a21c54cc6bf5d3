/-
  NARROWER THAN 'FOR EVERY INPUT', by the rows' own cells (each row's printed sentence says how): FnExactInnerWords: laid · FnExactIsTwoSided: laid · FnExactIsPartFree: laid · FnExactPutBehind: laid · FnExactLevelsOf: laid · FnExactReadFromLeft: laid.
  DERIVED. THE GIVEN ROWS OF THIS SEAT. 6 by the template 'for every input the law returns true; each argument reads behind the call as it read before'; 0 by the template 'total and deterministic' (their statements: YtojcnalgjeojdaaDoorTotals.lean).
  GIVEN WITH THE SEED: the statements are not yours to turn. If you find one false, say at which input.
  Laid BY PROGRAM, IN A SANDBOX (cutbox-rows.mjs): the forced cells as the released guide's own fill.sh prints them over the translation a6fd2168b7b2ca45… (all of the seat's roots in one cut). By AI agents, Wed Nov 11 2026. No macro, syntax, notation, axiom, sorry.
-/
import Derived.Test.YtojcnalgjeojdaaDoorChecked
import GoSem.PinnedTables
import GoSem.Claim
import GoSem.ClaimJoined
import GoSem.ClaimMapViews
import Derived.JoinedTies
import Derived.KernelRfl
namespace Go.Proofs.YtojcnalgjeojdaaDoor
/- THE CELL 'sum', in the pinned program and in every row, IS THE sha256 OF THE DUMP (.gsa) THAT YtojcnalgjeojdaaDoorProg.lean LOADS. Nothing in Lean hashes anything: it is a label: what it is worth is what the hold of that sum in a sandbox is worth. -/
noncomputable def Tryd.pinned : Pinned := { name := "ytojcnalgjeojdaadoor", sum := "a6fd2168b7b2ca458c4ea600a8f737cb3e74270c386d7e779b49f76ecb8d29a9", checked := Tryd.checked }
namespace Rows
def none {H : Type} : Left H := { results := [], args := [] }

/- WHAT THE LISTED PACKAGE-LEVEL VARIABLES READ AS WHEN THE CALL BEGINS. Each datum BY PROGRAM (the guide's laid-datum.mjs) off the statement by which the dump's own 'gosem.cut.vars' lays the variable. In a bare row this is a premise. The card (YtojcnalgjeojdaaDoorCards.lean) ties it to the program's text. -/
def laid_unicode_utf8_acceptRanges {H : Type} : DataW H := .agg [.agg [.lit (.int .u8 128), .lit (.int .u8 191)], .agg [.lit (.int .u8 160), .lit (.int .u8 191)], .agg [.lit (.int .u8 128), .lit (.int .u8 159)], .agg [.lit (.int .u8 144), .lit (.int .u8 191)], .agg [.lit (.int .u8 128), .lit (.int .u8 143)], .agg [.lit (.int .u8 0), .lit (.int .u8 0)], .agg [.lit (.int .u8 0), .lit (.int .u8 0)], .agg [.lit (.int .u8 0), .lit (.int .u8 0)], .agg [.lit (.int .u8 0), .lit (.int .u8 0)], .agg [.lit (.int .u8 0), .lit (.int .u8 0)], .agg [.lit (.int .u8 0), .lit (.int .u8 0)], .agg [.lit (.int .u8 0), .lit (.int .u8 0)], .agg [.lit (.int .u8 0), .lit (.int .u8 0)], .agg [.lit (.int .u8 0), .lit (.int .u8 0)], .agg [.lit (.int .u8 0), .lit (.int .u8 0)], .agg [.lit (.int .u8 0), .lit (.int .u8 0)]]
/-- One of Go's own tables, pinned by name: the form's constant. -/
def laid_unicode_utf8_first : DataW Unit := Go.Pinned.utf8First

/-- 'laws.FnExactInnerWords': WHATEVER THE INPUT: true; the input reads as it did. -/
def fnExactInnerWordsSpec : ChangeSpec := { name := "fnExactInnerWords", fn := fun _ => fun
  | [d] => { results := [.lit (.bool true)], args := [d] }
  | _ => none }
def fnExactInnerWordsRow : OpenClaim := { program := "ytojcnalgjeojdaadoor", sum := "a6fd2168b7b2ca458c4ea600a8f737cb3e74270c386d7e779b49f76ecb8d29a9", func := "loop.example/g01164/laws.FnExactInnerWords", spec := "fnExactInnerWords", inPlace := ["internal/bytealg.IndexByteString", "internal/bytealg.IndexString", "internal/bytealg.abigen_runtime_cmpstring"], unfollowed := true, recurses := true, named := ["unicode/utf8.first", "unicode/utf8.acceptRanges", "internal/bytealg.MaxLen"], apart := false, laid := [("unicode/utf8.acceptRanges", laid_unicode_utf8_acceptRanges), ("unicode/utf8.first", laid_unicode_utf8_first)] }
def FnExactInnerWordsSaid : Prop := fnExactInnerWordsRow.holds Tryd.pinned (OpenSpec.ofChange fnExactInnerWordsSpec)

/-- ITS FALSE NEIGHBOUR: 'it returns false'. Refute it at one input. -/
def fnExactInnerWordsWrong : ChangeSpec := { name := "fnExactInnerWords", fn := fun _ => fun
  | [d] => { results := [.lit (.bool false)], args := [d] }
  | _ => none }
def FnExactInnerWordsWrongFalsely : Prop := fnExactInnerWordsRow.holds Tryd.pinned (OpenSpec.ofChange fnExactInnerWordsWrong)

/-- 'laws.FnExactIsTwoSided': WHATEVER THE INPUT: true; the input reads as it did. -/
def fnExactIsTwoSidedSpec : ChangeSpec := { name := "fnExactIsTwoSided", fn := fun _ => fun
  | [d] => { results := [.lit (.bool true)], args := [d] }
  | _ => none }
def fnExactIsTwoSidedRow : OpenClaim := { program := "ytojcnalgjeojdaadoor", sum := "a6fd2168b7b2ca458c4ea600a8f737cb3e74270c386d7e779b49f76ecb8d29a9", func := "loop.example/g01164/laws.FnExactIsTwoSided", spec := "fnExactIsTwoSided", inPlace := ["internal/bytealg.IndexByteString", "internal/bytealg.IndexString", "internal/bytealg.abigen_runtime_cmpstring"], unfollowed := true, recurses := true, named := ["unicode/utf8.first", "unicode/utf8.acceptRanges", "internal/bytealg.MaxLen"], apart := false, laid := [("unicode/utf8.acceptRanges", laid_unicode_utf8_acceptRanges), ("unicode/utf8.first", laid_unicode_utf8_first)] }
def FnExactIsTwoSidedSaid : Prop := fnExactIsTwoSidedRow.holds Tryd.pinned (OpenSpec.ofChange fnExactIsTwoSidedSpec)

/-- ITS FALSE NEIGHBOUR: 'it returns false'. Refute it at one input. -/
def fnExactIsTwoSidedWrong : ChangeSpec := { name := "fnExactIsTwoSided", fn := fun _ => fun
  | [d] => { results := [.lit (.bool false)], args := [d] }
  | _ => none }
def FnExactIsTwoSidedWrongFalsely : Prop := fnExactIsTwoSidedRow.holds Tryd.pinned (OpenSpec.ofChange fnExactIsTwoSidedWrong)

/-- 'laws.FnExactIsPartFree': WHATEVER THE INPUT: true; the input reads as it did. -/
def fnExactIsPartFreeSpec : ChangeSpec := { name := "fnExactIsPartFree", fn := fun _ => fun
  | [d] => { results := [.lit (.bool true)], args := [d] }
  | _ => none }
def fnExactIsPartFreeRow : OpenClaim := { program := "ytojcnalgjeojdaadoor", sum := "a6fd2168b7b2ca458c4ea600a8f737cb3e74270c386d7e779b49f76ecb8d29a9", func := "loop.example/g01164/laws.FnExactIsPartFree", spec := "fnExactIsPartFree", inPlace := ["internal/bytealg.IndexByteString", "internal/bytealg.IndexString", "internal/bytealg.abigen_runtime_cmpstring"], unfollowed := true, recurses := true, named := ["unicode/utf8.first", "unicode/utf8.acceptRanges", "internal/bytealg.MaxLen"], apart := false, laid := [("unicode/utf8.acceptRanges", laid_unicode_utf8_acceptRanges), ("unicode/utf8.first", laid_unicode_utf8_first)] }
def FnExactIsPartFreeSaid : Prop := fnExactIsPartFreeRow.holds Tryd.pinned (OpenSpec.ofChange fnExactIsPartFreeSpec)

/-- ITS FALSE NEIGHBOUR: 'it returns false'. Refute it at one input. -/
def fnExactIsPartFreeWrong : ChangeSpec := { name := "fnExactIsPartFree", fn := fun _ => fun
  | [d] => { results := [.lit (.bool false)], args := [d] }
  | _ => none }
def FnExactIsPartFreeWrongFalsely : Prop := fnExactIsPartFreeRow.holds Tryd.pinned (OpenSpec.ofChange fnExactIsPartFreeWrong)

/-- 'laws.FnExactPutBehind': WHATEVER THE INPUT: true; the input reads as it did. -/
def fnExactPutBehindSpec : ChangeSpec := { name := "fnExactPutBehind", fn := fun _ => fun
  | [d1, d2, d3] => { results := [.lit (.bool true)], args := [d1, d2, d3] }
  | _ => none }
def fnExactPutBehindRow : OpenClaim := { program := "ytojcnalgjeojdaadoor", sum := "a6fd2168b7b2ca458c4ea600a8f737cb3e74270c386d7e779b49f76ecb8d29a9", func := "loop.example/g01164/laws.FnExactPutBehind", spec := "fnExactPutBehind", inPlace := ["internal/bytealg.IndexByteString", "internal/bytealg.IndexString", "internal/bytealg.abigen_runtime_cmpstring"], unfollowed := true, recurses := true, named := ["unicode/utf8.first", "unicode/utf8.acceptRanges", "internal/bytealg.MaxLen"], apart := false, laid := [("unicode/utf8.acceptRanges", laid_unicode_utf8_acceptRanges), ("unicode/utf8.first", laid_unicode_utf8_first)] }
def FnExactPutBehindSaid : Prop := fnExactPutBehindRow.holds Tryd.pinned (OpenSpec.ofChange fnExactPutBehindSpec)

/-- ITS FALSE NEIGHBOUR: 'it returns false'. Refute it at one input. -/
def fnExactPutBehindWrong : ChangeSpec := { name := "fnExactPutBehind", fn := fun _ => fun
  | [d1, d2, d3] => { results := [.lit (.bool false)], args := [d1, d2, d3] }
  | _ => none }
def FnExactPutBehindWrongFalsely : Prop := fnExactPutBehindRow.holds Tryd.pinned (OpenSpec.ofChange fnExactPutBehindWrong)

/-- 'laws.FnExactLevelsOf': WHATEVER THE INPUT: true; the input reads as it did. -/
def fnExactLevelsOfSpec : ChangeSpec := { name := "fnExactLevelsOf", fn := fun _ => fun
  | [d] => { results := [.lit (.bool true)], args := [d] }
  | _ => none }
def fnExactLevelsOfRow : OpenClaim := { program := "ytojcnalgjeojdaadoor", sum := "a6fd2168b7b2ca458c4ea600a8f737cb3e74270c386d7e779b49f76ecb8d29a9", func := "loop.example/g01164/laws.FnExactLevelsOf", spec := "fnExactLevelsOf", inPlace := ["internal/bytealg.IndexByteString", "internal/bytealg.IndexString", "internal/bytealg.abigen_runtime_cmpstring"], unfollowed := true, recurses := true, named := ["unicode/utf8.first", "unicode/utf8.acceptRanges", "internal/bytealg.MaxLen"], apart := false, laid := [("unicode/utf8.acceptRanges", laid_unicode_utf8_acceptRanges), ("unicode/utf8.first", laid_unicode_utf8_first)] }
def FnExactLevelsOfSaid : Prop := fnExactLevelsOfRow.holds Tryd.pinned (OpenSpec.ofChange fnExactLevelsOfSpec)

/-- ITS FALSE NEIGHBOUR: 'it returns false'. Refute it at one input. -/
def fnExactLevelsOfWrong : ChangeSpec := { name := "fnExactLevelsOf", fn := fun _ => fun
  | [d] => { results := [.lit (.bool false)], args := [d] }
  | _ => none }
def FnExactLevelsOfWrongFalsely : Prop := fnExactLevelsOfRow.holds Tryd.pinned (OpenSpec.ofChange fnExactLevelsOfWrong)

/-- 'laws.FnExactReadFromLeft': WHATEVER THE INPUT: true; the input reads as it did. -/
def fnExactReadFromLeftSpec : ChangeSpec := { name := "fnExactReadFromLeft", fn := fun _ => fun
  | [d1, d2] => { results := [.lit (.bool true)], args := [d1, d2] }
  | _ => none }
def fnExactReadFromLeftRow : OpenClaim := { program := "ytojcnalgjeojdaadoor", sum := "a6fd2168b7b2ca458c4ea600a8f737cb3e74270c386d7e779b49f76ecb8d29a9", func := "loop.example/g01164/laws.FnExactReadFromLeft", spec := "fnExactReadFromLeft", inPlace := ["internal/bytealg.IndexByteString", "internal/bytealg.IndexString", "internal/bytealg.abigen_runtime_cmpstring"], unfollowed := true, recurses := true, named := ["unicode/utf8.first", "unicode/utf8.acceptRanges", "internal/bytealg.MaxLen"], apart := false, laid := [("unicode/utf8.acceptRanges", laid_unicode_utf8_acceptRanges), ("unicode/utf8.first", laid_unicode_utf8_first)] }
def FnExactReadFromLeftSaid : Prop := fnExactReadFromLeftRow.holds Tryd.pinned (OpenSpec.ofChange fnExactReadFromLeftSpec)

/-- ITS FALSE NEIGHBOUR: 'it returns false'. Refute it at one input. -/
def fnExactReadFromLeftWrong : ChangeSpec := { name := "fnExactReadFromLeft", fn := fun _ => fun
  | [d1, d2] => { results := [.lit (.bool false)], args := [d1, d2] }
  | _ => none }
def FnExactReadFromLeftWrongFalsely : Prop := fnExactReadFromLeftRow.holds Tryd.pinned (OpenSpec.ofChange fnExactReadFromLeftWrong)

/- THE SECOND FORM. 'bulk': how many values and letters a reading holds, each counted each time it is reached (what is shared counts as often as it is met; a slice's spare places count too). A statement '..UptoSaid' is the law's where the arguments, and the package variables that the reading takes, are together of bulk at most 1048576: NARROWER than '..Said'. Prove '..Said' where nothing that the law and all that it calls make is longer than what came in: it says more and counts as full. Else prove '..UptoSaid'. A law counts once. -/
mutual
def uptoBulk {H : Type} : DataW H → Nat
  | .lit (.string bytes) => bytes.length + 1
  | .lit _ => 1
  | .nil => 1
  | .ptr d => uptoBulk d + 1
  | .slice elems spare => uptoBulkAll elems + uptoBulkAll spare + 1
  | .agg parts => uptoBulkAll parts + 1
  | .iface _ d => uptoBulk d + 1
  | .map entries => uptoBulkEntries entries + 1
  | .held _ => 1
def uptoBulkAll {H : Type} : List (DataW H) → Nat
  | [] => 0
  | d :: r => uptoBulk d + uptoBulkAll r
def uptoBulkEntries {H : Type} : List (Lit × DataW H) → Nat
  | [] => 0
  | x :: r => uptoBulkEntry x + uptoBulkEntries r
def uptoBulkEntry {H : Type} : Lit × DataW H → Nat
  | (.string bytes, d) => bytes.length + uptoBulk d + 1
  | (_, d) => uptoBulk d + 1
 end
def uptoSmall : (H : Type) → List (DataW H) → Bool := fun _ ds => decide (uptoBulkAll ds ≤ 1048576)
def OpenSpec.upto (s : _root_.Go.ChangeSpec) : _root_.Go.OpenSpec := { _root_.Go.OpenSpec.ofChange s with cond := some uptoSmall }

/-- 'laws.FnExactInnerWords', WHERE WHAT IT READS IS OF BULK AT MOST 1048576: true; the input reads as it did. -/
def fnExactInnerWordsUptoRow : OpenClaim := { program := "ytojcnalgjeojdaadoor", sum := "a6fd2168b7b2ca458c4ea600a8f737cb3e74270c386d7e779b49f76ecb8d29a9", func := "loop.example/g01164/laws.FnExactInnerWords", spec := "fnExactInnerWords", inPlace := ["internal/bytealg.IndexByteString", "internal/bytealg.IndexString", "internal/bytealg.abigen_runtime_cmpstring"], unfollowed := true, recurses := true, named := ["unicode/utf8.first", "unicode/utf8.acceptRanges", "internal/bytealg.MaxLen"], apart := false, laid := [("unicode/utf8.acceptRanges", laid_unicode_utf8_acceptRanges), ("unicode/utf8.first", laid_unicode_utf8_first)], narrowed := true }
def FnExactInnerWordsUptoSaid : Prop := fnExactInnerWordsUptoRow.holds Tryd.pinned (OpenSpec.upto fnExactInnerWordsSpec)

/-- 'laws.FnExactIsTwoSided', WHERE WHAT IT READS IS OF BULK AT MOST 1048576: true; the input reads as it did. -/
def fnExactIsTwoSidedUptoRow : OpenClaim := { program := "ytojcnalgjeojdaadoor", sum := "a6fd2168b7b2ca458c4ea600a8f737cb3e74270c386d7e779b49f76ecb8d29a9", func := "loop.example/g01164/laws.FnExactIsTwoSided", spec := "fnExactIsTwoSided", inPlace := ["internal/bytealg.IndexByteString", "internal/bytealg.IndexString", "internal/bytealg.abigen_runtime_cmpstring"], unfollowed := true, recurses := true, named := ["unicode/utf8.first", "unicode/utf8.acceptRanges", "internal/bytealg.MaxLen"], apart := false, laid := [("unicode/utf8.acceptRanges", laid_unicode_utf8_acceptRanges), ("unicode/utf8.first", laid_unicode_utf8_first)], narrowed := true }
def FnExactIsTwoSidedUptoSaid : Prop := fnExactIsTwoSidedUptoRow.holds Tryd.pinned (OpenSpec.upto fnExactIsTwoSidedSpec)

/-- 'laws.FnExactIsPartFree', WHERE WHAT IT READS IS OF BULK AT MOST 1048576: true; the input reads as it did. -/
def fnExactIsPartFreeUptoRow : OpenClaim := { program := "ytojcnalgjeojdaadoor", sum := "a6fd2168b7b2ca458c4ea600a8f737cb3e74270c386d7e779b49f76ecb8d29a9", func := "loop.example/g01164/laws.FnExactIsPartFree", spec := "fnExactIsPartFree", inPlace := ["internal/bytealg.IndexByteString", "internal/bytealg.IndexString", "internal/bytealg.abigen_runtime_cmpstring"], unfollowed := true, recurses := true, named := ["unicode/utf8.first", "unicode/utf8.acceptRanges", "internal/bytealg.MaxLen"], apart := false, laid := [("unicode/utf8.acceptRanges", laid_unicode_utf8_acceptRanges), ("unicode/utf8.first", laid_unicode_utf8_first)], narrowed := true }
def FnExactIsPartFreeUptoSaid : Prop := fnExactIsPartFreeUptoRow.holds Tryd.pinned (OpenSpec.upto fnExactIsPartFreeSpec)

/-- 'laws.FnExactPutBehind', WHERE WHAT IT READS IS OF BULK AT MOST 1048576: true; the input reads as it did. -/
def fnExactPutBehindUptoRow : OpenClaim := { program := "ytojcnalgjeojdaadoor", sum := "a6fd2168b7b2ca458c4ea600a8f737cb3e74270c386d7e779b49f76ecb8d29a9", func := "loop.example/g01164/laws.FnExactPutBehind", spec := "fnExactPutBehind", inPlace := ["internal/bytealg.IndexByteString", "internal/bytealg.IndexString", "internal/bytealg.abigen_runtime_cmpstring"], unfollowed := true, recurses := true, named := ["unicode/utf8.first", "unicode/utf8.acceptRanges", "internal/bytealg.MaxLen"], apart := false, laid := [("unicode/utf8.acceptRanges", laid_unicode_utf8_acceptRanges), ("unicode/utf8.first", laid_unicode_utf8_first)], narrowed := true }
def FnExactPutBehindUptoSaid : Prop := fnExactPutBehindUptoRow.holds Tryd.pinned (OpenSpec.upto fnExactPutBehindSpec)

/-- 'laws.FnExactLevelsOf', WHERE WHAT IT READS IS OF BULK AT MOST 1048576: true; the input reads as it did. -/
def fnExactLevelsOfUptoRow : OpenClaim := { program := "ytojcnalgjeojdaadoor", sum := "a6fd2168b7b2ca458c4ea600a8f737cb3e74270c386d7e779b49f76ecb8d29a9", func := "loop.example/g01164/laws.FnExactLevelsOf", spec := "fnExactLevelsOf", inPlace := ["internal/bytealg.IndexByteString", "internal/bytealg.IndexString", "internal/bytealg.abigen_runtime_cmpstring"], unfollowed := true, recurses := true, named := ["unicode/utf8.first", "unicode/utf8.acceptRanges", "internal/bytealg.MaxLen"], apart := false, laid := [("unicode/utf8.acceptRanges", laid_unicode_utf8_acceptRanges), ("unicode/utf8.first", laid_unicode_utf8_first)], narrowed := true }
def FnExactLevelsOfUptoSaid : Prop := fnExactLevelsOfUptoRow.holds Tryd.pinned (OpenSpec.upto fnExactLevelsOfSpec)

/-- 'laws.FnExactReadFromLeft', WHERE WHAT IT READS IS OF BULK AT MOST 1048576: true; the input reads as it did. -/
def fnExactReadFromLeftUptoRow : OpenClaim := { program := "ytojcnalgjeojdaadoor", sum := "a6fd2168b7b2ca458c4ea600a8f737cb3e74270c386d7e779b49f76ecb8d29a9", func := "loop.example/g01164/laws.FnExactReadFromLeft", spec := "fnExactReadFromLeft", inPlace := ["internal/bytealg.IndexByteString", "internal/bytealg.IndexString", "internal/bytealg.abigen_runtime_cmpstring"], unfollowed := true, recurses := true, named := ["unicode/utf8.first", "unicode/utf8.acceptRanges", "internal/bytealg.MaxLen"], apart := false, laid := [("unicode/utf8.acceptRanges", laid_unicode_utf8_acceptRanges), ("unicode/utf8.first", laid_unicode_utf8_first)], narrowed := true }
def FnExactReadFromLeftUptoSaid : Prop := fnExactReadFromLeftUptoRow.holds Tryd.pinned (OpenSpec.upto fnExactReadFromLeftSpec)

end Rows
end Go.Proofs.YtojcnalgjeojdaaDoor
