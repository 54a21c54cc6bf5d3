/-
  No cell of these rows narrows 'for every input' (looked for: loops, veiled, ifaces, maps, wideKeys, modest, calm, conditions, laid).
  DERIVED. THE GIVEN ROWS OF THIS SEAT. 4 by the template 'for every input the law returns true; each argument reads behind the call as it read before'; 0 by the template 'total and deterministic' (their statements: YtelfchoeielmhaaTotals.lean).
  GIVEN WITH THE SEED: the statements are not yours to turn. If you find one false, say at which input.
  Laid BY PROGRAM, IN A SANDBOX (cutbox-rows.mjs): the forced cells as the released guide's own fill.sh prints them over the translation e81f14480c80098a… (all of the seat's roots in one cut). By AI agents, Wed Nov 11 2026. No macro, syntax, notation, axiom, sorry.
-/
import Derived.Test.YtelfchoeielmhaaChecked
import GoSem.Claim
import GoSem.ClaimJoined
import GoSem.ClaimMapViews
import Derived.JoinedTies
import Derived.KernelRfl
namespace Go.Proofs.Ytelfchoeielmhaa
/- THE CELL 'sum', in the pinned program and in every row, IS THE sha256 OF THE DUMP (.gsa) THAT YtelfchoeielmhaaProg.lean LOADS. Nothing in Lean hashes anything: it is a label: what it is worth is what the hold of that sum in a sandbox is worth. -/
noncomputable def Try.pinned : Pinned := { name := "ytelfchoeielmhaa", sum := "e81f14480c80098ab84828614be4e2ed86501ed7dd43aa4404458ae97bf00ae0", checked := Try.checked }
namespace Rows
def none {H : Type} : Left H := { results := [], args := [] }

/-- 'laws.FnExactMergeRun': WHATEVER THE INPUT: true; the input reads as it did. -/
def fnExactMergeRunSpec : ChangeSpec := { name := "fnExactMergeRun", fn := fun _ => fun
  | [d1, d2] => { results := [.lit (.bool true)], args := [d1, d2] }
  | _ => none }
def fnExactMergeRunRow : OpenClaim := { program := "ytelfchoeielmhaa", sum := "e81f14480c80098ab84828614be4e2ed86501ed7dd43aa4404458ae97bf00ae0", func := "loop.example/g01164/laws.FnExactMergeRun", spec := "fnExactMergeRun", unfollowed := true, recurses := true, apart := false }
def FnExactMergeRunSaid : Prop := fnExactMergeRunRow.holds Try.pinned (OpenSpec.ofChange fnExactMergeRunSpec)

/-- ITS FALSE NEIGHBOUR: 'it returns false'. Refute it at one input. -/
def fnExactMergeRunWrong : ChangeSpec := { name := "fnExactMergeRun", fn := fun _ => fun
  | [d1, d2] => { results := [.lit (.bool false)], args := [d1, d2] }
  | _ => none }
def FnExactMergeRunWrongFalsely : Prop := fnExactMergeRunRow.holds Try.pinned (OpenSpec.ofChange fnExactMergeRunWrong)

/-- 'laws.FnExactBestCost': WHATEVER THE INPUT: true; the input reads as it did. -/
def fnExactBestCostSpec : ChangeSpec := { name := "fnExactBestCost", fn := fun _ => fun
  | [d1, d2] => { results := [.lit (.bool true)], args := [d1, d2] }
  | _ => none }
def fnExactBestCostRow : OpenClaim := { program := "ytelfchoeielmhaa", sum := "e81f14480c80098ab84828614be4e2ed86501ed7dd43aa4404458ae97bf00ae0", func := "loop.example/g01164/laws.FnExactBestCost", spec := "fnExactBestCost", unfollowed := true, recurses := true, apart := false }
def FnExactBestCostSaid : Prop := fnExactBestCostRow.holds Try.pinned (OpenSpec.ofChange fnExactBestCostSpec)

/-- ITS FALSE NEIGHBOUR: 'it returns false'. Refute it at one input. -/
def fnExactBestCostWrong : ChangeSpec := { name := "fnExactBestCost", fn := fun _ => fun
  | [d1, d2] => { results := [.lit (.bool false)], args := [d1, d2] }
  | _ => none }
def FnExactBestCostWrongFalsely : Prop := fnExactBestCostRow.holds Try.pinned (OpenSpec.ofChange fnExactBestCostWrong)

/-- 'laws.FnExactAreBest': WHATEVER THE INPUT: true; the input reads as it did. -/
def fnExactAreBestSpec : ChangeSpec := { name := "fnExactAreBest", fn := fun _ => fun
  | [d1, d2, d3] => { results := [.lit (.bool true)], args := [d1, d2, d3] }
  | _ => none }
def fnExactAreBestRow : OpenClaim := { program := "ytelfchoeielmhaa", sum := "e81f14480c80098ab84828614be4e2ed86501ed7dd43aa4404458ae97bf00ae0", func := "loop.example/g01164/laws.FnExactAreBest", spec := "fnExactAreBest", unfollowed := true, recurses := true, apart := false }
def FnExactAreBestSaid : Prop := fnExactAreBestRow.holds Try.pinned (OpenSpec.ofChange fnExactAreBestSpec)

/-- ITS FALSE NEIGHBOUR: 'it returns false'. Refute it at one input. -/
def fnExactAreBestWrong : ChangeSpec := { name := "fnExactAreBest", fn := fun _ => fun
  | [d1, d2, d3] => { results := [.lit (.bool false)], args := [d1, d2, d3] }
  | _ => none }
def FnExactAreBestWrongFalsely : Prop := fnExactAreBestRow.holds Try.pinned (OpenSpec.ofChange fnExactAreBestWrong)

/-- 'laws.FnExactBestWithin': WHATEVER THE INPUT: true; the input reads as it did. -/
def fnExactBestWithinSpec : ChangeSpec := { name := "fnExactBestWithin", fn := fun _ => fun
  | [d1, d2, d3] => { results := [.lit (.bool true)], args := [d1, d2, d3] }
  | _ => none }
def fnExactBestWithinRow : OpenClaim := { program := "ytelfchoeielmhaa", sum := "e81f14480c80098ab84828614be4e2ed86501ed7dd43aa4404458ae97bf00ae0", func := "loop.example/g01164/laws.FnExactBestWithin", spec := "fnExactBestWithin", unfollowed := true, recurses := true, apart := false }
def FnExactBestWithinSaid : Prop := fnExactBestWithinRow.holds Try.pinned (OpenSpec.ofChange fnExactBestWithinSpec)

/-- ITS FALSE NEIGHBOUR: 'it returns false'. Refute it at one input. -/
def fnExactBestWithinWrong : ChangeSpec := { name := "fnExactBestWithin", fn := fun _ => fun
  | [d1, d2, d3] => { results := [.lit (.bool false)], args := [d1, d2, d3] }
  | _ => none }
def FnExactBestWithinWrongFalsely : Prop := fnExactBestWithinRow.holds Try.pinned (OpenSpec.ofChange fnExactBestWithinWrong)

/- THE SECOND FORM. 'bulk': how many values and letters a reading holds, each counted each time it is reached (what is shared counts as often as it is met; a slice's spare places count too). A statement '..UptoSaid' is the law's where the arguments, and the package variables that the reading takes, are together of bulk at most 1048576: NARROWER than '..Said'. Prove '..Said' where nothing that the law and all that it calls make is longer than what came in: it says more and counts as full. Else prove '..UptoSaid'. A law counts once. -/
mutual
def uptoBulk {H : Type} : DataW H → Nat
  | .lit (.string bytes) => bytes.length + 1
  | .lit _ => 1
  | .nil => 1
  | .ptr d => uptoBulk d + 1
  | .slice elems spare => uptoBulkAll elems + uptoBulkAll spare + 1
  | .agg parts => uptoBulkAll parts + 1
  | .iface _ d => uptoBulk d + 1
  | .map entries => uptoBulkEntries entries + 1
  | .held _ => 1
def uptoBulkAll {H : Type} : List (DataW H) → Nat
  | [] => 0
  | d :: r => uptoBulk d + uptoBulkAll r
def uptoBulkEntries {H : Type} : List (Lit × DataW H) → Nat
  | [] => 0
  | x :: r => uptoBulkEntry x + uptoBulkEntries r
def uptoBulkEntry {H : Type} : Lit × DataW H → Nat
  | (.string bytes, d) => bytes.length + uptoBulk d + 1
  | (_, d) => uptoBulk d + 1
 end
def uptoSmall : (H : Type) → List (DataW H) → Bool := fun _ ds => decide (uptoBulkAll ds ≤ 1048576)
def OpenSpec.upto (s : _root_.Go.ChangeSpec) : _root_.Go.OpenSpec := { _root_.Go.OpenSpec.ofChange s with cond := some uptoSmall }

/-- 'laws.FnExactMergeRun', WHERE WHAT IT READS IS OF BULK AT MOST 1048576: true; the input reads as it did. -/
def fnExactMergeRunUptoRow : OpenClaim := { program := "ytelfchoeielmhaa", sum := "e81f14480c80098ab84828614be4e2ed86501ed7dd43aa4404458ae97bf00ae0", func := "loop.example/g01164/laws.FnExactMergeRun", spec := "fnExactMergeRun", unfollowed := true, recurses := true, apart := false, narrowed := true }
def FnExactMergeRunUptoSaid : Prop := fnExactMergeRunUptoRow.holds Try.pinned (OpenSpec.upto fnExactMergeRunSpec)

/-- 'laws.FnExactBestCost', WHERE WHAT IT READS IS OF BULK AT MOST 1048576: true; the input reads as it did. -/
def fnExactBestCostUptoRow : OpenClaim := { program := "ytelfchoeielmhaa", sum := "e81f14480c80098ab84828614be4e2ed86501ed7dd43aa4404458ae97bf00ae0", func := "loop.example/g01164/laws.FnExactBestCost", spec := "fnExactBestCost", unfollowed := true, recurses := true, apart := false, narrowed := true }
def FnExactBestCostUptoSaid : Prop := fnExactBestCostUptoRow.holds Try.pinned (OpenSpec.upto fnExactBestCostSpec)

/-- 'laws.FnExactAreBest', WHERE WHAT IT READS IS OF BULK AT MOST 1048576: true; the input reads as it did. -/
def fnExactAreBestUptoRow : OpenClaim := { program := "ytelfchoeielmhaa", sum := "e81f14480c80098ab84828614be4e2ed86501ed7dd43aa4404458ae97bf00ae0", func := "loop.example/g01164/laws.FnExactAreBest", spec := "fnExactAreBest", unfollowed := true, recurses := true, apart := false, narrowed := true }
def FnExactAreBestUptoSaid : Prop := fnExactAreBestUptoRow.holds Try.pinned (OpenSpec.upto fnExactAreBestSpec)

/-- 'laws.FnExactBestWithin', WHERE WHAT IT READS IS OF BULK AT MOST 1048576: true; the input reads as it did. -/
def fnExactBestWithinUptoRow : OpenClaim := { program := "ytelfchoeielmhaa", sum := "e81f14480c80098ab84828614be4e2ed86501ed7dd43aa4404458ae97bf00ae0", func := "loop.example/g01164/laws.FnExactBestWithin", spec := "fnExactBestWithin", unfollowed := true, recurses := true, apart := false, narrowed := true }
def FnExactBestWithinUptoSaid : Prop := fnExactBestWithinUptoRow.holds Try.pinned (OpenSpec.upto fnExactBestWithinSpec)

end Rows
end Go.Proofs.Ytelfchoeielmhaa
