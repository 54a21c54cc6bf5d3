/-
  WHAT THIS FILE PROVES: one text in front of each of a list: the program's function with its closure hands back a slice of its own; asked: rows that lie in memory, lengths that an int holds.
-/
import Derived.Test.YtiemoocdffobgaaDoorMemS
import Derived.Test.YtiemoocdffobgaaDoorSets
import Derived.Maps.AppendAt
import Derived.OwnWalk
import Derived.Test.YtiemoocdffobgaaDoorFit
namespace Go.Proofs.YtiemoocdffobgaaDoor
open Go.RowKit Go.Shelf

/-- a text in front of each -/
def befs (t : ByteArray) (ss : List ByteArray) : List ByteArray := ss.map fun s => t ++ s
theorem befs_length (t : ByteArray) (ss : List ByteArray) : (befs t ss).length = ss.length := by simp [befs]
theorem befs_succ (t : ByteArray) (ss : List ByteArray) (k : Nat) (h : k < ss.length) : befs t (ss.take (k + 1)) = befs t (ss.take k) ++ [t ++ W.nth ss k] := by
  unfold befs
  rw [List.take_succ_eq_append_getElem h, List.map_append, W.nth_lt ss k h]
  rfl

end Go.Proofs.YtiemoocdffobgaaDoor
