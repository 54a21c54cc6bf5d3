/-
  WHAT THIS FILE PROVES: whether a list is a set: the specification's and the program's functions tell the same; asked: a row that lies in memory, lengths that an int holds.
-/
import Derived.Test.YtmijimpfkbgngaaDoorPair
import Derived.Test.YtmijimpfkbgngaaDoorSets
import Derived.Test.YtmijimpfkbgngaaDoorMemS
import Derived.IntWalk
namespace Go.Proofs.YtmijimpfkbgngaaDoor
open Go.RowKit Go.Shelf

theorem strs_nth (ss : List ByteArray) (k : Nat) (h : k < ss.length) : (strs ss)[k]? = some (.string (W.nth ss k)) := by
  rw [strs_at ss k h, W.nth_lt ss k h]

theorem isSet_no (ss : List ByteArray) (k : Nat) (h : k ≤ ss.length) (hf : W.okTo ss k = false) : W.isSet ss = false := by
  unfold W.isSet
  rw [W.okTo_no ss k _ h hf]
  simp

theorem chain_start (ss : List ByteArray) : W.chainTo ss 1 = true := by simp [W.chainTo, List.range_succ]

end Go.Proofs.YtmijimpfkbgngaaDoor
