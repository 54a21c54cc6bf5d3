/-
  WHAT THIS FILE PROVES: the program's tests of lengths: they give what the plain ones say; asked: slices in memory, lengths that an int holds.
-/
import Derived.Test.YtojcnalgjeojdaaGreatDoorArith
import Derived.Test.YtojcnalgjeojdaaGreatDoorIn
import Derived.Test.YtojcnalgjeojdaaGreatDoorShelf
import Derived.OwnWalk
namespace Go.Proofs.YtojcnalgjeojdaaGreatDoor
open Go.RowKit Go.Shelf

/-- lengths, whatever the letters -/
def lensOk (z : List Int) : Bool := decide (z.length ≤ 12) && (W.lenAll z && W.upTo z z.length)
theorem krList_def (z : List Int) (L : Int) : W.krList z L = (W.krLet L && lensOk z) := rfl
end Go.Proofs.YtojcnalgjeojdaaGreatDoor
