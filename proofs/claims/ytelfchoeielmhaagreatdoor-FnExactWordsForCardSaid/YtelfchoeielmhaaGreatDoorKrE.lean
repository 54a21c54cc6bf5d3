/-
  WHAT THIS FILE PROVES: Kraft's sums of sets and of lengths, and whether lengths are those of a prefix set: the specification's functions give what the plain ones say; asked: slices in memory, lengths that an int holds.
-/
import Derived.Test.YtelfchoeielmhaaGreatDoorKrS
import Derived.Test.YtelfchoeielmhaaGreatDoorKrT
namespace Go.Proofs.YtelfchoeielmhaaGreatDoor
open Go.RowKit Go.Shelf

theorem cbOf_no {z : List Int} {L : Int} (h : W.krList z L = false) : cbOf z L = false := by unfold cbOf; rw [h]; rfl
theorem cbOf_yes {z : List Int} {m : Nat} (h : W.krList z m = true) : cbOf z m = decide (W.shares m z ≤ m ^ 8) := by unfold cbOf; rw [h, Int.toNat_natCast]; rfl
end Go.Proofs.YtelfchoeielmhaaGreatDoor
