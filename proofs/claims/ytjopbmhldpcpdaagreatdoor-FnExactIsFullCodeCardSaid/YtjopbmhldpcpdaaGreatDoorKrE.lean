/-
  WHAT THIS FILE PROVES: Kraft's sums of sets and of lengths, and whether lengths are those of a prefix set: the specification's functions give what the plain ones say; asked: slices in memory, lengths that an int holds.
-/
import Derived.Test.YtjopbmhldpcpdaaGreatDoorKrS
import Derived.Test.YtjopbmhldpcpdaaGreatDoorKrT
namespace Go.Proofs.YtjopbmhldpcpdaaGreatDoor
open Go.RowKit Go.Shelf

/-- the world in which the result's two cells are made -/
abbrev resW (w : World) : World := w.alloc (.cells #[.int .i64 0, .int .i64 0] 32)
theorem resW_below (w : World) : Below w.heap.size w (w.alloc (.cells #[.int .i64 0, .int .i64 0] 32)) := (Below.refl w.heap.size w).alloc (Nat.le_refl _) _
theorem cbOf_no {z : List Int} {L : Int} (h : W.krList z L = false) : cbOf z L = false := by unfold cbOf; rw [h]; rfl
theorem cbOf_yes {z : List Int} {m : Nat} (h : W.krList z m = true) : cbOf z m = decide (W.shares m z ≤ m ^ 8) := by unfold cbOf; rw [h, Int.toNat_natCast]; rfl
end Go.Proofs.YtjopbmhldpcpdaaGreatDoor
