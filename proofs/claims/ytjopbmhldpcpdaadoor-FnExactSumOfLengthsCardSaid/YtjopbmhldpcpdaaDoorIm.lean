/-
  WHAT THIS FILE PROVES: plain facts on what IsMaximalPrefix tells; no program in sight.
-/
import Derived.Test.YtjopbmhldpcpdaaDoorPfx
import Derived.Test.YtjopbmhldpcpdaaDoorKr
namespace Go.Proofs.YtjopbmhldpcpdaaDoor

/-- what IsMaximalPrefix tells -/
def imOf (ss : List ByteArray) (L : Int) : Bool := W.krSet ss L && (pfxB ss && decide (W.shares L.toNat (W.lens ss) = L.toNat ^ 8))
theorem imOf_no {ss : List ByteArray} {L : Int} (h : W.krSet ss L = false) : imOf ss L = false := by unfold imOf; rw [h]; rfl
theorem imOf_pfx {ss : List ByteArray} {L : Int} (h : pfxB ss = false) : imOf ss L = false := by unfold imOf; rw [h]; simp
theorem imOf_yes {ss : List ByteArray} {m : Nat} (h : W.krSet ss m = true) (h2 : pfxB ss = true) : imOf ss m = decide (W.shares m (W.lens ss) = m ^ 8) := by unfold imOf; rw [h, h2, Int.toNat_natCast]; rfl
end Go.Proofs.YtjopbmhldpcpdaaDoor
