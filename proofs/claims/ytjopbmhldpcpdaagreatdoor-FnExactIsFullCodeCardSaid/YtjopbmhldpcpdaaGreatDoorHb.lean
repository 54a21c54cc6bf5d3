/-
  WHAT THIS FILE PROVES: whether a list has a text: plain facts, no program in sight.
-/
import Derived.Test.YtjopbmhldpcpdaaGreatDoorPure
namespace Go.Proofs.YtjopbmhldpcpdaaGreatDoor

/-- a list has a text -/
def hasB (l : List ByteArray) (x : ByteArray) : Bool := l.any fun t => decide (t = x)
theorem hasB_mem {l : List ByteArray} {x : ByteArray} : hasB l x = true ↔ x ∈ l := by
  unfold hasB
  rw [List.any_eq_true]
  constructor
  · rintro ⟨t, ht, e⟩
    rw [decide_eq_true_eq] at e
    exact e ▸ ht
  · exact fun h => ⟨x, h, decide_eq_true rfl⟩
end Go.Proofs.YtjopbmhldpcpdaaGreatDoor
