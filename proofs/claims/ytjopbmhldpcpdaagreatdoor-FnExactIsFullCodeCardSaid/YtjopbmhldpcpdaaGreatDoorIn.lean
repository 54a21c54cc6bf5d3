/-
  WHAT THIS FILE PROVES: whether all numbers of a list lie within bounds: the specification's function tells it; asked: a slice of numbers in memory.
-/
import Derived.Test.YtjopbmhldpcpdaaGreatDoorMemI
import Derived.Test.YtjopbmhldpcpdaaGreatDoorIsSet
namespace Go.Proofs.YtjopbmhldpcpdaaGreatDoor
open Go.RowKit

/-- within bounds -/
def inR (lo hi x : Int) : Bool := decide (lo ≤ x ∧ x ≤ hi)
theorem Row.int_at {w : World} {B : Nat} {A : Option Addr} {zs : List Int} (h : Row w B A (ints zs)) (h0 : 0 < zs.length) : ∃ b off, A = some ⟨b, off, none⟩ ∧ b < B ∧ ∀ k (hk : k < zs.length), w.cell? ⟨b, off + k, none⟩ = some (.int .i64 zs[k]) := by
  obtain ⟨b, off, e, hb, hc⟩ := h (by rw [ints_length]; exact h0)
  exact ⟨b, off, e, hb, fun k hk => hc k _ (ints_at zs k hk)⟩


end Go.Proofs.YtjopbmhldpcpdaaGreatDoor
