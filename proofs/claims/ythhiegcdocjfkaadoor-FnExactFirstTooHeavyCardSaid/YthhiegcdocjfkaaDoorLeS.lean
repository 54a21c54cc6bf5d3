/-
  WHAT THIS FILE PROVES: the specification's tests of weights and counts, and words with given counts: they give what the plain ones say; asked: slices in memory, lengths that an int holds.
-/
import Derived.Test.YthhiegcdocjfkaaDoorLe
import Derived.Test.YthhiegcdocjfkaaDoorIn
import Derived.Test.YthhiegcdocjfkaaDoorArith
import Derived.OwnWalk
import Derived.BigQuiet
namespace Go.Proofs.YthhiegcdocjfkaaDoor
open Go.RowKit Go.Shelf

theorem all3 (m a b c : Int) : ([a, b, c] : List Int).all (inR 0 m) = decide ((0 ≤ a ∧ a ≤ m) ∧ (0 ≤ b ∧ b ≤ m) ∧ (0 ≤ c ∧ c ≤ m)) := by
  rw [Bool.eq_iff_iff]
  simp [inR]
theorem div_wrapL (a g : Nat) (h : a ≤ 4611686018427387904) : wrap64 ((a : Int) / (g : Int)) = ((a / g : Nat) : Int) := by
  have h1 := Nat.div_le_self a g
  rw [← Int.natCast_ediv]
  generalize a / g = q at h1 ⊢
  exact IntWalk.wrap64_in _ (by omega)
end Go.Proofs.YthhiegcdocjfkaaDoor
