/-
  WHAT THIS FILE PROVES: the check's comparison of fractions tells that a fraction is the same as itself; no conditions.
-/
import Derived.Test.YthhiegcdocjfkaaDoorArith
namespace Go.Proofs.YthhiegcdocjfkaaDoor
open Go.RowKit

theorem eqRatio_same (p q : Int) (w : World) :
    Calls Tryd.prog 12 #[ratV p q, ratV p q] w fun e w' => e = .returned (.bool true) ∧ Below w.heap.size w w' := by
  go_enter Tryd.func12, Tryd.ntmps12
  go_wp2
  go_ret
  exact ⟨rfl, ((Below.refl _ _).alloc (Nat.le_refl _) _).alloc (by simp) _⟩
end Go.Proofs.YthhiegcdocjfkaaDoor
