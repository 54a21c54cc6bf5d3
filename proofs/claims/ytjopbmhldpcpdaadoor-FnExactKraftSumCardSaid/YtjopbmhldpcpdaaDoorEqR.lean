/-
  WHAT THIS FILE PROVES: the check's comparison of fractions tells that a fraction is the same as itself; no conditions.
-/
import Derived.Test.YtjopbmhldpcpdaaDoorArith
namespace Go.Proofs.YtjopbmhldpcpdaaDoor
open Go.RowKit

theorem eqRatio_same (p q : Int) (w : World) :
    Calls Tryd.prog 9 #[ratV p q, ratV p q] w fun e w' => e = .returned (.bool true) ∧ Below w.heap.size w w' := by
  go_enter Tryd.func9, Tryd.ntmps9
  go_wp2
  go_ret
  exact ⟨rfl, ((Below.refl _ _).alloc (Nat.le_refl _) _).alloc (by simp) _⟩
end Go.Proofs.YtjopbmhldpcpdaaDoor
