/-
  WHAT THIS FILE PROVES: a call of the law FnExactIsWord returns true and turns nothing that was there, for every text whose length an int holds.
-/
import Derived.Test.YtaghllkmifehmaaDoorWord
namespace Go.Proofs.YtaghllkmifehmaaDoor
open Go.RowKit Go.Shelf

set_option maxHeartbeats 400000 in
theorem walk_fnExactIsWord (s : ByteArray) (w : World) (hs0 : s.size ≤ maxLen) (_hsh : w.ShapedOpen Tryd.prog) :
    Calls Tryd.prog 3 #[.string s] w fun e w' => e = .returned (.bool true) ∧ Below w.heap.size w w' := by
  have hs : s.size ≤ 9223372036854775807 := by unfold maxLen at hs0; exact hs0
  clear hs0
  by_cases h : s.size ≤ 1048576
  · generalize hr : W.good s.data.toList = r
    have c1 : Hid (∀ W, Calls Tryd.prog 10 #[.string s] W fun e w' => e = .returned (.bool r) ∧ W = w') := fun w => by rw [← hr]; exact spec_IsWord s w hs
    have c2 : Hid (∀ W, Calls Tryd.prog 11 #[.string s] W fun e w' => e = .returned (.bool r) ∧ Below W.heap.size W w') := fun w => by rw [← hr]; exact impl_IsWord s w hs
    clear hr
    go_enter Tryd.func3, Tryd.ntmps3
    go_wp2_with (first | (go_at_call 10; refine (c1.out _).mono ?_; rintro e w' ⟨rfl, rfl⟩) | (go_at_call 11; refine (c2.out _).mono ?_; rintro e w' ⟨rfl, hB⟩))
    go_ret
    exact ⟨rfl, hB⟩
  · go_enter Tryd.func3, Tryd.ntmps3
    go_wp2
    go_ret
    exact ⟨rfl, Below.refl _ _⟩
end Go.Proofs.YtaghllkmifehmaaDoor
