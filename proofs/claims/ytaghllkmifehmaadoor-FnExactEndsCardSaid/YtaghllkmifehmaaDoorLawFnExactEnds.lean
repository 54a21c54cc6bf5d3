/-
  WHAT THIS FILE PROVES: a call of the law FnExactEnds returns true and turns nothing that was there, for every two texts whose lengths an int holds.
-/
import Derived.Test.YtaghllkmifehmaaDoorPair
namespace Go.Proofs.YtaghllkmifehmaaDoor
open Go.RowKit Go.Shelf

set_option maxHeartbeats 400000 in
theorem walk_fnExactEnds (s t : ByteArray) (w : World) (hs0 : s.size ≤ maxLen) (ht0 : t.size ≤ maxLen) (_hsh : w.ShapedOpen Tryd.prog) :
    Calls Tryd.prog 5 #[.string s, .string t] w fun e w' => e = .returned (.bool true) ∧ Below w.heap.size w w' := by
  have hs : s.size ≤ 9223372036854775807 := by unfold maxLen at hs0; exact hs0
  have ht : t.size ≤ 9223372036854775807 := by unfold maxLen at ht0; exact ht0
  clear hs0 ht0
  by_cases h : s.size ≤ 1048576
  · by_cases h' : t.size ≤ 1048576
    · have c1 := fun w => spec_Ends s t w hs ht
      have c2 := fun w => impl_Ends s t w hs ht
      generalize both s t = r at c1 c2
      generalize Lib.hasSuffix s.data.toList t.data.toList = q at c1 c2
      generalize hx : (r && q) = x at c1 c2
      clear hx
      replace c1 := Lib.hid c1
      replace c2 := Lib.hid c2
      go_enter Tryd.func5, Tryd.ntmps5
      go_wp2_with (first | (go_at_call 14; refine (c1.out _).mono ?_; rintro e w' ⟨rfl, rfl⟩) | (go_at_call 15; refine (c2.out _).mono ?_; rintro e w' ⟨rfl, hB⟩))
      go_ret
      exact ⟨rfl, hB⟩
    · go_enter Tryd.func5, Tryd.ntmps5
      go_wp2
      go_ret
      exact ⟨rfl, Below.refl _ _⟩
  · go_enter Tryd.func5, Tryd.ntmps5
    go_wp2
    go_ret
    exact ⟨rfl, Below.refl _ _⟩
end Go.Proofs.YtaghllkmifehmaaDoor
