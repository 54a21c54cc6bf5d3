/-
  WHAT THIS FILE PROVES: a call of the law FnExactCountIn returns true and turns nothing that was there, for every two texts whose lengths an int holds.
-/
import Derived.Test.YtaghllkmifehmaaDoorCount
namespace Go.Proofs.YtaghllkmifehmaaDoor
open Go.RowKit Go.Shelf

set_option maxHeartbeats 400000 in
theorem walk_fnExactCountIn (s t : ByteArray) (w : World) (hs0 : s.size ≤ maxLen) (ht0 : t.size ≤ maxLen) (_hsh : w.ShapedOpen Tryd.prog) :
    Calls Tryd.prog 7 #[.string s, .string t] w fun e w' => e = .returned (.bool true) ∧ Below w.heap.size w w' := by
  have hs : s.size ≤ 9223372036854775807 := by unfold maxLen at hs0; exact hs0
  have ht : t.size ≤ 9223372036854775807 := by unfold maxLen at ht0; exact ht0
  clear hs0 ht0
  by_cases h : s.size ≤ 1048576
  · by_cases h' : t.size ≤ 1048576
    · have c1 := fun w => spec_CountIn s t w hs ht
      have c2 := fun w => impl_CountIn s t w hs ht
      have hn : (W.countIn s.data.toList t.data.toList : Int) ≤ 9223372036854775807 ∧ 0 ≤ (W.countIn s.data.toList t.data.toList : Int) := by
        have h0 := W.cnt_le s.data.toList t.data.toList s.data.toList.length
        have h1 : s.data.toList.length = s.size := (Lib.size_eq s).symm
        unfold W.countIn
        split <;> omega
      generalize (W.countIn s.data.toList t.data.toList : Int) = n at c1 c2 hn
      generalize countOk s t = x at c1 c2
      replace c1 := Lib.hid c1
      replace c2 := Lib.hid c2
      go_enter Tryd.func7, Tryd.ntmps7
      go_wp2_with (first | (go_at_call 18; refine (c1.out _).mono ?_; rintro e w1 ⟨rfl, hA⟩) | (go_at_call 19; refine (c2.out _).mono ?_; rintro e w' ⟨rfl, hB⟩))
      go_ret
      exact ⟨rfl, hA.trans (hB.mono hA.size)⟩
    · go_enter Tryd.func7, Tryd.ntmps7
      go_wp2
      go_ret
      exact ⟨rfl, Below.refl _ _⟩
  · go_enter Tryd.func7, Tryd.ntmps7
    go_wp2
    go_ret
    exact ⟨rfl, Below.refl _ _⟩
end Go.Proofs.YtaghllkmifehmaaDoor
