/-
  WHAT THIS FILE PROVES: a call of the law FnExactCommonRoot returns true and turns nothing that was there, for every arguments that read as lists, texts and numbers.
-/
import Derived.Test.YtmijimpfkbgngaaDoorRtS
import Derived.Test.YtmijimpfkbgngaaDoorRtI
import Derived.Test.YtmijimpfkbgngaaDoorMemS
namespace Go.Proofs.YtmijimpfkbgngaaDoor
open Go.RowKit Go.Shelf

set_option maxHeartbeats 4000000 in
theorem walk_fnExactCommonRoot (s0 : ByteArray) (s1 : ByteArray) (w : World) (hs00 : s0.size ≤ maxLen) (hs10 : s1.size ≤ maxLen) (_hsh : w.ShapedOpen Tryd.prog) :
    Calls Tryd.prog 7 #[.string s0, .string s1] w fun e w' => e = .returned (.bool true) ∧ Below w.heap.size w w' := by
  have hs0 : s0.size ≤ 9223372036854775807 := by unfold maxLen at hs00; exact hs00
  clear hs00
  have hs1 : s1.size ≤ 9223372036854775807 := by unfold maxLen at hs10; exact hs10
  clear hs10
  by_cases hz0 : s0.size ≤ 1048576
  rotate_left
  · go_enter Tryd.func7, Tryd.ntmps7
    go_wp2_with fail
    go_ret
    exact ⟨rfl, Below.refl _ _⟩
  by_cases hz1 : s1.size ≤ 1048576
  rotate_left
  · go_enter Tryd.func7, Tryd.ntmps7
    go_wp2_with fail
    go_ret
    exact ⟨rfl, Below.refl _ _⟩
  go_enter Tryd.func7, Tryd.ntmps7
  have q1 := fun  (W : World)  => spec_CommonRoot s0 s1 W (by omega) (by omega)
  have q2 := fun  (W : World)  => impl_CommonRoot s0 s1 W (by omega) (by omega)
  generalize (crT s0 s1) = xs at q1 q2
  generalize crOk s0 s1 = ok at q1 q2
  replace q1 := Lib.hid q1
  replace q2 := Lib.hid q2
  go_wp2_with fail
  refine (q1.out  w ).mono ?_
  rintro e w1 ⟨rfl, hB⟩
  have B1 := Lib.hid hB
  clear hB
  have z2 : w.heap.size ≤ w1.heap.size := B1.out.size
  have T3 := Lib.hid (B1.out)
  go_wp2_with fail
  refine (q2.out  w1 ).mono ?_
  rintro e w2 ⟨rfl, hB⟩
  have B4 := Lib.hid hB
  clear hB
  have z5 : w1.heap.size ≤ w2.heap.size := B4.out.size
  have T6 := Lib.hid (T3.out.trans (B4.out.mono (by omega)))
  clear T3
  go_wp2
  go_ret
  exact ⟨rfl, T6.out⟩
end Go.Proofs.YtmijimpfkbgngaaDoor
