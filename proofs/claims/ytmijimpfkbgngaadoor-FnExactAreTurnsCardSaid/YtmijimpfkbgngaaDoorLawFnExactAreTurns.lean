/-
  WHAT THIS FILE PROVES: a call of the law FnExactAreTurns returns true and turns nothing that was there, for every arguments that read as lists, texts and numbers.
-/
import Derived.Test.YtmijimpfkbgngaaDoorRtS
import Derived.Test.YtmijimpfkbgngaaDoorRtI
import Derived.Test.YtmijimpfkbgngaaDoorMemS
namespace Go.Proofs.YtmijimpfkbgngaaDoor
open Go.RowKit Go.Shelf

set_option maxHeartbeats 4000000 in
theorem walk_fnExactAreTurns (s0 : ByteArray) (s1 : ByteArray) (w : World) (hs00 : s0.size ≤ maxLen) (hs10 : s1.size ≤ maxLen) (_hsh : w.ShapedOpen Tryd.prog) :
    Calls Tryd.prog 6 #[.string s0, .string s1] w fun e w' => e = .returned (.bool true) ∧ Below w.heap.size w w' := by
  have hs0 : s0.size ≤ 9223372036854775807 := by unfold maxLen at hs00; exact hs00
  clear hs00
  have hs1 : s1.size ≤ 9223372036854775807 := by unfold maxLen at hs10; exact hs10
  clear hs10
  obtain ⟨m, hm0⟩ := Tryd.laysM144.s1_3 w _hsh
  have hmx := Lib.hid (row_one hm0)
  clear hm0
  by_cases hz0 : s0.size ≤ 1048576
  rotate_left
  · go_enter Tryd.func6, Tryd.ntmps6
    go_wp2_with fail
    go_ret
    exact ⟨rfl, Below.refl _ _⟩
  by_cases hz1 : s1.size ≤ 1048576
  rotate_left
  · go_enter Tryd.func6, Tryd.ntmps6
    go_wp2_with fail
    go_ret
    exact ⟨rfl, Below.refl _ _⟩
  go_enter Tryd.func6, Tryd.ntmps6
  have q1 := fun  (W : World)  => spec_AreTurns s0 s1 W (by omega) (by omega)
  have q2 := fun  (W : World) (gm : Row W W.heap.size (some ⟨0, 0, none⟩) [.int .i64 m]) => impl_AreTurns m s0 s1 W gm (by omega) (by omega)
  generalize (atB s0 s1) = xs at q1 q2
  generalize atOk s0 s1 = ok at q1 q2
  replace q1 := Lib.hid q1
  replace q2 := Lib.hid q2
  go_wp2_with fail
  refine (q1.out  w ).mono ?_
  rintro e w1 ⟨rfl, hB⟩
  have B1 := Lib.hid hB
  clear hB
  have z2 : w.heap.size ≤ w1.heap.size := B1.out.size
  have R3 := Lib.hid (hmx.out.below (B1.out.mono (by omega)))
  clear hmx
  have T4 := Lib.hid (B1.out)
  go_wp2_with fail
  refine (q2.out  w1 (R3.out.more (by omega))).mono ?_
  rintro e w2 ⟨rfl, hB⟩
  have B5 := Lib.hid hB
  clear hB
  have z6 : w1.heap.size ≤ w2.heap.size := B5.out.size
  have R7 := Lib.hid (R3.out.below (B5.out.mono (by omega)))
  clear R3
  have T8 := Lib.hid (T4.out.trans (B5.out.mono (by omega)))
  clear T4
  go_wp2
  go_ret
  exact ⟨rfl, T8.out⟩
end Go.Proofs.YtmijimpfkbgngaaDoor
