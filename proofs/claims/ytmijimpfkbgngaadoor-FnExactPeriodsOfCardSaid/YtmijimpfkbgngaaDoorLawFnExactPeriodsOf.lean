/-
  WHAT THIS FILE PROVES: a call of the law FnExactPeriodsOf returns true and turns nothing that was there, for every arguments that read as lists, texts and numbers.
-/
import Derived.Test.YtmijimpfkbgngaaDoorRtS
import Derived.Test.YtmijimpfkbgngaaDoorRtI
import Derived.Test.YtmijimpfkbgngaaDoorMemI
namespace Go.Proofs.YtmijimpfkbgngaaDoor
open Go.RowKit Go.Shelf

set_option maxHeartbeats 4000000 in
theorem walk_fnExactPeriodsOf (s0 : ByteArray) (w : World) (hs00 : s0.size ≤ maxLen) (_hsh : w.ShapedOpen Tryd.prog) :
    Calls Tryd.prog 8 #[.string s0] w fun e w' => e = .returned (.bool true) ∧ Below w.heap.size w w' := by
  have hs0 : s0.size ≤ 9223372036854775807 := by unfold maxLen at hs00; exact hs00
  clear hs00
  by_cases hz0 : s0.size ≤ 1048576
  rotate_left
  · go_enter Tryd.func8, Tryd.ntmps8
    go_wp2_with fail
    go_ret
    exact ⟨rfl, Below.refl _ _⟩
  go_enter Tryd.func8, Tryd.ntmps8
  have q1 := fun  (W : World)  => spec_PeriodsOf s0 W (by omega)
  have q2 := fun  (W : World)  => impl_PeriodsOf s0 W (by omega)
  have hn : (W.periodsOf s0.data.toList).length ≤ 1048576 := (perOf_len s0.data.toList)
  generalize W.periodsOf s0.data.toList = xs at q1 q2 hn
  generalize W.good s0.data.toList = ok at q1 q2
  replace q1 := Lib.hid q1
  replace q2 := Lib.hid q2
  go_wp2_with fail
  refine (q1.out  w ).mono ?_
  rintro e w1 ⟨w0A, w0c, rfl, ho, hB⟩
  have O1 := Lib.hid ho
  have B2 := Lib.hid hB
  clear ho hB
  have z3 : w.heap.size ≤ w1.heap.size := B2.out.size
  have T4 := Lib.hid (B2.out)
  have LTw0 := Lib.hid O1.out.lt
  have R5 := Lib.hid (Row.of_own O1.out)
  clear O1
  have cwe : True := trivial
  go_wp2_with fail
  refine (q2.out  w1 ).mono ?_
  rintro e w2 ⟨g0A, g0c, rfl, ho, hB⟩
  have O6 := Lib.hid ho
  have B7 := Lib.hid hB
  clear ho hB
  have z8 : w1.heap.size ≤ w2.heap.size := B7.out.size
  have R9 := Lib.hid (R5.out.below (B7.out.mono (by omega)))
  clear R5
  have T10 := Lib.hid (T4.out.trans (B7.out.mono (by omega)))
  clear T4
  have LTg0 := Lib.hid O6.out.lt
  go_wp2_with fail
  refine (eqIntS_same g0A w0A xs g0c w0c w2 (Row.of_own O6.out) (R9.out.more (by omega)) (by omega)).mono ?_
  rintro e w3 ⟨rfl, hB⟩
  have B11 := Lib.hid hB
  clear hB
  have z12 : w2.heap.size ≤ w3.heap.size := B11.out.size
  have R13 := Lib.hid (R9.out.below (B11.out.mono (by omega)))
  clear R9
  have O14 := Lib.hid (own_below O6.out B11.out)
  clear O6
  have T15 := Lib.hid (T10.out.trans (B11.out.mono (by omega)))
  clear T10
  go_wp2_with fail
  refine (markIntS_own g0A xs g0c _ 1 w3 O14.out (by omega) (by omega) (by omega)).mono ?_
  rintro e w4 ⟨rfl, ho, hG⟩
  have G16 := Lib.hid hG
  have O17 := Lib.hid ho
  clear ho hG
  have z18 : w3.heap.size ≤ w4.heap.size := G16.out.size
  have R19 := Lib.hid (R13.out.kept G16.out (by omega) (fun g hg => by have := (O14.out.lt g hg).1; omega))
  clear R13
  have T20 := Lib.hid (T15.out.grown G16.out (by omega) (fun g hg => by have := (O14.out.lt g hg).1; omega))
  clear T15
  go_wp2_with fail
  refine (heldIntS_marks g0A xs.length g0c 1 w4 (Row.of_own O17.out) (by omega) (by omega) (by omega)).mono ?_
  rintro e w' ⟨rfl, rfl⟩
  go_wp2_with fail
  refine (q2.out  w4 ).mono ?_
  rintro e w5 ⟨h0A, h0c, rfl, ho, hB⟩
  have O21 := Lib.hid ho
  have B22 := Lib.hid hB
  clear ho hB
  have z23 : w4.heap.size ≤ w5.heap.size := B22.out.size
  have R24 := Lib.hid (R19.out.below (B22.out.mono (by omega)))
  clear R19
  have O25 := Lib.hid (own_below O17.out B22.out)
  clear O17
  have T26 := Lib.hid (T20.out.trans (B22.out.mono (by omega)))
  clear T20
  have LTh0 := Lib.hid O21.out.lt
  go_wp2_with fail
  refine (eqIntS_same h0A w0A xs h0c w0c w5 (Row.of_own O21.out) (R24.out.more (by omega)) (by omega)).mono ?_
  rintro e w6 ⟨rfl, hB⟩
  have B27 := Lib.hid hB
  clear hB
  have z28 : w5.heap.size ≤ w6.heap.size := B27.out.size
  have R29 := Lib.hid (R24.out.below (B27.out.mono (by omega)))
  clear R24
  have O30 := Lib.hid (own_below O25.out B27.out)
  clear O25
  have O31 := Lib.hid (own_below O21.out B27.out)
  clear O21
  have T32 := Lib.hid (T26.out.trans (B27.out.mono (by omega)))
  clear T26
  go_wp2_with fail
  refine (heldIntS_marks g0A xs.length g0c 1 w6 (Row.of_own O30.out) (by omega) (by omega) (by omega)).mono ?_
  rintro e w' ⟨rfl, rfl⟩
  go_wp2
  go_ret
  exact ⟨rfl, T32.out⟩
end Go.Proofs.YtmijimpfkbgngaaDoor
