/-
  WHAT THIS FILE PROVES: a call of the law FnExactTurnsOf returns true and turns nothing that was there, for every arguments that read as lists, texts and numbers.
-/
import Derived.Test.YtmijimpfkbgngaaDoorRtS
import Derived.Test.YtmijimpfkbgngaaDoorRtI
import Derived.Test.YtmijimpfkbgngaaDoorMemS
namespace Go.Proofs.YtmijimpfkbgngaaDoor
open Go.RowKit Go.Shelf

set_option maxHeartbeats 4000000 in
theorem walk_fnExactTurnsOf (s0 : ByteArray) (w : World) (hs00 : s0.size ≤ maxLen) (_hsh : w.ShapedOpen Tryd.prog) :
    Calls Tryd.prog 5 #[.string s0] w fun e w' => e = .returned (.bool true) ∧ Below w.heap.size w w' := by
  have hs0 : s0.size ≤ 9223372036854775807 := by unfold maxLen at hs00; exact hs00
  clear hs00
  by_cases hz0 : s0.size ≤ 1048576
  rotate_left
  · go_enter Tryd.func5, Tryd.ntmps5
    go_wp2_with fail
    go_ret
    exact ⟨rfl, Below.refl _ _⟩
  go_enter Tryd.func5, Tryd.ntmps5
  have q1 := fun  (W : World)  => spec_TurnsOf s0 W (by omega)
  have q2 := fun  (W : World)  => impl_TurnsOf s0 W (by omega)
  have hn : (tuOf s0).length ≤ 1048576 := (Nat.le_trans (tuOf_len s0) (by omega))
  generalize tuOf s0 = xs at q1 q2 hn
  generalize askB s0 = ok at q1 q2
  replace q1 := Lib.hid q1
  replace q2 := Lib.hid q2
  go_wp2_with fail
  refine (q1.out  w ).mono ?_
  rintro e w1 ⟨w0A, w0c, rfl, ho, hB⟩
  have O1 := Lib.hid ho
  have B2 := Lib.hid hB
  clear ho hB
  have z3 : w.heap.size ≤ w1.heap.size := B2.out.size
  have T4 := Lib.hid (B2.out)
  have LTw0 := Lib.hid O1.out.lt
  have R5 := Lib.hid (Row.of_own O1.out)
  clear O1
  have cwe : True := trivial
  go_wp2_with fail
  refine (q2.out  w1 ).mono ?_
  rintro e w2 ⟨g0A, g0c, rfl, ho, hB⟩
  have O6 := Lib.hid ho
  have B7 := Lib.hid hB
  clear ho hB
  have z8 : w1.heap.size ≤ w2.heap.size := B7.out.size
  have R9 := Lib.hid (R5.out.below (B7.out.mono (by omega)))
  clear R5
  have T10 := Lib.hid (T4.out.trans (B7.out.mono (by omega)))
  clear T4
  have LTg0 := Lib.hid O6.out.lt
  go_wp2_with fail
  refine (eqStringS_same g0A w0A xs g0c w0c w2 (Row.of_own O6.out) (R9.out.more (by omega)) (by omega)).mono ?_
  rintro e w3 ⟨rfl, hB⟩
  have B11 := Lib.hid hB
  clear hB
  have z12 : w2.heap.size ≤ w3.heap.size := B11.out.size
  have R13 := Lib.hid (R9.out.below (B11.out.mono (by omega)))
  clear R9
  have O14 := Lib.hid (own_below O6.out B11.out)
  clear O6
  have T15 := Lib.hid (T10.out.trans (B11.out.mono (by omega)))
  clear T10
  go_wp2_with fail
  refine (markStringS_own g0A xs g0c _ 1 w3 O14.out (by omega) (by omega) (by omega)).mono ?_
  rintro e w4 ⟨rfl, ho, hG⟩
  have G16 := Lib.hid hG
  have O17 := Lib.hid ho
  clear ho hG
  have z18 : w3.heap.size ≤ w4.heap.size := G16.out.size
  have R19 := Lib.hid (R13.out.kept G16.out (by omega) (fun g hg => by have := (O14.out.lt g hg).1; omega))
  clear R13
  have T20 := Lib.hid (T15.out.grown G16.out (by omega) (fun g hg => by have := (O14.out.lt g hg).1; omega))
  clear T15
  go_wp2_with fail
  refine (heldStringS_marks g0A xs.length g0c 1 w4 (Row.of_own O17.out) (by omega) (by omega) (by omega)).mono ?_
  rintro e w5 ⟨rfl, hB⟩
  have B21 := Lib.hid hB
  clear hB
  have z22 : w4.heap.size ≤ w5.heap.size := B21.out.size
  have R23 := Lib.hid (R19.out.below (B21.out.mono (by omega)))
  clear R19
  have O24 := Lib.hid (own_below O17.out B21.out)
  clear O17
  have T25 := Lib.hid (T20.out.trans (B21.out.mono (by omega)))
  clear T20
  go_wp2_with fail
  refine (q2.out  w5 ).mono ?_
  rintro e w6 ⟨h0A, h0c, rfl, ho, hB⟩
  have O26 := Lib.hid ho
  have B27 := Lib.hid hB
  clear ho hB
  have z28 : w5.heap.size ≤ w6.heap.size := B27.out.size
  have R29 := Lib.hid (R23.out.below (B27.out.mono (by omega)))
  clear R23
  have O30 := Lib.hid (own_below O24.out B27.out)
  clear O24
  have T31 := Lib.hid (T25.out.trans (B27.out.mono (by omega)))
  clear T25
  have LTh0 := Lib.hid O26.out.lt
  go_wp2_with fail
  refine (eqStringS_same h0A w0A xs h0c w0c w6 (Row.of_own O26.out) (R29.out.more (by omega)) (by omega)).mono ?_
  rintro e w7 ⟨rfl, hB⟩
  have B32 := Lib.hid hB
  clear hB
  have z33 : w6.heap.size ≤ w7.heap.size := B32.out.size
  have R34 := Lib.hid (R29.out.below (B32.out.mono (by omega)))
  clear R29
  have O35 := Lib.hid (own_below O30.out B32.out)
  clear O30
  have O36 := Lib.hid (own_below O26.out B32.out)
  clear O26
  have T37 := Lib.hid (T31.out.trans (B32.out.mono (by omega)))
  clear T31
  go_wp2_with fail
  refine (heldStringS_marks g0A xs.length g0c 1 w7 (Row.of_own O35.out) (by omega) (by omega) (by omega)).mono ?_
  rintro e w8 ⟨rfl, hB⟩
  have B38 := Lib.hid hB
  clear hB
  have z39 : w7.heap.size ≤ w8.heap.size := B38.out.size
  have R40 := Lib.hid (R34.out.below (B38.out.mono (by omega)))
  clear R34
  have O41 := Lib.hid (own_below O35.out B38.out)
  clear O35
  have T42 := Lib.hid (T37.out.trans (B38.out.mono (by omega)))
  clear T37
  go_wp2
  go_ret
  exact ⟨rfl, T42.out⟩
end Go.Proofs.YtmijimpfkbgngaaDoor
