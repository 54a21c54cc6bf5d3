/-
  WHAT THIS FILE PROVES: a call of the law FnExactParseSet returns true and turns nothing that was there, for every arguments that read as lists, texts and numbers.
-/
import Derived.Test.YtdcobmgamlhglaaDoorParse
namespace Go.Proofs.YtdcobmgamlhglaaDoor
open Go.RowKit Go.Shelf

set_option maxHeartbeats 4000000 in
theorem walk_fnExactParseSet (s0 : ByteArray) (w : World) (hs00 : s0.size ≤ maxLen) (_hsh : w.ShapedOpen Tryd.prog) :
    Calls Tryd.prog 8 #[.string s0] w fun e w' => e = .returned (.bool true) ∧ Below w.heap.size w w' := by
  have hs0 : s0.size ≤ 9223372036854775807 := by unfold maxLen at hs00; exact hs00
  clear hs00
  obtain ⟨m, hm0⟩ := Tryd.laysM147.s1_3 w _hsh
  have hmx := Lib.hid (row_one hm0)
  clear hm0
  by_cases hz0 : s0.size ≤ 1048576
  rotate_left
  · go_enter Tryd.func8, Tryd.ntmps8
    go_wp2_with fail
    go_ret
    exact ⟨rfl, Below.refl _ _⟩
  go_enter Tryd.func8, Tryd.ntmps8
  have q1 := fun  (W : World)  => spec_ParseSet s0 W hz0
  have q2 := fun  (W : World) (gm : Row W W.heap.size (some ⟨0, 0, none⟩) [.int .i64 m]) => impl_ParseSet m s0 W gm hz0
  have hn : (W.parseOf s0).length ≤ 1048576 := (by have := W.isSet_len (W.parts s0); unfold W.parseOf; split; (· simp); split; (· rename_i h; have := this h; omega); (· simp))
  generalize W.parseOf s0 = xs at q1 q2 hn
  generalize W.parseOk s0 = ok at q1 q2
  replace q1 := Lib.hid q1
  replace q2 := Lib.hid q2
  go_wp2_with fail
  refine (q1.out  w ).mono ?_
  rintro e w1 ⟨w0A, w0c, rfl, ho, hB⟩
  have O1 := Lib.hid ho
  have B2 := Lib.hid hB
  clear ho hB
  have z3 : w.heap.size ≤ w1.heap.size := B2.out.size
  have R4 := Lib.hid (hmx.out.below (B2.out.mono (by omega)))
  clear hmx
  have T5 := Lib.hid (B2.out)
  have LTw0 := Lib.hid O1.out.lt
  have R6 := Lib.hid (Row.of_own O1.out)
  clear O1
  have cwe : True := trivial
  go_wp2_with fail
  refine (q2.out  w1 (R4.out.more (by omega))).mono ?_
  rintro e w2 ⟨g0A, g0c, rfl, ho, hB⟩
  have O7 := Lib.hid ho
  have B8 := Lib.hid hB
  clear ho hB
  have z9 : w1.heap.size ≤ w2.heap.size := B8.out.size
  have R10 := Lib.hid (R4.out.below (B8.out.mono (by omega)))
  clear R4
  have R11 := Lib.hid (R6.out.below (B8.out.mono (by omega)))
  clear R6
  have T12 := Lib.hid (T5.out.trans (B8.out.mono (by omega)))
  clear T5
  have LTg0 := Lib.hid O7.out.lt
  go_wp2_with fail
  refine (eqStringS_same g0A w0A xs g0c w0c w2 (Row.of_own O7.out) (R11.out.more (by omega)) (by omega)).mono ?_
  rintro e w3 ⟨rfl, hB⟩
  have B13 := Lib.hid hB
  clear hB
  have z14 : w2.heap.size ≤ w3.heap.size := B13.out.size
  have R15 := Lib.hid (R10.out.below (B13.out.mono (by omega)))
  clear R10
  have R16 := Lib.hid (R11.out.below (B13.out.mono (by omega)))
  clear R11
  have O17 := Lib.hid (own_below O7.out B13.out)
  clear O7
  have T18 := Lib.hid (T12.out.trans (B13.out.mono (by omega)))
  clear T12
  go_wp2_with fail
  refine (markStringS_own g0A xs g0c _ 1 w3 O17.out (by omega) (by omega) (by omega)).mono ?_
  rintro e w4 ⟨rfl, ho, hG⟩
  have G19 := Lib.hid hG
  have O20 := Lib.hid ho
  clear ho hG
  have z21 : w3.heap.size ≤ w4.heap.size := G19.out.size
  have R22 := Lib.hid (R15.out.kept G19.out (by omega) (fun g hg => by have := (O17.out.lt g hg).1; omega))
  clear R15
  have R23 := Lib.hid (R16.out.kept G19.out (by omega) (fun g hg => by have := (O17.out.lt g hg).1; omega))
  clear R16
  have T24 := Lib.hid (T18.out.grown G19.out (by omega) (fun g hg => by have := (O17.out.lt g hg).1; omega))
  clear T18
  go_wp2_with fail
  refine (heldStringS_marks g0A xs.length g0c 1 w4 (Row.of_own O20.out) (by omega) (by omega) (by omega)).mono ?_
  rintro e w5 ⟨rfl, hB⟩
  have B25 := Lib.hid hB
  clear hB
  have z26 : w4.heap.size ≤ w5.heap.size := B25.out.size
  have R27 := Lib.hid (R22.out.below (B25.out.mono (by omega)))
  clear R22
  have R28 := Lib.hid (R23.out.below (B25.out.mono (by omega)))
  clear R23
  have O29 := Lib.hid (own_below O20.out B25.out)
  clear O20
  have T30 := Lib.hid (T24.out.trans (B25.out.mono (by omega)))
  clear T24
  go_wp2_with fail
  refine (q2.out  w5 (R27.out.more (by omega))).mono ?_
  rintro e w6 ⟨h0A, h0c, rfl, ho, hB⟩
  have O31 := Lib.hid ho
  have B32 := Lib.hid hB
  clear ho hB
  have z33 : w5.heap.size ≤ w6.heap.size := B32.out.size
  have R34 := Lib.hid (R27.out.below (B32.out.mono (by omega)))
  clear R27
  have R35 := Lib.hid (R28.out.below (B32.out.mono (by omega)))
  clear R28
  have O36 := Lib.hid (own_below O29.out B32.out)
  clear O29
  have T37 := Lib.hid (T30.out.trans (B32.out.mono (by omega)))
  clear T30
  have LTh0 := Lib.hid O31.out.lt
  go_wp2_with fail
  refine (eqStringS_same h0A w0A xs h0c w0c w6 (Row.of_own O31.out) (R35.out.more (by omega)) (by omega)).mono ?_
  rintro e w7 ⟨rfl, hB⟩
  have B38 := Lib.hid hB
  clear hB
  have z39 : w6.heap.size ≤ w7.heap.size := B38.out.size
  have R40 := Lib.hid (R34.out.below (B38.out.mono (by omega)))
  clear R34
  have R41 := Lib.hid (R35.out.below (B38.out.mono (by omega)))
  clear R35
  have O42 := Lib.hid (own_below O36.out B38.out)
  clear O36
  have O43 := Lib.hid (own_below O31.out B38.out)
  clear O31
  have T44 := Lib.hid (T37.out.trans (B38.out.mono (by omega)))
  clear T37
  go_wp2_with fail
  refine (heldStringS_marks g0A xs.length g0c 1 w7 (Row.of_own O42.out) (by omega) (by omega) (by omega)).mono ?_
  rintro e w8 ⟨rfl, hB⟩
  have B45 := Lib.hid hB
  clear hB
  have z46 : w7.heap.size ≤ w8.heap.size := B45.out.size
  have R47 := Lib.hid (R40.out.below (B45.out.mono (by omega)))
  clear R40
  have R48 := Lib.hid (R41.out.below (B45.out.mono (by omega)))
  clear R41
  have O49 := Lib.hid (own_below O42.out B45.out)
  clear O42
  have T50 := Lib.hid (T44.out.trans (B45.out.mono (by omega)))
  clear T44
  go_wp2
  go_ret
  exact ⟨rfl, T50.out⟩
end Go.Proofs.YtdcobmgamlhglaaDoor
