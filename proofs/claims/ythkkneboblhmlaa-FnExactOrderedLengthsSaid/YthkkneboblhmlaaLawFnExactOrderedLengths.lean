/-
  WHAT THIS FILE PROVES: a call of the law FnExactOrderedLengths returns true and turns nothing that was there, for every arguments that read as lists, texts and numbers.
-/
import Derived.Test.YthkkneboblhmlaaFsK
import Derived.Test.YthkkneboblhmlaaToInts
namespace Go.Proofs.Ythkkneboblhmlaa
open Go.RowKit Go.Shelf

set_option maxHeartbeats 4000000 in
theorem walk_fnExactOrderedLengths (A0 : Option Addr) (z0 : List Int) (c0 : Nat) (w : World) (h0 : Row w w.heap.size A0 (ints z0)) (hl00 : z0.length ≤ maxLen) (_hsh : w.ShapedOpen Try.prog) :
    Calls Try.prog 3 #[.slice A0 z0.length c0] w fun e w' => e = .returned (.bool true) ∧ Below w.heap.size w w' := by
  have hl0 : z0.length ≤ 9223372036854775807 := by unfold maxLen at hl00; exact hl00
  replace h0 := Lib.hid h0
  clear hl00
  by_cases hlen0 : z0.length ≤ 1048576
  rotate_left
  · go_enter Try.func3, Try.ntmps3
    go_wp2_with fail
    go_ret
    exact ⟨rfl, Below.refl _ _⟩
  have hzl0 : (z0.length : Int) ≤ 1048576 := by omega
  go_enter Try.func3, Try.ntmps3
  have q1 := fun (B0 : Option Addr) (d0 : Nat) (W : World) (g0 : Row W W.heap.size B0 (ints z0)) (e0 : z0.length ≤ d0) => spec_OrderedLengths B0 z0 d0 W g0 e0 hl0
  have q2 := fun (B0 : Option Addr) (d0 : Nat) (W : World) (g0 : Row W W.heap.size B0 (ints z0)) (e0 : z0.length ≤ d0) => impl_OrderedLengths B0 z0 d0 W g0 e0 hl0
  have hn : (ogOf z0).length ≤ 1048576 := (Nat.le_trans (ogOf_len z0) (by omega))
  generalize ogOf z0 = xs at q1 q2 hn
  generalize ogOk z0 = ok at q1 q2
  replace q1 := Lib.hid q1
  replace q2 := Lib.hid q2
  go_wp2_with fail
  refine (toIntS_any A0 z0 c0 w (h0.out.more (by omega)) hlen0).mono ?_
  rintro e w1 ⟨Ap0, cp0, rfl, ho, hB⟩
  have O1 := Lib.hid ho
  have B2 := Lib.hid hB
  clear ho hB
  have z3 : w.heap.size ≤ w1.heap.size := B2.out.size
  have R4 := Lib.hid (h0.out.below (B2.out.mono (by omega)))
  clear h0
  have T5 := Lib.hid (B2.out)
  have LTp0 := Lib.hid O1.out.lt
  go_wp2_with fail
  refine (q1.out Ap0 cp0 w1 (Row.of_own O1.out) (own_cap O1.out)).mono ?_
  rintro e w2 ⟨w0A, w0c, rfl, ho, hB⟩
  have O6 := Lib.hid ho
  have B7 := Lib.hid hB
  clear ho hB
  have z8 : w1.heap.size ≤ w2.heap.size := B7.out.size
  have R9 := Lib.hid (R4.out.below (B7.out.mono (by omega)))
  clear R4
  have T10 := Lib.hid (T5.out.trans (B7.out.mono (by omega)))
  clear T5
  have LTw0 := Lib.hid O6.out.lt
  have R11 := Lib.hid (Row.of_own O6.out)
  clear O6
  have cwe : True := trivial
  go_wp2_with fail
  refine (toIntS_any A0 z0 c0 w2 (R9.out.more (by omega)) hlen0).mono ?_
  rintro e w3 ⟨Ax0, cx0, rfl, ho, hB⟩
  have O12 := Lib.hid ho
  have B13 := Lib.hid hB
  clear ho hB
  have z14 : w2.heap.size ≤ w3.heap.size := B13.out.size
  have R15 := Lib.hid (R9.out.below (B13.out.mono (by omega)))
  clear R9
  have R16 := Lib.hid (R11.out.below (B13.out.mono (by omega)))
  clear R11
  have T17 := Lib.hid (T10.out.trans (B13.out.mono (by omega)))
  clear T10
  have LTx0 := Lib.hid O12.out.lt
  go_wp2_with fail
  refine (q2.out Ax0 cx0 w3 (Row.of_own O12.out) (own_cap O12.out)).mono ?_
  rintro e w4 ⟨g0A, g0c, rfl, ho, hB⟩
  have O18 := Lib.hid ho
  have B19 := Lib.hid hB
  clear ho hB
  have z20 : w3.heap.size ≤ w4.heap.size := B19.out.size
  have R21 := Lib.hid (R15.out.below (B19.out.mono (by omega)))
  clear R15
  have R22 := Lib.hid (R16.out.below (B19.out.mono (by omega)))
  clear R16
  have O23 := Lib.hid (own_below O12.out B19.out)
  clear O12
  have T24 := Lib.hid (T17.out.trans (B19.out.mono (by omega)))
  clear T17
  have LTg0 := Lib.hid O18.out.lt
  go_wp2_with fail
  refine (eqIntS_same g0A w0A xs g0c w0c w4 (Row.of_own O18.out) (R22.out.more (by omega)) (by omega)).mono ?_
  rintro e w5 ⟨rfl, hB⟩
  have B25 := Lib.hid hB
  clear hB
  have z26 : w4.heap.size ≤ w5.heap.size := B25.out.size
  have R27 := Lib.hid (R21.out.below (B25.out.mono (by omega)))
  clear R21
  have R28 := Lib.hid (R22.out.below (B25.out.mono (by omega)))
  clear R22
  have O29 := Lib.hid (own_below O23.out B25.out)
  clear O23
  have O30 := Lib.hid (own_below O18.out B25.out)
  clear O18
  have T31 := Lib.hid (T24.out.trans (B25.out.mono (by omega)))
  clear T24
  go_wp2_with fail
  refine (toIntS_any A0 z0 c0 w5 (R27.out.more (by omega)) hlen0).mono ?_
  rintro e w6 ⟨Ay0, cy0, rfl, ho, hB⟩
  have O32 := Lib.hid ho
  have B33 := Lib.hid hB
  clear ho hB
  have z34 : w5.heap.size ≤ w6.heap.size := B33.out.size
  have R35 := Lib.hid (R27.out.below (B33.out.mono (by omega)))
  clear R27
  have R36 := Lib.hid (R28.out.below (B33.out.mono (by omega)))
  clear R28
  have O37 := Lib.hid (own_below O29.out B33.out)
  clear O29
  have O38 := Lib.hid (own_below O30.out B33.out)
  clear O30
  have T39 := Lib.hid (T31.out.trans (B33.out.mono (by omega)))
  clear T31
  go_wp2_with fail
  refine (eqIntS_same Ax0 Ay0 z0 cx0 cy0 w6 (Row.of_own O37.out) (Row.of_own O32.out) (by omega)).mono ?_
  rintro e w7 ⟨rfl, hB⟩
  have B40 := Lib.hid hB
  clear hB O32
  have z41 : w6.heap.size ≤ w7.heap.size := B40.out.size
  have R42 := Lib.hid (R35.out.below (B40.out.mono (by omega)))
  clear R35
  have R43 := Lib.hid (R36.out.below (B40.out.mono (by omega)))
  clear R36
  have O44 := Lib.hid (own_below O37.out B40.out)
  clear O37
  have O45 := Lib.hid (own_below O38.out B40.out)
  clear O38
  have T46 := Lib.hid (T39.out.trans (B40.out.mono (by omega)))
  clear T39
  go_wp2_with fail
  refine (markIntS_own Ax0 z0 cx0 _ 1 w7 O44.out (by omega) (by omega) (by omega)).mono ?_
  rintro e w8 ⟨rfl, ho, hG⟩
  have G47 := Lib.hid hG
  clear ho hG
  have z48 : w7.heap.size ≤ w8.heap.size := G47.out.size
  have R49 := Lib.hid (R42.out.kept G47.out (by omega) (fun g hg => by have := (O44.out.lt g hg).1; omega))
  clear R42
  have R50 := Lib.hid (R43.out.kept G47.out (by omega) (fun g hg => by have := (O44.out.lt g hg).1; omega))
  clear R43
  have O51 := Lib.hid (O45.out.kept G47.out (own_ne O45.out (fun g hg => by have := (LTx0.out g hg).2; omega)))
  clear O45
  have T52 := Lib.hid (T46.out.grown G47.out (by omega) (fun g hg => by have := (O44.out.lt g hg).1; omega))
  clear T46
  go_wp2_with fail
  refine (eqIntS_same g0A w0A xs g0c w0c w8 (Row.of_own O51.out) (R50.out.more (by omega)) (by omega)).mono ?_
  rintro e w9 ⟨rfl, hB⟩
  have B53 := Lib.hid hB
  clear hB
  have z54 : w8.heap.size ≤ w9.heap.size := B53.out.size
  have R55 := Lib.hid (R49.out.below (B53.out.mono (by omega)))
  clear R49
  have R56 := Lib.hid (R50.out.below (B53.out.mono (by omega)))
  clear R50
  have O57 := Lib.hid (own_below O51.out B53.out)
  clear O51
  have T58 := Lib.hid (T52.out.trans (B53.out.mono (by omega)))
  clear T52
  go_wp2_with fail
  refine (markIntS_own g0A xs g0c _ 1 w9 O57.out (by omega) (by omega) (by omega)).mono ?_
  rintro e w10 ⟨rfl, ho, hG⟩
  have G59 := Lib.hid hG
  have O60 := Lib.hid ho
  clear ho hG
  have z61 : w9.heap.size ≤ w10.heap.size := G59.out.size
  have R62 := Lib.hid (R55.out.kept G59.out (by omega) (fun g hg => by have := (O57.out.lt g hg).1; omega))
  clear R55
  have R63 := Lib.hid (R56.out.kept G59.out (by omega) (fun g hg => by have := (O57.out.lt g hg).1; omega))
  clear R56
  have T64 := Lib.hid (T58.out.grown G59.out (by omega) (fun g hg => by have := (O57.out.lt g hg).1; omega))
  clear T58
  go_wp2_with fail
  refine (heldIntS_marks g0A xs.length g0c 1 w10 (Row.of_own O60.out) (by omega) (by omega) (by omega)).mono ?_
  rintro e w' ⟨rfl, rfl⟩
  go_wp2_with fail
  refine (toIntS_any A0 z0 c0 w10 (R62.out.more (by omega)) hlen0).mono ?_
  rintro e w11 ⟨Au0, cu0, rfl, ho, hB⟩
  have O65 := Lib.hid ho
  have B66 := Lib.hid hB
  clear ho hB
  have z67 : w10.heap.size ≤ w11.heap.size := B66.out.size
  have R68 := Lib.hid (R62.out.below (B66.out.mono (by omega)))
  clear R62
  have R69 := Lib.hid (R63.out.below (B66.out.mono (by omega)))
  clear R63
  have O70 := Lib.hid (own_below O60.out B66.out)
  clear O60
  have T71 := Lib.hid (T64.out.trans (B66.out.mono (by omega)))
  clear T64
  have LTu0 := Lib.hid O65.out.lt
  go_wp2_with fail
  refine (q2.out Au0 cu0 w11 (Row.of_own O65.out) (own_cap O65.out)).mono ?_
  rintro e w12 ⟨h0A, h0c, rfl, ho, hB⟩
  have O72 := Lib.hid ho
  have B73 := Lib.hid hB
  clear ho hB
  have z74 : w11.heap.size ≤ w12.heap.size := B73.out.size
  have R75 := Lib.hid (R68.out.below (B73.out.mono (by omega)))
  clear R68
  have R76 := Lib.hid (R69.out.below (B73.out.mono (by omega)))
  clear R69
  have O77 := Lib.hid (own_below O70.out B73.out)
  clear O70
  have T78 := Lib.hid (T71.out.trans (B73.out.mono (by omega)))
  clear T71
  have LTh0 := Lib.hid O72.out.lt
  go_wp2_with fail
  refine (eqIntS_same h0A w0A xs h0c w0c w12 (Row.of_own O72.out) (R76.out.more (by omega)) (by omega)).mono ?_
  rintro e w13 ⟨rfl, hB⟩
  have B79 := Lib.hid hB
  clear hB
  have z80 : w12.heap.size ≤ w13.heap.size := B79.out.size
  have R81 := Lib.hid (R75.out.below (B79.out.mono (by omega)))
  clear R75
  have R82 := Lib.hid (R76.out.below (B79.out.mono (by omega)))
  clear R76
  have O83 := Lib.hid (own_below O77.out B79.out)
  clear O77
  have O84 := Lib.hid (own_below O72.out B79.out)
  clear O72
  have T85 := Lib.hid (T78.out.trans (B79.out.mono (by omega)))
  clear T78
  go_wp2_with fail
  refine (heldIntS_marks g0A xs.length g0c 1 w13 (Row.of_own O83.out) (by omega) (by omega) (by omega)).mono ?_
  rintro e w' ⟨rfl, rfl⟩
  go_wp2
  go_ret
  exact ⟨rfl, T85.out⟩
end Go.Proofs.Ythkkneboblhmlaa
