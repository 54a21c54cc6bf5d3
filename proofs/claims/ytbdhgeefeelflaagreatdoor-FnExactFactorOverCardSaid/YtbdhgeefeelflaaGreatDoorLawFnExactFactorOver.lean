/-
  WHAT THIS FILE PROVES: a call of the law FnExactFactorOver returns true and turns nothing that was there, for every arguments that read as lists, texts and numbers.
-/
import Derived.Test.YtbdhgeefeelflaaGreatDoorFacS
import Derived.Test.YtbdhgeefeelflaaGreatDoorFacI
import Derived.Test.YtbdhgeefeelflaaGreatDoorMemS
namespace Go.Proofs.YtbdhgeefeelflaaGreatDoor
open Go.RowKit Go.Shelf

set_option maxHeartbeats 4000000 in
theorem walk_fnExactFactorOver (A0 : Option Addr) (s0 : List ByteArray) (c0 : Nat) (A1 : Option Addr) (s1 : List ByteArray) (c1 : Nat) (w : World) (h0 : Row w w.heap.size A0 (strs s0)) (hl00 : s0.length ≤ maxLen) (hs00 : ∀ s ∈ s0, s.size ≤ maxLen) (h1 : Row w w.heap.size A1 (strs s1)) (hl10 : s1.length ≤ maxLen) (hs10 : ∀ s ∈ s1, s.size ≤ maxLen) (_hsh : w.ShapedOpen Tryz.prog) :
    Calls Tryz.prog 3 #[.slice A0 s0.length c0, .slice A1 s1.length c1] w fun e w' => e = .returned (.bool true) ∧ Below w.heap.size w w' := by
  have hl0 : s0.length ≤ 9223372036854775807 := by unfold maxLen at hl00; exact hl00
  have hs0 : Hid (∀ s ∈ s0, s.size ≤ 9223372036854775807) := fun s hs => by have := hs00 s hs; unfold maxLen at this; exact this
  replace h0 := Lib.hid h0
  clear hl00 hs00
  have hl1 : s1.length ≤ 9223372036854775807 := by unfold maxLen at hl10; exact hl10
  have hs1 : Hid (∀ s ∈ s1, s.size ≤ 9223372036854775807) := fun s hs => by have := hs10 s hs; unfold maxLen at this; exact this
  replace h1 := Lib.hid h1
  clear hl10 hs10
  go_enter Tryz.func3, Tryz.ntmps3
  go_wp2_with fail
  refine (szStringS_any A0 s0 c0 1048576 w h0.out hl0 hs0.out (by omega) (by omega)).mono ?_
  rintro e w' ⟨r0, rfl, rfl, hr0a, hr0b, hr0c⟩
  replace hr0c := Lib.hid hr0c
  by_cases hr0 : r0 < 0
  · go_wp2_with fail
    go_ret
    exact ⟨rfl, Below.refl _ _⟩
  have hlen0 := (hr0c.out (by omega)).1
  go_wp2_with fail
  refine (szStringS_any A1 s1 c1 r0 w h1.out hl1 hs1.out (by omega) (by omega)).mono ?_
  rintro e w' ⟨r1, rfl, rfl, hr1a, hr1b, hr1c⟩
  replace hr1c := Lib.hid hr1c
  by_cases hr1 : r1 < 0
  · go_wp2_with fail
    go_ret
    exact ⟨rfl, Below.refl _ _⟩
  have hlen1 := (hr1c.out (by omega)).1
  have q1 := fun (B0 : Option Addr) (d0 : Nat) (B1 : Option Addr) (d1 : Nat) (W : World) (g0 : Row W W.heap.size B0 (strs s0)) (e0 : s0.length ≤ d0) (g1 : Row W W.heap.size B1 (strs s1)) (e1 : s1.length ≤ d1) => spec_FactorOver B0 s0 d0 B1 s1 d1 W g0 e0 hl0 hs0.out g1 e1 hl1 hs1.out
  have q2 := fun (B0 : Option Addr) (d0 : Nat) (B1 : Option Addr) (d1 : Nat) (W : World) (g0 : Row W W.heap.size B0 (strs s0)) (e0 : s0.length ≤ d0) (g1 : Row W W.heap.size B1 (strs s1)) (e1 : s1.length ≤ d1) => impl_FactorOver B0 s0 d0 B1 s1 d1 W g0 e0 hl0 hs0.out g1 e1 hl1 hs1.out
  have hn : (fcOf s0 s1).length ≤ 1048576 := (fcOf_len s0 s1)
  generalize fcOf s0 s1 = xs at q1 q2 hn
  generalize fcOk s0 s1 = ok at q1 q2
  replace q1 := Lib.hid q1
  replace q2 := Lib.hid q2
  go_wp2_with fail
  refine (toStringS_any A0 s0 c0 w (h0.out.more (by omega)) hlen0).mono ?_
  rintro e w1 ⟨Ap0, cp0, rfl, ho, hB⟩
  have O1 := Lib.hid ho
  have B2 := Lib.hid hB
  clear ho hB
  have z3 : w.heap.size ≤ w1.heap.size := B2.out.size
  have R4 := Lib.hid (h0.out.below (B2.out.mono (by omega)))
  clear h0
  have R5 := Lib.hid (h1.out.below (B2.out.mono (by omega)))
  clear h1
  have T6 := Lib.hid (B2.out)
  have LTp0 := Lib.hid O1.out.lt
  go_wp2_with fail
  refine (toStringS_any A1 s1 c1 w1 (R5.out.more (by omega)) hlen1).mono ?_
  rintro e w2 ⟨Ap1, cp1, rfl, ho, hB⟩
  have O7 := Lib.hid ho
  have B8 := Lib.hid hB
  clear ho hB
  have z9 : w1.heap.size ≤ w2.heap.size := B8.out.size
  have R10 := Lib.hid (R4.out.below (B8.out.mono (by omega)))
  clear R4
  have R11 := Lib.hid (R5.out.below (B8.out.mono (by omega)))
  clear R5
  have O12 := Lib.hid (own_below O1.out B8.out)
  clear O1
  have T13 := Lib.hid (T6.out.trans (B8.out.mono (by omega)))
  clear T6
  have LTp1 := Lib.hid O7.out.lt
  go_wp2_with fail
  refine (q1.out Ap0 cp0 Ap1 cp1 w2 (Row.of_own O12.out) (own_cap O12.out) (Row.of_own O7.out) (own_cap O7.out)).mono ?_
  rintro e w3 ⟨w0A, w0c, rfl, ho, hB⟩
  have O14 := Lib.hid ho
  have B15 := Lib.hid hB
  clear ho hB
  have z16 : w2.heap.size ≤ w3.heap.size := B15.out.size
  have R17 := Lib.hid (R10.out.below (B15.out.mono (by omega)))
  clear R10
  have R18 := Lib.hid (R11.out.below (B15.out.mono (by omega)))
  clear R11
  have T19 := Lib.hid (T13.out.trans (B15.out.mono (by omega)))
  clear T13
  have LTw0 := Lib.hid O14.out.lt
  have R20 := Lib.hid (Row.of_own O14.out)
  clear O14
  have cwe : True := trivial
  go_wp2_with fail
  refine (toStringS_any A0 s0 c0 w3 (R17.out.more (by omega)) hlen0).mono ?_
  rintro e w4 ⟨Ax0, cx0, rfl, ho, hB⟩
  have O21 := Lib.hid ho
  have B22 := Lib.hid hB
  clear ho hB
  have z23 : w3.heap.size ≤ w4.heap.size := B22.out.size
  have R24 := Lib.hid (R17.out.below (B22.out.mono (by omega)))
  clear R17
  have R25 := Lib.hid (R18.out.below (B22.out.mono (by omega)))
  clear R18
  have R26 := Lib.hid (R20.out.below (B22.out.mono (by omega)))
  clear R20
  have T27 := Lib.hid (T19.out.trans (B22.out.mono (by omega)))
  clear T19
  have LTx0 := Lib.hid O21.out.lt
  go_wp2_with fail
  refine (toStringS_any A1 s1 c1 w4 (R25.out.more (by omega)) hlen1).mono ?_
  rintro e w5 ⟨Ax1, cx1, rfl, ho, hB⟩
  have O28 := Lib.hid ho
  have B29 := Lib.hid hB
  clear ho hB
  have z30 : w4.heap.size ≤ w5.heap.size := B29.out.size
  have R31 := Lib.hid (R24.out.below (B29.out.mono (by omega)))
  clear R24
  have R32 := Lib.hid (R25.out.below (B29.out.mono (by omega)))
  clear R25
  have R33 := Lib.hid (R26.out.below (B29.out.mono (by omega)))
  clear R26
  have O34 := Lib.hid (own_below O21.out B29.out)
  clear O21
  have T35 := Lib.hid (T27.out.trans (B29.out.mono (by omega)))
  clear T27
  have LTx1 := Lib.hid O28.out.lt
  go_wp2_with fail
  refine (q2.out Ax0 cx0 Ax1 cx1 w5 (Row.of_own O34.out) (own_cap O34.out) (Row.of_own O28.out) (own_cap O28.out)).mono ?_
  rintro e w6 ⟨g0A, g0c, rfl, ho, hB⟩
  have O36 := Lib.hid ho
  have B37 := Lib.hid hB
  clear ho hB
  have z38 : w5.heap.size ≤ w6.heap.size := B37.out.size
  have R39 := Lib.hid (R31.out.below (B37.out.mono (by omega)))
  clear R31
  have R40 := Lib.hid (R32.out.below (B37.out.mono (by omega)))
  clear R32
  have R41 := Lib.hid (R33.out.below (B37.out.mono (by omega)))
  clear R33
  have O42 := Lib.hid (own_below O34.out B37.out)
  clear O34
  have O43 := Lib.hid (own_below O28.out B37.out)
  clear O28
  have T44 := Lib.hid (T35.out.trans (B37.out.mono (by omega)))
  clear T35
  have LTg0 := Lib.hid O36.out.lt
  go_wp2_with fail
  refine (eqStringS_same g0A w0A xs g0c w0c w6 (Row.of_own O36.out) (R41.out.more (by omega)) (by omega)).mono ?_
  rintro e w7 ⟨rfl, hB⟩
  have B45 := Lib.hid hB
  clear hB
  have z46 : w6.heap.size ≤ w7.heap.size := B45.out.size
  have R47 := Lib.hid (R39.out.below (B45.out.mono (by omega)))
  clear R39
  have R48 := Lib.hid (R40.out.below (B45.out.mono (by omega)))
  clear R40
  have R49 := Lib.hid (R41.out.below (B45.out.mono (by omega)))
  clear R41
  have O50 := Lib.hid (own_below O42.out B45.out)
  clear O42
  have O51 := Lib.hid (own_below O43.out B45.out)
  clear O43
  have O52 := Lib.hid (own_below O36.out B45.out)
  clear O36
  have T53 := Lib.hid (T44.out.trans (B45.out.mono (by omega)))
  clear T44
  go_wp2_with fail
  refine (toStringS_any A0 s0 c0 w7 (R47.out.more (by omega)) hlen0).mono ?_
  rintro e w8 ⟨Ay0, cy0, rfl, ho, hB⟩
  have O54 := Lib.hid ho
  have B55 := Lib.hid hB
  clear ho hB
  have z56 : w7.heap.size ≤ w8.heap.size := B55.out.size
  have R57 := Lib.hid (R47.out.below (B55.out.mono (by omega)))
  clear R47
  have R58 := Lib.hid (R48.out.below (B55.out.mono (by omega)))
  clear R48
  have R59 := Lib.hid (R49.out.below (B55.out.mono (by omega)))
  clear R49
  have O60 := Lib.hid (own_below O50.out B55.out)
  clear O50
  have O61 := Lib.hid (own_below O51.out B55.out)
  clear O51
  have O62 := Lib.hid (own_below O52.out B55.out)
  clear O52
  have T63 := Lib.hid (T53.out.trans (B55.out.mono (by omega)))
  clear T53
  go_wp2_with fail
  refine (eqStringS_same Ax0 Ay0 s0 cx0 cy0 w8 (Row.of_own O60.out) (Row.of_own O54.out) (by omega)).mono ?_
  rintro e w9 ⟨rfl, hB⟩
  have B64 := Lib.hid hB
  clear hB O54
  have z65 : w8.heap.size ≤ w9.heap.size := B64.out.size
  have R66 := Lib.hid (R57.out.below (B64.out.mono (by omega)))
  clear R57
  have R67 := Lib.hid (R58.out.below (B64.out.mono (by omega)))
  clear R58
  have R68 := Lib.hid (R59.out.below (B64.out.mono (by omega)))
  clear R59
  have O69 := Lib.hid (own_below O60.out B64.out)
  clear O60
  have O70 := Lib.hid (own_below O61.out B64.out)
  clear O61
  have O71 := Lib.hid (own_below O62.out B64.out)
  clear O62
  have T72 := Lib.hid (T63.out.trans (B64.out.mono (by omega)))
  clear T63
  go_wp2_with fail
  refine (toStringS_any A1 s1 c1 w9 (R67.out.more (by omega)) hlen1).mono ?_
  rintro e w10 ⟨Ay1, cy1, rfl, ho, hB⟩
  have O73 := Lib.hid ho
  have B74 := Lib.hid hB
  clear ho hB
  have z75 : w9.heap.size ≤ w10.heap.size := B74.out.size
  have R76 := Lib.hid (R66.out.below (B74.out.mono (by omega)))
  clear R66
  have R77 := Lib.hid (R67.out.below (B74.out.mono (by omega)))
  clear R67
  have R78 := Lib.hid (R68.out.below (B74.out.mono (by omega)))
  clear R68
  have O79 := Lib.hid (own_below O69.out B74.out)
  clear O69
  have O80 := Lib.hid (own_below O70.out B74.out)
  clear O70
  have O81 := Lib.hid (own_below O71.out B74.out)
  clear O71
  have T82 := Lib.hid (T72.out.trans (B74.out.mono (by omega)))
  clear T72
  go_wp2_with fail
  refine (eqStringS_same Ax1 Ay1 s1 cx1 cy1 w10 (Row.of_own O80.out) (Row.of_own O73.out) (by omega)).mono ?_
  rintro e w11 ⟨rfl, hB⟩
  have B83 := Lib.hid hB
  clear hB O73
  have z84 : w10.heap.size ≤ w11.heap.size := B83.out.size
  have R85 := Lib.hid (R76.out.below (B83.out.mono (by omega)))
  clear R76
  have R86 := Lib.hid (R77.out.below (B83.out.mono (by omega)))
  clear R77
  have R87 := Lib.hid (R78.out.below (B83.out.mono (by omega)))
  clear R78
  have O88 := Lib.hid (own_below O79.out B83.out)
  clear O79
  have O89 := Lib.hid (own_below O80.out B83.out)
  clear O80
  have O90 := Lib.hid (own_below O81.out B83.out)
  clear O81
  have T91 := Lib.hid (T82.out.trans (B83.out.mono (by omega)))
  clear T82
  go_wp2_with fail
  refine (markStringS_own Ax0 s0 cx0 _ 1 w11 O88.out (by omega) (by omega) (by omega)).mono ?_
  rintro e w12 ⟨rfl, ho, hG⟩
  have G92 := Lib.hid hG
  clear ho hG
  have z93 : w11.heap.size ≤ w12.heap.size := G92.out.size
  have R94 := Lib.hid (R85.out.kept G92.out (by omega) (fun g hg => by have := (O88.out.lt g hg).1; omega))
  clear R85
  have R95 := Lib.hid (R86.out.kept G92.out (by omega) (fun g hg => by have := (O88.out.lt g hg).1; omega))
  clear R86
  have R96 := Lib.hid (R87.out.kept G92.out (by omega) (fun g hg => by have := (O88.out.lt g hg).1; omega))
  clear R87
  have O97 := Lib.hid (O89.out.kept G92.out (own_ne O89.out (fun g hg => by have := (LTx0.out g hg).2; omega)))
  clear O89
  have O98 := Lib.hid (O90.out.kept G92.out (own_ne O90.out (fun g hg => by have := (LTx0.out g hg).2; omega)))
  clear O90
  have T99 := Lib.hid (T91.out.grown G92.out (by omega) (fun g hg => by have := (O88.out.lt g hg).1; omega))
  clear T91
  go_wp2_with fail
  refine (markStringS_own Ax1 s1 cx1 _ (1 + (s0.length : Int)) w12 O97.out (by omega) (by omega) (by omega)).mono ?_
  rintro e w13 ⟨rfl, ho, hG⟩
  have G100 := Lib.hid hG
  clear ho hG
  have z101 : w12.heap.size ≤ w13.heap.size := G100.out.size
  have R102 := Lib.hid (R94.out.kept G100.out (by omega) (fun g hg => by have := (O97.out.lt g hg).1; omega))
  clear R94
  have R103 := Lib.hid (R95.out.kept G100.out (by omega) (fun g hg => by have := (O97.out.lt g hg).1; omega))
  clear R95
  have R104 := Lib.hid (R96.out.kept G100.out (by omega) (fun g hg => by have := (O97.out.lt g hg).1; omega))
  clear R96
  have O105 := Lib.hid (O98.out.kept G100.out (own_ne O98.out (fun g hg => by have := (LTx1.out g hg).2; omega)))
  clear O98
  have T106 := Lib.hid (T99.out.grown G100.out (by omega) (fun g hg => by have := (O97.out.lt g hg).1; omega))
  clear T99
  go_wp2_with fail
  refine (eqStringS_same g0A w0A xs g0c w0c w13 (Row.of_own O105.out) (R104.out.more (by omega)) (by omega)).mono ?_
  rintro e w14 ⟨rfl, hB⟩
  have B107 := Lib.hid hB
  clear hB
  have z108 : w13.heap.size ≤ w14.heap.size := B107.out.size
  have R109 := Lib.hid (R102.out.below (B107.out.mono (by omega)))
  clear R102
  have R110 := Lib.hid (R103.out.below (B107.out.mono (by omega)))
  clear R103
  have R111 := Lib.hid (R104.out.below (B107.out.mono (by omega)))
  clear R104
  have O112 := Lib.hid (own_below O105.out B107.out)
  clear O105
  have T113 := Lib.hid (T106.out.trans (B107.out.mono (by omega)))
  clear T106
  go_wp2_with fail
  refine (markStringS_own g0A xs g0c _ 1 w14 O112.out (by omega) (by omega) (by omega)).mono ?_
  rintro e w15 ⟨rfl, ho, hG⟩
  have G114 := Lib.hid hG
  have O115 := Lib.hid ho
  clear ho hG
  have z116 : w14.heap.size ≤ w15.heap.size := G114.out.size
  have R117 := Lib.hid (R109.out.kept G114.out (by omega) (fun g hg => by have := (O112.out.lt g hg).1; omega))
  clear R109
  have R118 := Lib.hid (R110.out.kept G114.out (by omega) (fun g hg => by have := (O112.out.lt g hg).1; omega))
  clear R110
  have R119 := Lib.hid (R111.out.kept G114.out (by omega) (fun g hg => by have := (O112.out.lt g hg).1; omega))
  clear R111
  have T120 := Lib.hid (T113.out.grown G114.out (by omega) (fun g hg => by have := (O112.out.lt g hg).1; omega))
  clear T113
  go_wp2_with fail
  refine (heldStringS_marks g0A xs.length g0c 1 w15 (Row.of_own O115.out) (by omega) (by omega) (by omega)).mono ?_
  rintro e w16 ⟨rfl, hB⟩
  have B121 := Lib.hid hB
  clear hB
  have z122 : w15.heap.size ≤ w16.heap.size := B121.out.size
  have R123 := Lib.hid (R117.out.below (B121.out.mono (by omega)))
  clear R117
  have R124 := Lib.hid (R118.out.below (B121.out.mono (by omega)))
  clear R118
  have R125 := Lib.hid (R119.out.below (B121.out.mono (by omega)))
  clear R119
  have O126 := Lib.hid (own_below O115.out B121.out)
  clear O115
  have T127 := Lib.hid (T120.out.trans (B121.out.mono (by omega)))
  clear T120
  go_wp2_with fail
  refine (toStringS_any A0 s0 c0 w16 (R123.out.more (by omega)) hlen0).mono ?_
  rintro e w17 ⟨Au0, cu0, rfl, ho, hB⟩
  have O128 := Lib.hid ho
  have B129 := Lib.hid hB
  clear ho hB
  have z130 : w16.heap.size ≤ w17.heap.size := B129.out.size
  have R131 := Lib.hid (R123.out.below (B129.out.mono (by omega)))
  clear R123
  have R132 := Lib.hid (R124.out.below (B129.out.mono (by omega)))
  clear R124
  have R133 := Lib.hid (R125.out.below (B129.out.mono (by omega)))
  clear R125
  have O134 := Lib.hid (own_below O126.out B129.out)
  clear O126
  have T135 := Lib.hid (T127.out.trans (B129.out.mono (by omega)))
  clear T127
  have LTu0 := Lib.hid O128.out.lt
  go_wp2_with fail
  refine (toStringS_any A1 s1 c1 w17 (R132.out.more (by omega)) hlen1).mono ?_
  rintro e w18 ⟨Au1, cu1, rfl, ho, hB⟩
  have O136 := Lib.hid ho
  have B137 := Lib.hid hB
  clear ho hB
  have z138 : w17.heap.size ≤ w18.heap.size := B137.out.size
  have R139 := Lib.hid (R131.out.below (B137.out.mono (by omega)))
  clear R131
  have R140 := Lib.hid (R132.out.below (B137.out.mono (by omega)))
  clear R132
  have R141 := Lib.hid (R133.out.below (B137.out.mono (by omega)))
  clear R133
  have O142 := Lib.hid (own_below O134.out B137.out)
  clear O134
  have O143 := Lib.hid (own_below O128.out B137.out)
  clear O128
  have T144 := Lib.hid (T135.out.trans (B137.out.mono (by omega)))
  clear T135
  have LTu1 := Lib.hid O136.out.lt
  go_wp2_with fail
  refine (q2.out Au0 cu0 Au1 cu1 w18 (Row.of_own O143.out) (own_cap O143.out) (Row.of_own O136.out) (own_cap O136.out)).mono ?_
  rintro e w19 ⟨h0A, h0c, rfl, ho, hB⟩
  have O145 := Lib.hid ho
  have B146 := Lib.hid hB
  clear ho hB
  have z147 : w18.heap.size ≤ w19.heap.size := B146.out.size
  have R148 := Lib.hid (R139.out.below (B146.out.mono (by omega)))
  clear R139
  have R149 := Lib.hid (R140.out.below (B146.out.mono (by omega)))
  clear R140
  have R150 := Lib.hid (R141.out.below (B146.out.mono (by omega)))
  clear R141
  have O151 := Lib.hid (own_below O142.out B146.out)
  clear O142
  have T152 := Lib.hid (T144.out.trans (B146.out.mono (by omega)))
  clear T144
  have LTh0 := Lib.hid O145.out.lt
  go_wp2_with fail
  refine (eqStringS_same h0A w0A xs h0c w0c w19 (Row.of_own O145.out) (R150.out.more (by omega)) (by omega)).mono ?_
  rintro e w20 ⟨rfl, hB⟩
  have B153 := Lib.hid hB
  clear hB
  have z154 : w19.heap.size ≤ w20.heap.size := B153.out.size
  have R155 := Lib.hid (R148.out.below (B153.out.mono (by omega)))
  clear R148
  have R156 := Lib.hid (R149.out.below (B153.out.mono (by omega)))
  clear R149
  have R157 := Lib.hid (R150.out.below (B153.out.mono (by omega)))
  clear R150
  have O158 := Lib.hid (own_below O151.out B153.out)
  clear O151
  have O159 := Lib.hid (own_below O145.out B153.out)
  clear O145
  have T160 := Lib.hid (T152.out.trans (B153.out.mono (by omega)))
  clear T152
  go_wp2_with fail
  refine (heldStringS_marks g0A xs.length g0c 1 w20 (Row.of_own O158.out) (by omega) (by omega) (by omega)).mono ?_
  rintro e w21 ⟨rfl, hB⟩
  have B161 := Lib.hid hB
  clear hB
  have z162 : w20.heap.size ≤ w21.heap.size := B161.out.size
  have R163 := Lib.hid (R155.out.below (B161.out.mono (by omega)))
  clear R155
  have R164 := Lib.hid (R156.out.below (B161.out.mono (by omega)))
  clear R156
  have R165 := Lib.hid (R157.out.below (B161.out.mono (by omega)))
  clear R157
  have O166 := Lib.hid (own_below O158.out B161.out)
  clear O158
  have T167 := Lib.hid (T160.out.trans (B161.out.mono (by omega)))
  clear T160
  go_wp2
  go_ret
  exact ⟨rfl, T167.out⟩
end Go.Proofs.YtbdhgeefeelflaaGreatDoor
