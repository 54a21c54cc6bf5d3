/-
  WHAT THIS FILE PROVES: a call of the law FnExactTwoReadings returns true and turns nothing that was there, for every argument that reads as a list of texts.
-/
import Derived.Test.YtiemoocdffobgaaDoorTwoS
import Derived.Test.YtiemoocdffobgaaDoorTwoI
import Derived.Test.YtiemoocdffobgaaDoorMemS
import Derived.Test.YtiemoocdffobgaaDoorMemI
namespace Go.Proofs.YtiemoocdffobgaaDoor
open Go.RowKit Go.Shelf

theorem sep_symm {u v : Value} (h : u.ownBlock = none ∨ u.ownBlock ≠ v.ownBlock) : v.ownBlock = none ∨ v.ownBlock ≠ u.ownBlock := by
  rcases h with h | h
  · rw [h]
    cases v.ownBlock with
    | none => exact .inl rfl
    | some g => exact .inr (by simp)
  · exact .inr (fun e => h e.symm)
set_option maxHeartbeats 4000000 in
theorem walk_fnExactTwoReadings (A0 : Option Addr) (s0 : List ByteArray) (c0 : Nat) (w : World) (h0 : Row w w.heap.size A0 (strs s0)) (hl00 : s0.length ≤ maxLen) (hs00 : ∀ s ∈ s0, s.size ≤ maxLen) (_hsh : w.ShapedOpen Tryd.prog) :
    Calls Tryd.prog 8 #[.slice A0 s0.length c0] w fun e w' => e = .returned (.bool true) ∧ Below w.heap.size w w' := by
  have hl0 : s0.length ≤ 9223372036854775807 := by unfold maxLen at hl00; exact hl00
  have hs0 : Hid (∀ s ∈ s0, s.size ≤ 9223372036854775807) := fun s hs => by have := hs00 s hs; unfold maxLen at this; exact this
  replace h0 := Lib.hid h0
  clear hl00 hs00
  go_enter Tryd.func8, Tryd.ntmps8
  go_wp2_with fail
  refine (szStringS_any A0 s0 c0 1048576 w h0.out hl0 hs0.out (by omega) (by omega)).mono ?_
  rintro e w' ⟨r0, rfl, rfl, hr0a, hr0b, hr0c⟩
  replace hr0c := Lib.hid hr0c
  by_cases hr0 : r0 < 0
  · go_wp2_with fail
    go_ret
    exact ⟨rfl, Below.refl _ _⟩
  have hlen0 := (hr0c.out (by omega)).1
  have q1 := fun (B0 : Option Addr) (d0 : Nat) (W : World) (g0 : Row W W.heap.size B0 (strs s0)) => spec_TwoReadings B0 s0 d0 W g0 hl0 hs0.out
  have q2 := fun (B0 : Option Addr) (d0 : Nat) (W : World) (g0 : Row W W.heap.size B0 (strs s0)) => impl_TwoReadings B0 s0 d0 W g0 hl0 hs0.out
  have hn0 := trOf_len s0 0
  have hn1 := trOf_len s0 1
  generalize trOf s0 0 = xs at q1 q2 hn0
  generalize trOf s0 1 = ys at q1 q2 hn1
  generalize sdOk s0 = ok at q1 q2
  replace q1 := Lib.hid q1
  replace q2 := Lib.hid q2
  go_wp2_with fail
  refine (toStringS_any A0 s0 c0 w (h0.out.more (by omega)) hlen0).mono ?_
  rintro e w1 ⟨Ap, cp, rfl, ho, hB⟩
  have O1 := Lib.hid ho
  have B2 := Lib.hid hB
  clear ho hB
  have z3 : w.heap.size ≤ w1.heap.size := B2.out.size
  have R4 := Lib.hid (h0.out.below (B2.out.mono (by omega)))
  clear h0
  have T5 := Lib.hid (B2.out)
  have LTp := Lib.hid O1.out.lt
  go_wp2_with fail
  refine (q1.out Ap cp w1 (Row.of_own O1.out)).mono ?_
  rintro e w2 ⟨w0A, w0c, w1A, w1c, rfl, ho0, ho1, hsep, hB⟩
  have O6 := Lib.hid ho0
  have O7 := Lib.hid ho1
  have S9 := Lib.hid hsep
  have B8 := Lib.hid hB
  clear ho0 ho1 hsep hB
  have z10 : w1.heap.size ≤ w2.heap.size := B8.out.size
  have R11 := Lib.hid (R4.out.below (B8.out.mono (by omega)))
  clear R4
  have T12 := Lib.hid (T5.out.trans (B8.out.mono (by omega)))
  clear T5
  have LTw0 := Lib.hid O6.out.lt
  have LTw1 := Lib.hid O7.out.lt
  have R13 := Lib.hid (Row.of_own O6.out)
  clear O6
  have R14 := Lib.hid (Row.of_own O7.out)
  clear O7
  go_wp2_with fail
  refine (toStringS_any A0 s0 c0 w2 (R11.out.more (by omega)) hlen0).mono ?_
  rintro e w3 ⟨Ax, cx, rfl, ho, hB⟩
  have O15 := Lib.hid ho
  have B16 := Lib.hid hB
  clear ho hB
  have z17 : w2.heap.size ≤ w3.heap.size := B16.out.size
  have R18 := Lib.hid (R11.out.below (B16.out.mono (by omega)))
  clear R11
  have R19 := Lib.hid (R13.out.below (B16.out.mono (by omega)))
  clear R13
  have R20 := Lib.hid (R14.out.below (B16.out.mono (by omega)))
  clear R14
  have T21 := Lib.hid (T12.out.trans (B16.out.mono (by omega)))
  clear T12
  have LTx := Lib.hid O15.out.lt
  go_wp2_with fail
  refine (q2.out Ax cx w3 (Row.of_own O15.out)).mono ?_
  rintro e w4 ⟨g0A, g0c, g1A, g1c, rfl, ho0, ho1, hsep, hB⟩
  have O22 := Lib.hid ho0
  have O23 := Lib.hid ho1
  have S25 := Lib.hid hsep
  have B24 := Lib.hid hB
  clear ho0 ho1 hsep hB
  have z26 : w3.heap.size ≤ w4.heap.size := B24.out.size
  have R27 := Lib.hid (R18.out.below (B24.out.mono (by omega)))
  clear R18
  have R28 := Lib.hid (R19.out.below (B24.out.mono (by omega)))
  clear R19
  have R29 := Lib.hid (R20.out.below (B24.out.mono (by omega)))
  clear R20
  have O30 := Lib.hid (own_below O15.out B24.out)
  clear O15
  have T31 := Lib.hid (T21.out.trans (B24.out.mono (by omega)))
  clear T21
  have LTg0 := Lib.hid O22.out.lt
  have LTg1 := Lib.hid O23.out.lt
  go_wp2_with fail
  refine (eqIntS_same g0A w0A xs g0c w0c w4 (Row.of_own O22.out) (R28.out.more (by omega)) (by omega)).mono ?_
  rintro e w5 ⟨rfl, hB⟩
  have B32 := Lib.hid hB
  clear hB
  have z33 : w4.heap.size ≤ w5.heap.size := B32.out.size
  have R34 := Lib.hid (R27.out.below (B32.out.mono (by omega)))
  clear R27
  have R35 := Lib.hid (R28.out.below (B32.out.mono (by omega)))
  clear R28
  have R36 := Lib.hid (R29.out.below (B32.out.mono (by omega)))
  clear R29
  have O37 := Lib.hid (own_below O30.out B32.out)
  clear O30
  have O38 := Lib.hid (own_below O22.out B32.out)
  clear O22
  have O39 := Lib.hid (own_below O23.out B32.out)
  clear O23
  have T40 := Lib.hid (T31.out.trans (B32.out.mono (by omega)))
  clear T31
  go_wp2_with fail
  refine (eqIntS_same g1A w1A ys g1c w1c w5 (Row.of_own O39.out) (R36.out.more (by omega)) (by omega)).mono ?_
  rintro e w6 ⟨rfl, hB⟩
  have B41 := Lib.hid hB
  clear hB
  have z42 : w5.heap.size ≤ w6.heap.size := B41.out.size
  have R43 := Lib.hid (R34.out.below (B41.out.mono (by omega)))
  clear R34
  have R44 := Lib.hid (R35.out.below (B41.out.mono (by omega)))
  clear R35
  have R45 := Lib.hid (R36.out.below (B41.out.mono (by omega)))
  clear R36
  have O46 := Lib.hid (own_below O37.out B41.out)
  clear O37
  have O47 := Lib.hid (own_below O38.out B41.out)
  clear O38
  have O48 := Lib.hid (own_below O39.out B41.out)
  clear O39
  have T49 := Lib.hid (T40.out.trans (B41.out.mono (by omega)))
  clear T40
  go_wp2_with fail
  refine (toStringS_any A0 s0 c0 w6 (R43.out.more (by omega)) hlen0).mono ?_
  rintro e w7 ⟨Ay, cy, rfl, ho, hB⟩
  have O50 := Lib.hid ho
  have B51 := Lib.hid hB
  clear ho hB
  have z52 : w6.heap.size ≤ w7.heap.size := B51.out.size
  have R53 := Lib.hid (R43.out.below (B51.out.mono (by omega)))
  clear R43
  have R54 := Lib.hid (R44.out.below (B51.out.mono (by omega)))
  clear R44
  have R55 := Lib.hid (R45.out.below (B51.out.mono (by omega)))
  clear R45
  have O56 := Lib.hid (own_below O46.out B51.out)
  clear O46
  have O57 := Lib.hid (own_below O47.out B51.out)
  clear O47
  have O58 := Lib.hid (own_below O48.out B51.out)
  clear O48
  have T59 := Lib.hid (T49.out.trans (B51.out.mono (by omega)))
  clear T49
  have LTy := Lib.hid O50.out.lt
  go_wp2_with fail
  refine (eqStringS_same Ax Ay s0 cx cy w7 (Row.of_own O56.out) (Row.of_own O50.out) (by omega)).mono ?_
  rintro e w8 ⟨rfl, hB⟩
  clear O50
  have B60 := Lib.hid hB
  clear hB
  have z61 : w7.heap.size ≤ w8.heap.size := B60.out.size
  have R62 := Lib.hid (R53.out.below (B60.out.mono (by omega)))
  clear R53
  have R63 := Lib.hid (R54.out.below (B60.out.mono (by omega)))
  clear R54
  have R64 := Lib.hid (R55.out.below (B60.out.mono (by omega)))
  clear R55
  have O65 := Lib.hid (own_below O56.out B60.out)
  clear O56
  have O66 := Lib.hid (own_below O57.out B60.out)
  clear O57
  have O67 := Lib.hid (own_below O58.out B60.out)
  clear O58
  have T68 := Lib.hid (T59.out.trans (B60.out.mono (by omega)))
  clear T59
  go_wp2_with fail
  refine (markStringS_own Ax s0 cx _ 1 w8 O65.out (by omega) (by omega) (by omega)).mono ?_
  rintro e w9 ⟨rfl, ho, hG⟩
  have G69 := Lib.hid hG
  clear ho hG
  have z70 : w8.heap.size ≤ w9.heap.size := G69.out.size
  have R71 := Lib.hid (R62.out.kept G69.out (by omega) (fun g hg => by have := (O65.out.lt g hg).1; omega))
  clear R62
  have R72 := Lib.hid (R63.out.kept G69.out (by omega) (fun g hg => by have := (O65.out.lt g hg).1; omega))
  clear R63
  have R73 := Lib.hid (R64.out.kept G69.out (by omega) (fun g hg => by have := (O65.out.lt g hg).1; omega))
  clear R64
  have O74 := Lib.hid (O66.out.kept G69.out (own_ne O66.out (fun g hg => by have := (LTx.out g hg).2; omega)))
  clear O66
  have O75 := Lib.hid (O67.out.kept G69.out (own_ne O67.out (fun g hg => by have := (LTx.out g hg).2; omega)))
  clear O67
  have T76 := Lib.hid (T68.out.grown G69.out (by omega) (fun g hg => by have := (O65.out.lt g hg).1; omega))
  clear T68
  go_wp2_with fail
  refine (eqIntS_same g0A w0A xs g0c w0c w9 (Row.of_own O74.out) (R72.out.more (by omega)) (by omega)).mono ?_
  rintro e w10 ⟨rfl, hB⟩
  have B77 := Lib.hid hB
  clear hB
  have z78 : w9.heap.size ≤ w10.heap.size := B77.out.size
  have R79 := Lib.hid (R71.out.below (B77.out.mono (by omega)))
  clear R71
  have R80 := Lib.hid (R72.out.below (B77.out.mono (by omega)))
  clear R72
  have R81 := Lib.hid (R73.out.below (B77.out.mono (by omega)))
  clear R73
  have O82 := Lib.hid (own_below O74.out B77.out)
  clear O74
  have O83 := Lib.hid (own_below O75.out B77.out)
  clear O75
  have T84 := Lib.hid (T76.out.trans (B77.out.mono (by omega)))
  clear T76
  go_wp2_with fail
  refine (eqIntS_same g1A w1A ys g1c w1c w10 (Row.of_own O83.out) (R81.out.more (by omega)) (by omega)).mono ?_
  rintro e w11 ⟨rfl, hB⟩
  have B85 := Lib.hid hB
  clear hB
  have z86 : w10.heap.size ≤ w11.heap.size := B85.out.size
  have R87 := Lib.hid (R79.out.below (B85.out.mono (by omega)))
  clear R79
  have R88 := Lib.hid (R80.out.below (B85.out.mono (by omega)))
  clear R80
  have R89 := Lib.hid (R81.out.below (B85.out.mono (by omega)))
  clear R81
  have O90 := Lib.hid (own_below O82.out B85.out)
  clear O82
  have O91 := Lib.hid (own_below O83.out B85.out)
  clear O83
  have T92 := Lib.hid (T84.out.trans (B85.out.mono (by omega)))
  clear T84
  go_wp2_with fail
  refine (markIntS_own g0A xs g0c _ 1 w11 O90.out (by omega) (by omega) (by omega)).mono ?_
  rintro e w12 ⟨rfl, ho, hG⟩
  have G93 := Lib.hid hG
  have O94 := Lib.hid ho
  clear ho hG
  have z95 : w11.heap.size ≤ w12.heap.size := G93.out.size
  have R96 := Lib.hid (R87.out.kept G93.out (by omega) (fun g hg => by have := (O90.out.lt g hg).1; omega))
  clear R87
  have R97 := Lib.hid (R88.out.kept G93.out (by omega) (fun g hg => by have := (O90.out.lt g hg).1; omega))
  clear R88
  have R98 := Lib.hid (R89.out.kept G93.out (by omega) (fun g hg => by have := (O90.out.lt g hg).1; omega))
  clear R89
  have O99 := Lib.hid (O91.out.kept G93.out (sep_symm S25.out))
  clear O91
  have T100 := Lib.hid (T92.out.grown G93.out (by omega) (fun g hg => by have := (O90.out.lt g hg).1; omega))
  clear T92
  go_wp2_with fail
  refine (markIntS_own g1A ys g1c _ (1 + (xs.length : Int)) w12 O99.out (by omega) (by omega) (by omega)).mono ?_
  rintro e w13 ⟨rfl, ho, hG⟩
  have G101 := Lib.hid hG
  have O102 := Lib.hid ho
  clear ho hG
  have z103 : w12.heap.size ≤ w13.heap.size := G101.out.size
  have R104 := Lib.hid (R96.out.kept G101.out (by omega) (fun g hg => by have := (O99.out.lt g hg).1; omega))
  clear R96
  have R105 := Lib.hid (R97.out.kept G101.out (by omega) (fun g hg => by have := (O99.out.lt g hg).1; omega))
  clear R97
  have R106 := Lib.hid (R98.out.kept G101.out (by omega) (fun g hg => by have := (O99.out.lt g hg).1; omega))
  clear R98
  have O107 := Lib.hid (O94.out.kept G101.out S25.out)
  clear O94
  have T108 := Lib.hid (T100.out.grown G101.out (by omega) (fun g hg => by have := (O99.out.lt g hg).1; omega))
  clear T100
  go_wp2_with fail
  refine (heldIntS_marks g0A xs.length g0c 1 w13 (Row.of_own O107.out) (by omega) (by omega) (by omega)).mono ?_
  rintro e w' ⟨rfl, rfl⟩
  go_wp2_with fail
  refine (heldIntS_marks g1A ys.length g1c (1 + (xs.length : Int)) w13 (Row.of_own O102.out) (by omega) (by omega) (by omega)).mono ?_
  rintro e w' ⟨rfl, rfl⟩
  go_wp2_with fail
  refine (toStringS_any A0 s0 c0 w13 (R104.out.more (by omega)) hlen0).mono ?_
  rintro e w14 ⟨Au, cu, rfl, ho, hB⟩
  have O109 := Lib.hid ho
  have B110 := Lib.hid hB
  clear ho hB
  have z111 : w13.heap.size ≤ w14.heap.size := B110.out.size
  have R112 := Lib.hid (R104.out.below (B110.out.mono (by omega)))
  clear R104
  have R113 := Lib.hid (R105.out.below (B110.out.mono (by omega)))
  clear R105
  have R114 := Lib.hid (R106.out.below (B110.out.mono (by omega)))
  clear R106
  have O115 := Lib.hid (own_below O107.out B110.out)
  clear O107
  have O116 := Lib.hid (own_below O102.out B110.out)
  clear O102
  have T117 := Lib.hid (T108.out.trans (B110.out.mono (by omega)))
  clear T108
  have LTu := Lib.hid O109.out.lt
  go_wp2_with fail
  refine (q2.out Au cu w14 (Row.of_own O109.out)).mono ?_
  rintro e w15 ⟨h0A, h0c, h1A, h1c, rfl, ho0, ho1, hsep, hB⟩
  have O118 := Lib.hid ho0
  have O119 := Lib.hid ho1
  have S121 := Lib.hid hsep
  have B120 := Lib.hid hB
  clear ho0 ho1 hsep hB
  have z122 : w14.heap.size ≤ w15.heap.size := B120.out.size
  have R123 := Lib.hid (R112.out.below (B120.out.mono (by omega)))
  clear R112
  have R124 := Lib.hid (R113.out.below (B120.out.mono (by omega)))
  clear R113
  have R125 := Lib.hid (R114.out.below (B120.out.mono (by omega)))
  clear R114
  have O126 := Lib.hid (own_below O115.out B120.out)
  clear O115
  have O127 := Lib.hid (own_below O116.out B120.out)
  clear O116
  have T128 := Lib.hid (T117.out.trans (B120.out.mono (by omega)))
  clear T117
  have LTh0 := Lib.hid O118.out.lt
  have LTh1 := Lib.hid O119.out.lt
  go_wp2_with fail
  refine (eqIntS_same h0A w0A xs h0c w0c w15 (Row.of_own O118.out) (R124.out.more (by omega)) (by omega)).mono ?_
  rintro e w16 ⟨rfl, hB⟩
  have B129 := Lib.hid hB
  clear hB
  have z130 : w15.heap.size ≤ w16.heap.size := B129.out.size
  have R131 := Lib.hid (R123.out.below (B129.out.mono (by omega)))
  clear R123
  have R132 := Lib.hid (R124.out.below (B129.out.mono (by omega)))
  clear R124
  have R133 := Lib.hid (R125.out.below (B129.out.mono (by omega)))
  clear R125
  have O134 := Lib.hid (own_below O126.out B129.out)
  clear O126
  have O135 := Lib.hid (own_below O127.out B129.out)
  clear O127
  have O136 := Lib.hid (own_below O118.out B129.out)
  clear O118
  have O137 := Lib.hid (own_below O119.out B129.out)
  clear O119
  have T138 := Lib.hid (T128.out.trans (B129.out.mono (by omega)))
  clear T128
  go_wp2_with fail
  refine (eqIntS_same h1A w1A ys h1c w1c w16 (Row.of_own O137.out) (R133.out.more (by omega)) (by omega)).mono ?_
  rintro e w17 ⟨rfl, hB⟩
  have B139 := Lib.hid hB
  clear hB
  have z140 : w16.heap.size ≤ w17.heap.size := B139.out.size
  have R141 := Lib.hid (R131.out.below (B139.out.mono (by omega)))
  clear R131
  have R142 := Lib.hid (R132.out.below (B139.out.mono (by omega)))
  clear R132
  have R143 := Lib.hid (R133.out.below (B139.out.mono (by omega)))
  clear R133
  have O144 := Lib.hid (own_below O134.out B139.out)
  clear O134
  have O145 := Lib.hid (own_below O135.out B139.out)
  clear O135
  have O146 := Lib.hid (own_below O136.out B139.out)
  clear O136
  have O147 := Lib.hid (own_below O137.out B139.out)
  clear O137
  have T148 := Lib.hid (T138.out.trans (B139.out.mono (by omega)))
  clear T138
  go_wp2_with fail
  refine (heldIntS_marks g0A xs.length g0c 1 w17 (Row.of_own O144.out) (by omega) (by omega) (by omega)).mono ?_
  rintro e w' ⟨rfl, rfl⟩
  go_wp2_with fail
  refine (heldIntS_marks g1A ys.length g1c (1 + (xs.length : Int)) w17 (Row.of_own O145.out) (by omega) (by omega) (by omega)).mono ?_
  rintro e w' ⟨rfl, rfl⟩
  go_wp2
  go_ret
  exact ⟨rfl, T148.out⟩
end Go.Proofs.YtiemoocdffobgaaDoor
