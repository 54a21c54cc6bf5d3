/-
  WHAT THIS FILE PROVES: a call of the law FnExactWeightedSum returns true and turns nothing that was there, for every arguments that read as lists, texts and numbers.
-/
import Derived.Test.YthhiegcdocjfkaaDoorSwI
import Derived.Test.YthhiegcdocjfkaaDoorEqR
import Derived.Test.YthhiegcdocjfkaaDoorMemS
import Derived.Test.YthhiegcdocjfkaaDoorToInts
namespace Go.Proofs.YthhiegcdocjfkaaDoor
open Go.RowKit Go.Shelf

set_option maxHeartbeats 4000000 in
theorem walk_fnExactWeightedSum (A0 : Option Addr) (s0 : List ByteArray) (c0 : Nat) (A1 : Option Addr) (z1 : List Int) (c1 : Nat) (w : World) (h0 : Row w w.heap.size A0 (strs s0)) (hl00 : s0.length ≤ maxLen) (hs00 : ∀ s ∈ s0, s.size ≤ maxLen) (h1 : Row w w.heap.size A1 (ints z1)) (hl10 : z1.length ≤ maxLen) (_hsh : w.ShapedOpen Tryd.prog) :
    Calls Tryd.prog 3 #[.slice A0 s0.length c0, .slice A1 z1.length c1] w fun e w' => e = .returned (.bool true) ∧ Below w.heap.size w w' := by
  have hl0 : s0.length ≤ 9223372036854775807 := by unfold maxLen at hl00; exact hl00
  have hs0 : Hid (∀ s ∈ s0, s.size ≤ 9223372036854775807) := fun s hs => by have := hs00 s hs; unfold maxLen at this; exact this
  replace h0 := Lib.hid h0
  clear hl00 hs00
  have hl1 : z1.length ≤ 9223372036854775807 := by unfold maxLen at hl10; exact hl10
  replace h1 := Lib.hid h1
  clear hl10
  by_cases hlen1 : z1.length ≤ 1048576
  rotate_left
  · go_enter Tryd.func3, Tryd.ntmps3
    go_wp2_with fail
    go_ret
    exact ⟨rfl, Below.refl _ _⟩
  have hzl1 : (z1.length : Int) ≤ 1048576 := by omega
  go_enter Tryd.func3, Tryd.ntmps3
  go_wp2_with fail
  refine (szStringS_any A0 s0 c0 1048576 w h0.out hl0 hs0.out (by omega) (by omega)).mono ?_
  rintro e w' ⟨r0, rfl, rfl, hr0a, hr0b, hr0c⟩
  replace hr0c := Lib.hid hr0c
  by_cases hr0 : r0 < 0
  · go_wp2_with fail
    go_ret
    exact ⟨rfl, Below.refl _ _⟩
  have hlen0 := (hr0c.out (by omega)).1
  have q1 := fun (B0 : Option Addr) (d0 : Nat) (B1 : Option Addr) (d1 : Nat) (W : World) (g0 : Row W W.heap.size B0 (strs s0)) (g1 : Row W W.heap.size B1 (ints z1)) => spec_WeightedSum B0 s0 d0 B1 z1 d1 W g0 hl0 hs0.out g1 hl1
  have q2 := fun (B0 : Option Addr) (d0 : Nat) (B1 : Option Addr) (d1 : Nat) (W : World) (g0 : Row W W.heap.size B0 (strs s0)) (g1 : Row W W.heap.size B1 (ints z1)) => impl_WeightedSum B0 s0 d0 B1 z1 d1 W g0 hl0 hs0.out g1 hl1
  generalize W.wsOf W.oneT s0 z1 = xs at q1 q2
  generalize W.wsOk s0 z1 = ok at q1 q2
  obtain ⟨xp, xq⟩ := xs
  dsimp only at q1 q2
  replace q1 := Lib.hid q1
  replace q2 := Lib.hid q2
  go_wp2_with fail
  refine (toStringS_any A0 s0 c0 w (h0.out.more (by omega)) hlen0).mono ?_
  rintro e w1 ⟨Ap0, cp0, rfl, ho, hB⟩
  have O1 := Lib.hid ho
  have B2 := Lib.hid hB
  clear ho hB
  have z3 : w.heap.size ≤ w1.heap.size := B2.out.size
  have R4 := Lib.hid (h0.out.below (B2.out.mono (by omega)))
  clear h0
  have R5 := Lib.hid (h1.out.below (B2.out.mono (by omega)))
  clear h1
  have T6 := Lib.hid (B2.out)
  have LTp0 := Lib.hid O1.out.lt
  go_wp2_with fail
  refine (toIntS_any A1 z1 c1 w1 (R5.out.more (by omega)) hlen1).mono ?_
  rintro e w2 ⟨Ap1, cp1, rfl, ho, hB⟩
  have O7 := Lib.hid ho
  have B8 := Lib.hid hB
  clear ho hB
  have z9 : w1.heap.size ≤ w2.heap.size := B8.out.size
  have R10 := Lib.hid (R4.out.below (B8.out.mono (by omega)))
  clear R4
  have R11 := Lib.hid (R5.out.below (B8.out.mono (by omega)))
  clear R5
  have O12 := Lib.hid (own_below O1.out B8.out)
  clear O1
  have T13 := Lib.hid (T6.out.trans (B8.out.mono (by omega)))
  clear T6
  have LTp1 := Lib.hid O7.out.lt
  go_wp2_with fail
  refine (q1.out Ap0 cp0 Ap1 cp1 w2 (Row.of_own O12.out) (Row.of_own O7.out)).mono ?_
  rintro e w3 ⟨rfl, hB⟩
  have B14 := Lib.hid hB
  clear hB
  have z15 : w2.heap.size ≤ w3.heap.size := B14.out.size
  have R16 := Lib.hid (R10.out.below (B14.out.mono (by omega)))
  clear R10
  have R17 := Lib.hid (R11.out.below (B14.out.mono (by omega)))
  clear R11
  have T18 := Lib.hid (T13.out.trans (B14.out.mono (by omega)))
  clear T13
  go_wp2_with fail
  obtain ⟨w4, hV⟩ : ∃ V, V = w3.alloc (.cells #[.int .i64 (xp : Int), .int .i64 (xq : Int)] 26) := ⟨_, rfl⟩
  have hBV : Below w3.heap.size w3 w4 := by rw [hV]; exact (Below.refl _ _).alloc (Nat.le_refl _) _
  have hk0 : w4.cell? ⟨w3.heap.size, 0, none⟩ = some (.int .i64 (xp : Int)) := by rw [hV, World.cell?_alloc_at _ _ _ _ rfl]; rfl
  have hk1 : w4.cell? ⟨w3.heap.size, 1, none⟩ = some (.int .i64 (xq : Int)) := by rw [hV, World.cell?_alloc_at _ _ _ _ rfl]; rfl
  have z22 : w3.heap.size < w4.heap.size := by rw [hV]; simp
  rw [← hV]
  have B19 := Lib.hid hBV
  have K20 := Lib.hid hk0
  have K21 := Lib.hid hk1
  clear hV hBV hk0 hk1
  have z23 : w3.heap.size ≤ w4.heap.size := B19.out.size
  have R24 := Lib.hid (R16.out.below (B19.out.mono (by omega)))
  clear R16
  have R25 := Lib.hid (R17.out.below (B19.out.mono (by omega)))
  clear R17
  have T26 := Lib.hid (T18.out.trans (B19.out.mono (by omega)))
  clear T18
  refine (toStringS_any A0 s0 c0 w4 (R24.out.more (by omega)) hlen0).mono ?_
  rintro e w5 ⟨Ax0, cx0, rfl, ho, hB⟩
  have O27 := Lib.hid ho
  have B28 := Lib.hid hB
  clear ho hB
  have z29 : w4.heap.size ≤ w5.heap.size := B28.out.size
  have R30 := Lib.hid (R24.out.below (B28.out.mono (by omega)))
  clear R24
  have R31 := Lib.hid (R25.out.below (B28.out.mono (by omega)))
  clear R25
  have C32 := Lib.hid ((B28.out.cell (p := ⟨w3.heap.size, 0, none⟩) (by show w3.heap.size < _; omega)).trans K20.out)
  clear K20
  have C33 := Lib.hid ((B28.out.cell (p := ⟨w3.heap.size, 1, none⟩) (by show w3.heap.size < _; omega)).trans K21.out)
  clear K21
  have T34 := Lib.hid (T26.out.trans (B28.out.mono (by omega)))
  clear T26
  have LTx0 := Lib.hid O27.out.lt
  go_wp2_with fail
  refine (toIntS_any A1 z1 c1 w5 (R31.out.more (by omega)) hlen1).mono ?_
  rintro e w6 ⟨Ax1, cx1, rfl, ho, hB⟩
  have O35 := Lib.hid ho
  have B36 := Lib.hid hB
  clear ho hB
  have z37 : w5.heap.size ≤ w6.heap.size := B36.out.size
  have R38 := Lib.hid (R30.out.below (B36.out.mono (by omega)))
  clear R30
  have R39 := Lib.hid (R31.out.below (B36.out.mono (by omega)))
  clear R31
  have O40 := Lib.hid (own_below O27.out B36.out)
  clear O27
  have C41 := Lib.hid ((B36.out.cell (p := ⟨w3.heap.size, 0, none⟩) (by show w3.heap.size < _; omega)).trans C32.out)
  clear C32
  have C42 := Lib.hid ((B36.out.cell (p := ⟨w3.heap.size, 1, none⟩) (by show w3.heap.size < _; omega)).trans C33.out)
  clear C33
  have T43 := Lib.hid (T34.out.trans (B36.out.mono (by omega)))
  clear T34
  have LTx1 := Lib.hid O35.out.lt
  go_wp2_with fail
  refine (q2.out Ax0 cx0 Ax1 cx1 w6 (Row.of_own O40.out) (Row.of_own O35.out)).mono ?_
  rintro e w7 ⟨rfl, hB⟩
  have B44 := Lib.hid hB
  clear hB
  have z45 : w6.heap.size ≤ w7.heap.size := B44.out.size
  have R46 := Lib.hid (R38.out.below (B44.out.mono (by omega)))
  clear R38
  have R47 := Lib.hid (R39.out.below (B44.out.mono (by omega)))
  clear R39
  have O48 := Lib.hid (own_below O40.out B44.out)
  clear O40
  have O49 := Lib.hid (own_below O35.out B44.out)
  clear O35
  have C50 := Lib.hid ((B44.out.cell (p := ⟨w3.heap.size, 0, none⟩) (by show w3.heap.size < _; omega)).trans C41.out)
  clear C41
  have C51 := Lib.hid ((B44.out.cell (p := ⟨w3.heap.size, 1, none⟩) (by show w3.heap.size < _; omega)).trans C42.out)
  clear C42
  have T52 := Lib.hid (T43.out.trans (B44.out.mono (by omega)))
  clear T43
  have cw00 := C50.out
  have cw01 := C51.out
  have lw0 : w3.heap.size < w7.heap.size := by omega
  go_wp2_with fail
  clear cw00 cw01 lw0
  obtain ⟨w8, hV⟩ : ∃ V, V = w7.alloc (.cells #[.int .i64 (xp : Int), .int .i64 (xq : Int)] 26) := ⟨_, rfl⟩
  have hBV : Below w7.heap.size w7 w8 := by rw [hV]; exact (Below.refl _ _).alloc (Nat.le_refl _) _
  have hk0 : w8.cell? ⟨w7.heap.size, 0, none⟩ = some (.int .i64 (xp : Int)) := by rw [hV, World.cell?_alloc_at _ _ _ _ rfl]; rfl
  have hk1 : w8.cell? ⟨w7.heap.size, 1, none⟩ = some (.int .i64 (xq : Int)) := by rw [hV, World.cell?_alloc_at _ _ _ _ rfl]; rfl
  have z56 : w7.heap.size < w8.heap.size := by rw [hV]; simp
  rw [← hV]
  have B53 := Lib.hid hBV
  have K54 := Lib.hid hk0
  have K55 := Lib.hid hk1
  clear hV hBV hk0 hk1
  have z57 : w7.heap.size ≤ w8.heap.size := B53.out.size
  have R58 := Lib.hid (R46.out.below (B53.out.mono (by omega)))
  clear R46
  have R59 := Lib.hid (R47.out.below (B53.out.mono (by omega)))
  clear R47
  have O60 := Lib.hid (own_below O48.out B53.out)
  clear O48
  have O61 := Lib.hid (own_below O49.out B53.out)
  clear O49
  have C62 := Lib.hid ((B53.out.cell (p := ⟨w3.heap.size, 0, none⟩) (by show w3.heap.size < _; omega)).trans C50.out)
  clear C50
  have C63 := Lib.hid ((B53.out.cell (p := ⟨w3.heap.size, 1, none⟩) (by show w3.heap.size < _; omega)).trans C51.out)
  clear C51
  have T64 := Lib.hid (T52.out.trans (B53.out.mono (by omega)))
  clear T52
  refine (eqRatio_same (xp : Int) (xq : Int) w8).mono ?_
  rintro e w9 ⟨rfl, hB⟩
  clear C62 C63 K54 K55
  have B65 := Lib.hid hB
  clear hB
  have z66 : w8.heap.size ≤ w9.heap.size := B65.out.size
  have R67 := Lib.hid (R58.out.below (B65.out.mono (by omega)))
  clear R58
  have R68 := Lib.hid (R59.out.below (B65.out.mono (by omega)))
  clear R59
  have O69 := Lib.hid (own_below O60.out B65.out)
  clear O60
  have O70 := Lib.hid (own_below O61.out B65.out)
  clear O61
  have T71 := Lib.hid (T64.out.trans (B65.out.mono (by omega)))
  clear T64
  go_wp2_with fail
  refine (toStringS_any A0 s0 c0 w9 (R67.out.more (by omega)) hlen0).mono ?_
  rintro e w10 ⟨Ay0, cy0, rfl, ho, hB⟩
  have O72 := Lib.hid ho
  have B73 := Lib.hid hB
  clear ho hB
  have z74 : w9.heap.size ≤ w10.heap.size := B73.out.size
  have R75 := Lib.hid (R67.out.below (B73.out.mono (by omega)))
  clear R67
  have R76 := Lib.hid (R68.out.below (B73.out.mono (by omega)))
  clear R68
  have O77 := Lib.hid (own_below O69.out B73.out)
  clear O69
  have O78 := Lib.hid (own_below O70.out B73.out)
  clear O70
  have T79 := Lib.hid (T71.out.trans (B73.out.mono (by omega)))
  clear T71
  go_wp2_with fail
  refine (eqStringS_same Ax0 Ay0 s0 cx0 cy0 w10 (Row.of_own O77.out) (Row.of_own O72.out) (by omega)).mono ?_
  rintro e w11 ⟨rfl, hB⟩
  have B80 := Lib.hid hB
  clear hB O72
  have z81 : w10.heap.size ≤ w11.heap.size := B80.out.size
  have R82 := Lib.hid (R75.out.below (B80.out.mono (by omega)))
  clear R75
  have R83 := Lib.hid (R76.out.below (B80.out.mono (by omega)))
  clear R76
  have O84 := Lib.hid (own_below O77.out B80.out)
  clear O77
  have O85 := Lib.hid (own_below O78.out B80.out)
  clear O78
  have T86 := Lib.hid (T79.out.trans (B80.out.mono (by omega)))
  clear T79
  go_wp2_with fail
  refine (toIntS_any A1 z1 c1 w11 (R83.out.more (by omega)) hlen1).mono ?_
  rintro e w12 ⟨Ay1, cy1, rfl, ho, hB⟩
  have O87 := Lib.hid ho
  have B88 := Lib.hid hB
  clear ho hB
  have z89 : w11.heap.size ≤ w12.heap.size := B88.out.size
  have R90 := Lib.hid (R82.out.below (B88.out.mono (by omega)))
  clear R82
  have R91 := Lib.hid (R83.out.below (B88.out.mono (by omega)))
  clear R83
  have O92 := Lib.hid (own_below O84.out B88.out)
  clear O84
  have O93 := Lib.hid (own_below O85.out B88.out)
  clear O85
  have T94 := Lib.hid (T86.out.trans (B88.out.mono (by omega)))
  clear T86
  go_wp2_with fail
  refine (eqIntS_same Ax1 Ay1 z1 cx1 cy1 w12 (Row.of_own O93.out) (Row.of_own O87.out) (by omega)).mono ?_
  rintro e w13 ⟨rfl, hB⟩
  have B95 := Lib.hid hB
  clear hB O87
  have z96 : w12.heap.size ≤ w13.heap.size := B95.out.size
  have R97 := Lib.hid (R90.out.below (B95.out.mono (by omega)))
  clear R90
  have R98 := Lib.hid (R91.out.below (B95.out.mono (by omega)))
  clear R91
  have O99 := Lib.hid (own_below O92.out B95.out)
  clear O92
  have O100 := Lib.hid (own_below O93.out B95.out)
  clear O93
  have T101 := Lib.hid (T94.out.trans (B95.out.mono (by omega)))
  clear T94
  go_wp2
  go_ret
  exact ⟨rfl, T101.out⟩
end Go.Proofs.YthhiegcdocjfkaaDoor
