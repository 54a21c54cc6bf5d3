/-
  WHAT THIS FILE PROVES: a call of the law FnExactAreLetterAlike returns true and turns nothing that was there, for every arguments that read as lists, texts and numbers.
-/
import Derived.Test.YtjffgpgmgnfafaaDoorAlI
import Derived.Test.YtjffgpgmgnfafaaDoorMemS
namespace Go.Proofs.YtjffgpgmgnfafaaDoor
open Go.RowKit Go.Shelf

set_option maxHeartbeats 4000000 in
theorem walk_fnExactAreLetterAlike (A0 : Option Addr) (s0 : List ByteArray) (c0 : Nat) (A1 : Option Addr) (s1 : List ByteArray) (c1 : Nat) (w : World) (h0 : Row w w.heap.size A0 (strs s0)) (hl00 : s0.length ≤ maxLen) (hs00 : ∀ s ∈ s0, s.size ≤ maxLen) (h1 : Row w w.heap.size A1 (strs s1)) (hl10 : s1.length ≤ maxLen) (hs10 : ∀ s ∈ s1, s.size ≤ maxLen) (_hsh : w.ShapedOpen Tryd.prog) :
    Calls Tryd.prog 3 #[.slice A0 s0.length c0, .slice A1 s1.length c1] w fun e w' => e = .returned (.bool true) ∧ Below w.heap.size w w' := by
  have hl0 : s0.length ≤ 9223372036854775807 := by unfold maxLen at hl00; exact hl00
  have hs0 : Hid (∀ s ∈ s0, s.size ≤ 9223372036854775807) := fun s hs => by have := hs00 s hs; unfold maxLen at this; exact this
  replace h0 := Lib.hid h0
  clear hl00 hs00
  have hl1 : s1.length ≤ 9223372036854775807 := by unfold maxLen at hl10; exact hl10
  have hs1 : Hid (∀ s ∈ s1, s.size ≤ 9223372036854775807) := fun s hs => by have := hs10 s hs; unfold maxLen at this; exact this
  replace h1 := Lib.hid h1
  clear hl10 hs10
  go_enter Tryd.func3, Tryd.ntmps3
  go_wp2_with fail
  refine (szStringS_any A0 s0 c0 1048576 w h0.out hl0 hs0.out (by omega) (by omega)).mono ?_
  rintro e w' ⟨r0, rfl, rfl, hr0a, hr0b, hr0c⟩
  replace hr0c := Lib.hid hr0c
  by_cases hr0 : r0 < 0
  · go_wp2_with fail
    go_ret
    exact ⟨rfl, Below.refl _ _⟩
  have hlen0 := (hr0c.out (by omega)).1
  go_wp2_with fail
  refine (szStringS_any A1 s1 c1 r0 w h1.out hl1 hs1.out (by omega) (by omega)).mono ?_
  rintro e w' ⟨r1, rfl, rfl, hr1a, hr1b, hr1c⟩
  replace hr1c := Lib.hid hr1c
  by_cases hr1 : r1 < 0
  · go_wp2_with fail
    go_ret
    exact ⟨rfl, Below.refl _ _⟩
  have hlen1 := (hr1c.out (by omega)).1
  have q1 := fun (B0 : Option Addr) (d0 : Nat) (B1 : Option Addr) (d1 : Nat) (W : World) (g0 : Row W W.heap.size B0 (strs s0)) (g1 : Row W W.heap.size B1 (strs s1)) => spec_AreLetterAlike B0 s0 d0 B1 s1 d1 W g0 hl0 hs0.out g1 hl1 hs1.out
  have q2 := fun (B0 : Option Addr) (d0 : Nat) (B1 : Option Addr) (d1 : Nat) (W : World) (g0 : Row W W.heap.size B0 (strs s0)) (g1 : Row W W.heap.size B1 (strs s1)) => impl_AreLetterAlike B0 s0 d0 B1 s1 d1 W g0 hl0 hs0.out g1 hl1 hs1.out
  generalize (alOf s0 s1) = xs at q1 q2
  generalize alOk s0 s1 = ok at q1 q2
  replace q1 := Lib.hid q1
  replace q2 := Lib.hid q2
  go_wp2_with fail
  refine (toStringS_any A0 s0 c0 w (h0.out.more (by omega)) hlen0).mono ?_
  rintro e w1 ⟨Ap0, cp0, rfl, ho, hB⟩
  have O1 := Lib.hid ho
  have B2 := Lib.hid hB
  clear ho hB
  have z3 : w.heap.size ≤ w1.heap.size := B2.out.size
  have R4 := Lib.hid (h0.out.below (B2.out.mono (by omega)))
  clear h0
  have R5 := Lib.hid (h1.out.below (B2.out.mono (by omega)))
  clear h1
  have T6 := Lib.hid (B2.out)
  have LTp0 := Lib.hid O1.out.lt
  go_wp2_with fail
  refine (toStringS_any A1 s1 c1 w1 (R5.out.more (by omega)) hlen1).mono ?_
  rintro e w2 ⟨Ap1, cp1, rfl, ho, hB⟩
  have O7 := Lib.hid ho
  have B8 := Lib.hid hB
  clear ho hB
  have z9 : w1.heap.size ≤ w2.heap.size := B8.out.size
  have R10 := Lib.hid (R4.out.below (B8.out.mono (by omega)))
  clear R4
  have R11 := Lib.hid (R5.out.below (B8.out.mono (by omega)))
  clear R5
  have O12 := Lib.hid (own_below O1.out B8.out)
  clear O1
  have T13 := Lib.hid (T6.out.trans (B8.out.mono (by omega)))
  clear T6
  have LTp1 := Lib.hid O7.out.lt
  go_wp2_with fail
  refine (q1.out Ap0 cp0 Ap1 cp1 w2 (Row.of_own O12.out) (Row.of_own O7.out)).mono ?_
  rintro e w3 ⟨rfl, hB⟩
  have B14 := Lib.hid hB
  clear hB
  have z15 : w2.heap.size ≤ w3.heap.size := B14.out.size
  have R16 := Lib.hid (R10.out.below (B14.out.mono (by omega)))
  clear R10
  have R17 := Lib.hid (R11.out.below (B14.out.mono (by omega)))
  clear R11
  have T18 := Lib.hid (T13.out.trans (B14.out.mono (by omega)))
  clear T13
  go_wp2_with fail
  refine (toStringS_any A0 s0 c0 w3 (R16.out.more (by omega)) hlen0).mono ?_
  rintro e w4 ⟨Ax0, cx0, rfl, ho, hB⟩
  have O19 := Lib.hid ho
  have B20 := Lib.hid hB
  clear ho hB
  have z21 : w3.heap.size ≤ w4.heap.size := B20.out.size
  have R22 := Lib.hid (R16.out.below (B20.out.mono (by omega)))
  clear R16
  have R23 := Lib.hid (R17.out.below (B20.out.mono (by omega)))
  clear R17
  have T24 := Lib.hid (T18.out.trans (B20.out.mono (by omega)))
  clear T18
  have LTx0 := Lib.hid O19.out.lt
  go_wp2_with fail
  refine (toStringS_any A1 s1 c1 w4 (R23.out.more (by omega)) hlen1).mono ?_
  rintro e w5 ⟨Ax1, cx1, rfl, ho, hB⟩
  have O25 := Lib.hid ho
  have B26 := Lib.hid hB
  clear ho hB
  have z27 : w4.heap.size ≤ w5.heap.size := B26.out.size
  have R28 := Lib.hid (R22.out.below (B26.out.mono (by omega)))
  clear R22
  have R29 := Lib.hid (R23.out.below (B26.out.mono (by omega)))
  clear R23
  have O30 := Lib.hid (own_below O19.out B26.out)
  clear O19
  have T31 := Lib.hid (T24.out.trans (B26.out.mono (by omega)))
  clear T24
  have LTx1 := Lib.hid O25.out.lt
  go_wp2_with fail
  refine (q2.out Ax0 cx0 Ax1 cx1 w5 (Row.of_own O30.out) (Row.of_own O25.out)).mono ?_
  rintro e w6 ⟨rfl, hB⟩
  have B32 := Lib.hid hB
  clear hB
  have z33 : w5.heap.size ≤ w6.heap.size := B32.out.size
  have R34 := Lib.hid (R28.out.below (B32.out.mono (by omega)))
  clear R28
  have R35 := Lib.hid (R29.out.below (B32.out.mono (by omega)))
  clear R29
  have O36 := Lib.hid (own_below O30.out B32.out)
  clear O30
  have O37 := Lib.hid (own_below O25.out B32.out)
  clear O25
  have T38 := Lib.hid (T31.out.trans (B32.out.mono (by omega)))
  clear T31
  go_wp2_with fail
  refine (toStringS_any A0 s0 c0 w6 (R34.out.more (by omega)) hlen0).mono ?_
  rintro e w7 ⟨Ay0, cy0, rfl, ho, hB⟩
  have O39 := Lib.hid ho
  have B40 := Lib.hid hB
  clear ho hB
  have z41 : w6.heap.size ≤ w7.heap.size := B40.out.size
  have R42 := Lib.hid (R34.out.below (B40.out.mono (by omega)))
  clear R34
  have R43 := Lib.hid (R35.out.below (B40.out.mono (by omega)))
  clear R35
  have O44 := Lib.hid (own_below O36.out B40.out)
  clear O36
  have O45 := Lib.hid (own_below O37.out B40.out)
  clear O37
  have T46 := Lib.hid (T38.out.trans (B40.out.mono (by omega)))
  clear T38
  go_wp2_with fail
  refine (eqStringS_same Ax0 Ay0 s0 cx0 cy0 w7 (Row.of_own O44.out) (Row.of_own O39.out) (by omega)).mono ?_
  rintro e w8 ⟨rfl, hB⟩
  have B47 := Lib.hid hB
  clear hB O39
  have z48 : w7.heap.size ≤ w8.heap.size := B47.out.size
  have R49 := Lib.hid (R42.out.below (B47.out.mono (by omega)))
  clear R42
  have R50 := Lib.hid (R43.out.below (B47.out.mono (by omega)))
  clear R43
  have O51 := Lib.hid (own_below O44.out B47.out)
  clear O44
  have O52 := Lib.hid (own_below O45.out B47.out)
  clear O45
  have T53 := Lib.hid (T46.out.trans (B47.out.mono (by omega)))
  clear T46
  go_wp2_with fail
  refine (toStringS_any A1 s1 c1 w8 (R50.out.more (by omega)) hlen1).mono ?_
  rintro e w9 ⟨Ay1, cy1, rfl, ho, hB⟩
  have O54 := Lib.hid ho
  have B55 := Lib.hid hB
  clear ho hB
  have z56 : w8.heap.size ≤ w9.heap.size := B55.out.size
  have R57 := Lib.hid (R49.out.below (B55.out.mono (by omega)))
  clear R49
  have R58 := Lib.hid (R50.out.below (B55.out.mono (by omega)))
  clear R50
  have O59 := Lib.hid (own_below O51.out B55.out)
  clear O51
  have O60 := Lib.hid (own_below O52.out B55.out)
  clear O52
  have T61 := Lib.hid (T53.out.trans (B55.out.mono (by omega)))
  clear T53
  go_wp2_with fail
  refine (eqStringS_same Ax1 Ay1 s1 cx1 cy1 w9 (Row.of_own O60.out) (Row.of_own O54.out) (by omega)).mono ?_
  rintro e w10 ⟨rfl, hB⟩
  have B62 := Lib.hid hB
  clear hB O54
  have z63 : w9.heap.size ≤ w10.heap.size := B62.out.size
  have R64 := Lib.hid (R57.out.below (B62.out.mono (by omega)))
  clear R57
  have R65 := Lib.hid (R58.out.below (B62.out.mono (by omega)))
  clear R58
  have O66 := Lib.hid (own_below O59.out B62.out)
  clear O59
  have O67 := Lib.hid (own_below O60.out B62.out)
  clear O60
  have T68 := Lib.hid (T61.out.trans (B62.out.mono (by omega)))
  clear T61
  go_wp2
  go_ret
  exact ⟨rfl, T68.out⟩
end Go.Proofs.YtjffgpgmgnfafaaDoor
