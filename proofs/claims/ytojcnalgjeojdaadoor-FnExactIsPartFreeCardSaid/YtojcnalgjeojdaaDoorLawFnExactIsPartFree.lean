/-
  WHAT THIS FILE PROVES: a call of the law FnExactIsPartFree returns true and turns nothing that was there, for every arguments that read as lists, texts and numbers.
-/
import Derived.Test.YtojcnalgjeojdaaDoorPartS
import Derived.Test.YtojcnalgjeojdaaDoorPartI
import Derived.Test.YtojcnalgjeojdaaDoorMemS
namespace Go.Proofs.YtojcnalgjeojdaaDoor
open Go.RowKit Go.Shelf

set_option maxHeartbeats 4000000 in
theorem walk_fnExactIsPartFree (A0 : Option Addr) (s0 : List ByteArray) (c0 : Nat) (w : World) (h0 : Row w w.heap.size A0 (strs s0)) (hl00 : s0.length ≤ maxLen) (hs00 : ∀ s ∈ s0, s.size ≤ maxLen) (_hsh : w.ShapedOpen Tryd.prog) :
    Calls Tryd.prog 5 #[.slice A0 s0.length c0] w fun e w' => e = .returned (.bool true) ∧ Below w.heap.size w w' := by
  have hl0 : s0.length ≤ 9223372036854775807 := by unfold maxLen at hl00; exact hl00
  have hs0 : Hid (∀ s ∈ s0, s.size ≤ 9223372036854775807) := fun s hs => by have := hs00 s hs; unfold maxLen at this; exact this
  replace h0 := Lib.hid h0
  clear hl00 hs00
  obtain ⟨m, hm0⟩ := Tryd.laysM144.s1_3 w _hsh
  have hmx := Lib.hid (row_one hm0)
  clear hm0
  go_enter Tryd.func5, Tryd.ntmps5
  go_wp2_with fail
  refine (szStringS_any A0 s0 c0 1048576 w h0.out hl0 hs0.out (by omega) (by omega)).mono ?_
  rintro e w' ⟨r0, rfl, rfl, hr0a, hr0b, hr0c⟩
  replace hr0c := Lib.hid hr0c
  by_cases hr0 : r0 < 0
  · go_wp2_with fail
    go_ret
    exact ⟨rfl, Below.refl _ _⟩
  have hlen0 := (hr0c.out (by omega)).1
  have q1 := fun (B0 : Option Addr) (d0 : Nat) (W : World) (g0 : Row W W.heap.size B0 (strs s0)) => spec_IsPartFree B0 s0 d0 W g0 hl0 hs0.out
  have q2 := fun (B0 : Option Addr) (d0 : Nat) (W : World) (gm : Row W W.heap.size (some ⟨0, 0, none⟩) [.int .i64 m]) (g0 : Row W W.heap.size B0 (strs s0)) => impl_IsPartFree m B0 s0 d0 W gm g0 hl0 hs0.out
  generalize (pfOf s0) = xs at q1 q2
  generalize W.isSet s0 = ok at q1 q2
  replace q1 := Lib.hid q1
  replace q2 := Lib.hid q2
  go_wp2_with fail
  refine (toStringS_any A0 s0 c0 w (h0.out.more (by omega)) hlen0).mono ?_
  rintro e w1 ⟨Ap0, cp0, rfl, ho, hB⟩
  have O1 := Lib.hid ho
  have B2 := Lib.hid hB
  clear ho hB
  have z3 : w.heap.size ≤ w1.heap.size := B2.out.size
  have R4 := Lib.hid (h0.out.below (B2.out.mono (by omega)))
  clear h0
  have R5 := Lib.hid (hmx.out.below (B2.out.mono (by omega)))
  clear hmx
  have T6 := Lib.hid (B2.out)
  have LTp0 := Lib.hid O1.out.lt
  go_wp2_with fail
  refine (q1.out Ap0 cp0 w1 (Row.of_own O1.out)).mono ?_
  rintro e w2 ⟨rfl, hB⟩
  have B7 := Lib.hid hB
  clear hB
  have z8 : w1.heap.size ≤ w2.heap.size := B7.out.size
  have R9 := Lib.hid (R4.out.below (B7.out.mono (by omega)))
  clear R4
  have R10 := Lib.hid (R5.out.below (B7.out.mono (by omega)))
  clear R5
  have T11 := Lib.hid (T6.out.trans (B7.out.mono (by omega)))
  clear T6
  go_wp2_with fail
  refine (toStringS_any A0 s0 c0 w2 (R9.out.more (by omega)) hlen0).mono ?_
  rintro e w3 ⟨Ax0, cx0, rfl, ho, hB⟩
  have O12 := Lib.hid ho
  have B13 := Lib.hid hB
  clear ho hB
  have z14 : w2.heap.size ≤ w3.heap.size := B13.out.size
  have R15 := Lib.hid (R9.out.below (B13.out.mono (by omega)))
  clear R9
  have R16 := Lib.hid (R10.out.below (B13.out.mono (by omega)))
  clear R10
  have T17 := Lib.hid (T11.out.trans (B13.out.mono (by omega)))
  clear T11
  have LTx0 := Lib.hid O12.out.lt
  go_wp2_with fail
  refine (q2.out Ax0 cx0 w3 (R16.out.more (by omega)) (Row.of_own O12.out)).mono ?_
  rintro e w4 ⟨rfl, hB⟩
  have B18 := Lib.hid hB
  clear hB
  have z19 : w3.heap.size ≤ w4.heap.size := B18.out.size
  have R20 := Lib.hid (R15.out.below (B18.out.mono (by omega)))
  clear R15
  have R21 := Lib.hid (R16.out.below (B18.out.mono (by omega)))
  clear R16
  have O22 := Lib.hid (own_below O12.out B18.out)
  clear O12
  have T23 := Lib.hid (T17.out.trans (B18.out.mono (by omega)))
  clear T17
  go_wp2_with fail
  refine (toStringS_any A0 s0 c0 w4 (R20.out.more (by omega)) hlen0).mono ?_
  rintro e w5 ⟨Ay0, cy0, rfl, ho, hB⟩
  have O24 := Lib.hid ho
  have B25 := Lib.hid hB
  clear ho hB
  have z26 : w4.heap.size ≤ w5.heap.size := B25.out.size
  have R27 := Lib.hid (R20.out.below (B25.out.mono (by omega)))
  clear R20
  have R28 := Lib.hid (R21.out.below (B25.out.mono (by omega)))
  clear R21
  have O29 := Lib.hid (own_below O22.out B25.out)
  clear O22
  have T30 := Lib.hid (T23.out.trans (B25.out.mono (by omega)))
  clear T23
  go_wp2_with fail
  refine (eqStringS_same Ax0 Ay0 s0 cx0 cy0 w5 (Row.of_own O29.out) (Row.of_own O24.out) (by omega)).mono ?_
  rintro e w6 ⟨rfl, hB⟩
  have B31 := Lib.hid hB
  clear hB O24
  have z32 : w5.heap.size ≤ w6.heap.size := B31.out.size
  have R33 := Lib.hid (R27.out.below (B31.out.mono (by omega)))
  clear R27
  have R34 := Lib.hid (R28.out.below (B31.out.mono (by omega)))
  clear R28
  have O35 := Lib.hid (own_below O29.out B31.out)
  clear O29
  have T36 := Lib.hid (T30.out.trans (B31.out.mono (by omega)))
  clear T30
  go_wp2
  go_ret
  exact ⟨rfl, T36.out⟩
end Go.Proofs.YtojcnalgjeojdaaDoor
