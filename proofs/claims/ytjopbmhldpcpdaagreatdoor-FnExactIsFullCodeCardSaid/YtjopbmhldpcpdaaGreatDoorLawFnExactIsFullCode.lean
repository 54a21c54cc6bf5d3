/-
  WHAT THIS FILE PROVES: a call of the law FnExactIsFullCode returns true and turns nothing that was there, for every arguments that read as lists, texts and numbers.
-/
import Derived.Test.YtjopbmhldpcpdaaGreatDoorIfc
import Derived.Test.YtjopbmhldpcpdaaGreatDoorMemS
import Derived.Test.YtjopbmhldpcpdaaGreatDoorInt
namespace Go.Proofs.YtjopbmhldpcpdaaGreatDoor
open Go.RowKit Go.Shelf

set_option maxHeartbeats 4000000 in
theorem walk_fnExactIsFullCode (A0 : Option Addr) (s0 : List ByteArray) (c0 : Nat) (n1 : Int) (w : World) (h0 : Row w w.heap.size A0 (strs s0)) (hl00 : s0.length ≤ maxLen) (hs00 : ∀ s ∈ s0, s.size ≤ maxLen) (hn10 : (Lit.int .i64 n1).wf = true) (_hsh : w.ShapedOpen Tryz.prog) :
    Calls Tryz.prog 3 #[.slice A0 s0.length c0, .int .i64 n1] w fun e w' => e = .returned (.bool true) ∧ Below w.heap.size w w' := by
  have hl0 : s0.length ≤ 9223372036854775807 := by unfold maxLen at hl00; exact hl00
  have hs0 : Hid (∀ s ∈ s0, s.size ≤ 9223372036854775807) := fun s hs => by have := hs00 s hs; unfold maxLen at this; exact this
  replace h0 := Lib.hid h0
  clear hl00 hs00
  have hn1 : -9223372036854775808 ≤ n1 ∧ n1 ≤ 9223372036854775807 := int_bounds hn10
  have hna1 := hn1.1
  have hnb1 := hn1.2
  clear hn10 hn1
  go_enter Tryz.func3, Tryz.ntmps3
  go_wp2_with fail
  refine (szStringS_any A0 s0 c0 1048576 w h0.out hl0 hs0.out (by omega) (by omega)).mono ?_
  rintro e w' ⟨r0, rfl, rfl, hr0a, hr0b, hr0c⟩
  replace hr0c := Lib.hid hr0c
  by_cases hr0 : r0 < 0
  · go_wp2_with fail
    go_ret
    exact ⟨rfl, Below.refl _ _⟩
  have hlen0 := (hr0c.out (by omega)).1
  have q1 := fun (B0 : Option Addr) (d0 : Nat) (W : World) (g0 : Row W W.heap.size B0 (strs s0)) (e0 : s0.length ≤ d0) => spec_IsFullCode B0 s0 d0 n1 W g0 e0 hl0 hs0.out
  have q2 := fun (B0 : Option Addr) (d0 : Nat) (W : World) (g0 : Row W W.heap.size B0 (strs s0)) (e0 : s0.length ≤ d0) => impl_IsFullCode B0 s0 d0 n1 W g0 e0 hl0 hs0.out
  generalize (ifOf s0 n1) = xs at q1 q2
  generalize W.krSet s0 n1 = ok at q1 q2
  replace q1 := Lib.hid q1
  replace q2 := Lib.hid q2
  go_wp2_with fail
  refine (toStringS_any A0 s0 c0 w (h0.out.more (by omega)) hlen0).mono ?_
  rintro e w1 ⟨Ap0, cp0, rfl, ho, hB⟩
  have O1 := Lib.hid ho
  have B2 := Lib.hid hB
  clear ho hB
  have z3 : w.heap.size ≤ w1.heap.size := B2.out.size
  have R4 := Lib.hid (h0.out.below (B2.out.mono (by omega)))
  clear h0
  have T5 := Lib.hid (B2.out)
  have LTp0 := Lib.hid O1.out.lt
  go_wp2_with fail
  refine (q1.out Ap0 cp0 w1 (Row.of_own O1.out) (own_cap O1.out)).mono ?_
  rintro e w2 ⟨rfl, hB⟩
  have B6 := Lib.hid hB
  clear hB
  have z7 : w1.heap.size ≤ w2.heap.size := B6.out.size
  have R8 := Lib.hid (R4.out.below (B6.out.mono (by omega)))
  clear R4
  have T9 := Lib.hid (T5.out.trans (B6.out.mono (by omega)))
  clear T5
  go_wp2_with fail
  refine (toStringS_any A0 s0 c0 w2 (R8.out.more (by omega)) hlen0).mono ?_
  rintro e w3 ⟨Ax0, cx0, rfl, ho, hB⟩
  have O10 := Lib.hid ho
  have B11 := Lib.hid hB
  clear ho hB
  have z12 : w2.heap.size ≤ w3.heap.size := B11.out.size
  have R13 := Lib.hid (R8.out.below (B11.out.mono (by omega)))
  clear R8
  have T14 := Lib.hid (T9.out.trans (B11.out.mono (by omega)))
  clear T9
  have LTx0 := Lib.hid O10.out.lt
  go_wp2_with fail
  refine (q2.out Ax0 cx0 w3 (Row.of_own O10.out) (own_cap O10.out)).mono ?_
  rintro e w4 ⟨rfl, hB⟩
  have B15 := Lib.hid hB
  clear hB
  have z16 : w3.heap.size ≤ w4.heap.size := B15.out.size
  have R17 := Lib.hid (R13.out.below (B15.out.mono (by omega)))
  clear R13
  have O18 := Lib.hid (own_below O10.out B15.out)
  clear O10
  have T19 := Lib.hid (T14.out.trans (B15.out.mono (by omega)))
  clear T14
  go_wp2_with fail
  refine (toStringS_any A0 s0 c0 w4 (R17.out.more (by omega)) hlen0).mono ?_
  rintro e w5 ⟨Ay0, cy0, rfl, ho, hB⟩
  have O20 := Lib.hid ho
  have B21 := Lib.hid hB
  clear ho hB
  have z22 : w4.heap.size ≤ w5.heap.size := B21.out.size
  have R23 := Lib.hid (R17.out.below (B21.out.mono (by omega)))
  clear R17
  have O24 := Lib.hid (own_below O18.out B21.out)
  clear O18
  have T25 := Lib.hid (T19.out.trans (B21.out.mono (by omega)))
  clear T19
  go_wp2_with fail
  refine (eqStringS_same Ax0 Ay0 s0 cx0 cy0 w5 (Row.of_own O24.out) (Row.of_own O20.out) (by omega)).mono ?_
  rintro e w6 ⟨rfl, hB⟩
  have B26 := Lib.hid hB
  clear hB O20
  have z27 : w5.heap.size ≤ w6.heap.size := B26.out.size
  have R28 := Lib.hid (R23.out.below (B26.out.mono (by omega)))
  clear R23
  have O29 := Lib.hid (own_below O24.out B26.out)
  clear O24
  have T30 := Lib.hid (T25.out.trans (B26.out.mono (by omega)))
  clear T25
  go_wp2
  go_ret
  exact ⟨rfl, T30.out⟩
end Go.Proofs.YtjopbmhldpcpdaaGreatDoor
