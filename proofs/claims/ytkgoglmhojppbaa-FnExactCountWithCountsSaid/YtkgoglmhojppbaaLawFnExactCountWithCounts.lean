/-
  WHAT THIS FILE PROVES: a call of the law FnExactCountWithCounts returns true and turns nothing that was there, for every arguments that read as lists, texts and numbers.
-/
import Derived.Test.YtkgoglmhojppbaaLeS
import Derived.Test.YtkgoglmhojppbaaLeI
import Derived.Test.YtkgoglmhojppbaaToInts
namespace Go.Proofs.Ytkgoglmhojppbaa
open Go.RowKit Go.Shelf

set_option maxHeartbeats 4000000 in
theorem walk_fnExactCountWithCounts (A0 : Option Addr) (z0 : List Int) (c0 : Nat) (w : World) (h0 : Row w w.heap.size A0 (ints z0)) (hl00 : z0.length ≤ maxLen) (_hsh : w.ShapedOpen Try.prog) :
    Calls Try.prog 3 #[.slice A0 z0.length c0] w fun e w' => e = .returned (.bool true) ∧ Below w.heap.size w w' := by
  have hl0 : z0.length ≤ 9223372036854775807 := by unfold maxLen at hl00; exact hl00
  replace h0 := Lib.hid h0
  clear hl00
  by_cases hlen0 : z0.length ≤ 1048576
  rotate_left
  · go_enter Try.func3, Try.ntmps3
    go_wp2_with fail
    go_ret
    exact ⟨rfl, Below.refl _ _⟩
  have hzl0 : (z0.length : Int) ≤ 1048576 := by omega
  go_enter Try.func3, Try.ntmps3
  have q1 := fun (B0 : Option Addr) (d0 : Nat) (W : World) (g0 : Row W W.heap.size B0 (ints z0)) => spec_CountWithCounts B0 z0 d0 W g0 hl0
  have q2 := fun (B0 : Option Addr) (d0 : Nat) (W : World) (g0 : Row W W.heap.size B0 (ints z0)) => impl_CountWithCounts B0 z0 d0 W g0 hl0
  generalize (W.cwcOf z0) = xs at q1 q2
  generalize W.flB 12 z0 = ok at q1 q2
  replace q1 := Lib.hid q1
  replace q2 := Lib.hid q2
  go_wp2_with fail
  refine (toIntS_any A0 z0 c0 w (h0.out.more (by omega)) hlen0).mono ?_
  rintro e w1 ⟨Ap0, cp0, rfl, ho, hB⟩
  have O1 := Lib.hid ho
  have B2 := Lib.hid hB
  clear ho hB
  have z3 : w.heap.size ≤ w1.heap.size := B2.out.size
  have R4 := Lib.hid (h0.out.below (B2.out.mono (by omega)))
  clear h0
  have T5 := Lib.hid (B2.out)
  have LTp0 := Lib.hid O1.out.lt
  go_wp2_with fail
  refine (q1.out Ap0 cp0 w1 (Row.of_own O1.out)).mono ?_
  rintro e w2 ⟨rfl, hB⟩
  have B6 := Lib.hid hB
  clear hB
  have z7 : w1.heap.size ≤ w2.heap.size := B6.out.size
  have R8 := Lib.hid (R4.out.below (B6.out.mono (by omega)))
  clear R4
  have T9 := Lib.hid (T5.out.trans (B6.out.mono (by omega)))
  clear T5
  go_wp2_with fail
  refine (toIntS_any A0 z0 c0 w2 (R8.out.more (by omega)) hlen0).mono ?_
  rintro e w3 ⟨Ax0, cx0, rfl, ho, hB⟩
  have O10 := Lib.hid ho
  have B11 := Lib.hid hB
  clear ho hB
  have z12 : w2.heap.size ≤ w3.heap.size := B11.out.size
  have R13 := Lib.hid (R8.out.below (B11.out.mono (by omega)))
  clear R8
  have T14 := Lib.hid (T9.out.trans (B11.out.mono (by omega)))
  clear T9
  have LTx0 := Lib.hid O10.out.lt
  go_wp2_with fail
  refine (q2.out Ax0 cx0 w3 (Row.of_own O10.out)).mono ?_
  rintro e w4 ⟨rfl, hB⟩
  have B15 := Lib.hid hB
  clear hB
  have z16 : w3.heap.size ≤ w4.heap.size := B15.out.size
  have R17 := Lib.hid (R13.out.below (B15.out.mono (by omega)))
  clear R13
  have O18 := Lib.hid (own_below O10.out B15.out)
  clear O10
  have T19 := Lib.hid (T14.out.trans (B15.out.mono (by omega)))
  clear T14
  go_wp2_with fail
  refine (toIntS_any A0 z0 c0 w4 (R17.out.more (by omega)) hlen0).mono ?_
  rintro e w5 ⟨Ay0, cy0, rfl, ho, hB⟩
  have O20 := Lib.hid ho
  have B21 := Lib.hid hB
  clear ho hB
  have z22 : w4.heap.size ≤ w5.heap.size := B21.out.size
  have R23 := Lib.hid (R17.out.below (B21.out.mono (by omega)))
  clear R17
  have O24 := Lib.hid (own_below O18.out B21.out)
  clear O18
  have T25 := Lib.hid (T19.out.trans (B21.out.mono (by omega)))
  clear T19
  go_wp2_with fail
  refine (eqIntS_same Ax0 Ay0 z0 cx0 cy0 w5 (Row.of_own O24.out) (Row.of_own O20.out) (by omega)).mono ?_
  rintro e w6 ⟨rfl, hB⟩
  have B26 := Lib.hid hB
  clear hB O20
  have z27 : w5.heap.size ≤ w6.heap.size := B26.out.size
  have R28 := Lib.hid (R23.out.below (B26.out.mono (by omega)))
  clear R23
  have O29 := Lib.hid (own_below O24.out B26.out)
  clear O24
  have T30 := Lib.hid (T25.out.trans (B26.out.mono (by omega)))
  clear T25
  go_wp2
  go_ret
  exact ⟨rfl, T30.out⟩
end Go.Proofs.Ytkgoglmhojppbaa
