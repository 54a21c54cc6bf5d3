/-
  WHAT THIS FILE PROVES: a call of the law FnExactCountLengths returns true and turns nothing that was there, for every arguments that read as lists, texts and numbers.
-/
import Derived.Test.YtnfimfapdmkobaaKrC
import Derived.Test.YtnfimfapdmkobaaInt
namespace Go.Proofs.Ytnfimfapdmkobaa
open Go.RowKit Go.Shelf

set_option maxHeartbeats 4000000 in
theorem walk_fnExactCountLengths (n0 : Int) (n1 : Int) (n2 : Int) (w : World) (hn00 : (Lit.int .i64 n0).wf = true) (hn10 : (Lit.int .i64 n1).wf = true) (hn20 : (Lit.int .i64 n2).wf = true) (_hsh : w.ShapedOpen Try.prog) :
    Calls Try.prog 3 #[.int .i64 n0, .int .i64 n1, .int .i64 n2] w fun e w' => e = .returned (.bool true) ∧ Below w.heap.size w w' := by
  have hn0 : -9223372036854775808 ≤ n0 ∧ n0 ≤ 9223372036854775807 := int_bounds hn00
  have hna0 := hn0.1
  have hnb0 := hn0.2
  clear hn00 hn0
  have hn1 : -9223372036854775808 ≤ n1 ∧ n1 ≤ 9223372036854775807 := int_bounds hn10
  have hna1 := hn1.1
  have hnb1 := hn1.2
  clear hn10 hn1
  have hn2 : -9223372036854775808 ≤ n2 ∧ n2 ≤ 9223372036854775807 := int_bounds hn20
  have hna2 := hn2.1
  have hnb2 := hn2.2
  clear hn20 hn2
  go_enter Try.func3, Try.ntmps3
  have q1 := fun  (W : World)  => spec_CountLengths n0 n1 n2 W 
  have q2 := fun  (W : World)  => impl_CountLengths n0 n1 n2 W 
  generalize (((clOf 12 n0 n1 n2).length : Nat) : Int) = xs at q1 q2
  generalize clOk 12 n0 n1 n2 = ok at q1 q2
  replace q1 := Lib.hid q1
  replace q2 := Lib.hid q2
  go_wp2_with fail
  refine (q1.out  w ).mono ?_
  rintro e w1 ⟨rfl, hB⟩
  have B1 := Lib.hid hB
  clear hB
  have z2 : w.heap.size ≤ w1.heap.size := B1.out.size
  have T3 := Lib.hid (B1.out)
  go_wp2_with fail
  refine (q2.out  w1 ).mono ?_
  rintro e w2 ⟨rfl, hB⟩
  have B4 := Lib.hid hB
  clear hB
  have z5 : w1.heap.size ≤ w2.heap.size := B4.out.size
  have T6 := Lib.hid (T3.out.trans (B4.out.mono (by omega)))
  clear T3
  go_wp2
  go_ret
  exact ⟨rfl, T6.out⟩
end Go.Proofs.Ytnfimfapdmkobaa
