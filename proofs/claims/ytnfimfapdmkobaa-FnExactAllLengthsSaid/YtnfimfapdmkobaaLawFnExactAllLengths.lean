/-
  WHAT THIS FILE PROVES: a call of the law FnExactAllLengths returns true and turns nothing that was there, for every arguments that read as lists, texts and numbers.
-/
import Derived.Test.YtnfimfapdmkobaaKrC
import Derived.Test.YtnfimfapdmkobaaInt
namespace Go.Proofs.Ytnfimfapdmkobaa
open Go.RowKit Go.Shelf

set_option maxHeartbeats 4000000 in
theorem walk_fnExactAllLengths (n0 : Int) (n1 : Int) (n2 : Int) (w : World) (hn00 : (Lit.int .i64 n0).wf = true) (hn10 : (Lit.int .i64 n1).wf = true) (hn20 : (Lit.int .i64 n2).wf = true) (_hsh : w.ShapedOpen Try.prog) :
    Calls Try.prog 4 #[.int .i64 n0, .int .i64 n1, .int .i64 n2] w fun e w' => e = .returned (.bool true) ∧ Below w.heap.size w w' := by
  have hn0 : -9223372036854775808 ≤ n0 ∧ n0 ≤ 9223372036854775807 := int_bounds hn00
  have hna0 := hn0.1
  have hnb0 := hn0.2
  clear hn00 hn0
  have hn1 : -9223372036854775808 ≤ n1 ∧ n1 ≤ 9223372036854775807 := int_bounds hn10
  have hna1 := hn1.1
  have hnb1 := hn1.2
  clear hn10 hn1
  have hn2 : -9223372036854775808 ≤ n2 ∧ n2 ≤ 9223372036854775807 := int_bounds hn20
  have hna2 := hn2.1
  have hnb2 := hn2.2
  clear hn20 hn2
  go_enter Try.func4, Try.ntmps4
  have q1 := fun  (W : World)  => (spec_AllLengths n0 n1 n2 W ).mono (fun _ _ h => okIntss_of h)
  have q2 := fun  (W : World)  => (impl_AllLengths n0 n1 n2 W ).mono (fun _ _ h => okIntss_of h)
  have hn : (clOf 8 n0 n1 n2).length ≤ 16777216 := (clOf_len8 n0 n1 n2)
  have hbo : offI (clOf 8 n0 n1 n2) (clOf 8 n0 n1 n2).length ≤ 549755813888 ∧ ∀ x ∈ (clOf 8 n0 n1 n2), x.length ≤ 549755813888 := (clOf_bd n0 n1 n2)
  generalize clOf 8 n0 n1 n2 = xs at q1 q2 hn hbo
  have hb1 := hbo.1
  have hb2 := Lib.hid hbo.2
  clear hbo
  generalize clOk 8 n0 n1 n2 = ok at q1 q2
  replace q1 := Lib.hid q1
  replace q2 := Lib.hid q2
  go_wp2_with fail
  refine (q1.out  w ).mono ?_
  rintro e w1 ⟨w0A, w0c, rfl, ho, hB⟩
  have O1 := Lib.hid ho
  have B2 := Lib.hid hB
  clear ho hB
  have z3 : w.heap.size ≤ w1.heap.size := B2.out.size
  have T4 := Lib.hid (B2.out)
  have LTw0 := Lib.hid O1.out.lt
  have R5 := Lib.hid (RowSS.of_own O1.out)
  clear O1
  have cwe : True := trivial
  go_wp2_with fail
  refine (q2.out  w1 ).mono ?_
  rintro e w2 ⟨g0A, g0c, rfl, ho, hB⟩
  have O6 := Lib.hid ho
  have B7 := Lib.hid hB
  clear ho hB
  have z8 : w1.heap.size ≤ w2.heap.size := B7.out.size
  have R9 := Lib.hid (R5.out.below (B7.out.mono (by omega)))
  clear R5
  have T10 := Lib.hid (T4.out.trans (B7.out.mono (by omega)))
  clear T4
  have LTg0 := Lib.hid O6.out.lt
  go_wp2_with fail
  refine (eqIntSS_same g0A w0A xs g0c w0c w2 (RowSS.of_own O6.out) (R9.out.more (by omega)) (by omega) (fun x hx => by have := hb2.out x hx; omega)).mono ?_
  rintro e w3 ⟨rfl, hB⟩
  have B11 := Lib.hid hB
  clear hB
  have z12 : w2.heap.size ≤ w3.heap.size := B11.out.size
  have R13 := Lib.hid (R9.out.below (B11.out.mono (by omega)))
  clear R9
  have O14 := Lib.hid (ownSS_below O6.out B11.out)
  clear O6
  have T15 := Lib.hid (T10.out.trans (B11.out.mono (by omega)))
  clear T10
  go_wp2_with fail
  refine (markIntSS_own g0A xs g0c _ 1 w3 O14.out (by omega) (by omega) (by omega) (by omega)).mono ?_
  rintro e w4 ⟨rfl, ho, hG⟩
  have G16 := Lib.hid hG
  have O17 := Lib.hid ho
  clear ho hG
  have z18 : w3.heap.size ≤ w4.heap.size := G16.out.size
  have R19 := Lib.hid (R13.out.below (G16.out.mono (by omega)))
  clear R13
  have T20 := Lib.hid (T15.out.trans (G16.out.mono (by omega)))
  clear T15
  go_wp2_with fail
  refine (heldIntSS_marks g0A xs g0c 1 w4 (RowSS.of_own O17.out) (by omega) (by omega) (by omega) (by omega)).mono ?_
  rintro e w' ⟨rfl, rfl⟩
  go_wp2_with fail
  refine (q2.out  w4 ).mono ?_
  rintro e w5 ⟨h0A, h0c, rfl, ho, hB⟩
  have O21 := Lib.hid ho
  have B22 := Lib.hid hB
  clear ho hB
  have z23 : w4.heap.size ≤ w5.heap.size := B22.out.size
  have R24 := Lib.hid (R19.out.below (B22.out.mono (by omega)))
  clear R19
  have O25 := Lib.hid (ownSS_below O17.out B22.out)
  clear O17
  have T26 := Lib.hid (T20.out.trans (B22.out.mono (by omega)))
  clear T20
  have LTh0 := Lib.hid O21.out.lt
  go_wp2_with fail
  refine (eqIntSS_same h0A w0A xs h0c w0c w5 (RowSS.of_own O21.out) (R24.out.more (by omega)) (by omega) (fun x hx => by have := hb2.out x hx; omega)).mono ?_
  rintro e w6 ⟨rfl, hB⟩
  have B27 := Lib.hid hB
  clear hB
  have z28 : w5.heap.size ≤ w6.heap.size := B27.out.size
  have R29 := Lib.hid (R24.out.below (B27.out.mono (by omega)))
  clear R24
  have O30 := Lib.hid (ownSS_below O25.out B27.out)
  clear O25
  have O31 := Lib.hid (ownSS_below O21.out B27.out)
  clear O21
  have T32 := Lib.hid (T26.out.trans (B27.out.mono (by omega)))
  clear T26
  go_wp2_with fail
  refine (heldIntSS_marks g0A xs g0c 1 w6 (RowSS.of_own O30.out) (by omega) (by omega) (by omega) (by omega)).mono ?_
  rintro e w' ⟨rfl, rfl⟩
  go_wp2
  go_ret
  exact ⟨rfl, T32.out⟩
end Go.Proofs.Ytnfimfapdmkobaa
