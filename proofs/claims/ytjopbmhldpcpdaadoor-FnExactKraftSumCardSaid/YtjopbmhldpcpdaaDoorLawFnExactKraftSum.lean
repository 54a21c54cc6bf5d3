/-
  WHAT THIS FILE PROVES: a call of the law FnExactKraftSum returns true and turns nothing that was there, for every arguments that read as lists, texts and numbers.
-/
import Derived.Test.YtjopbmhldpcpdaaDoorKrK
import Derived.Test.YtjopbmhldpcpdaaDoorKrE
import Derived.Test.YtjopbmhldpcpdaaDoorEqR
import Derived.Test.YtjopbmhldpcpdaaDoorMemS
import Derived.Test.YtjopbmhldpcpdaaDoorInt
namespace Go.Proofs.YtjopbmhldpcpdaaDoor
open Go.RowKit Go.Shelf

set_option maxHeartbeats 4000000 in
theorem walk_fnExactKraftSum (A0 : Option Addr) (s0 : List ByteArray) (c0 : Nat) (n1 : Int) (w : World) (h0 : Row w w.heap.size A0 (strs s0)) (hl00 : s0.length ≤ maxLen) (hs00 : ∀ s ∈ s0, s.size ≤ maxLen) (hn10 : (Lit.int .i64 n1).wf = true) (_hsh : w.ShapedOpen Tryd.prog) :
    Calls Tryd.prog 3 #[.slice A0 s0.length c0, .int .i64 n1] w fun e w' => e = .returned (.bool true) ∧ Below w.heap.size w w' := by
  have hl0 : s0.length ≤ 9223372036854775807 := by unfold maxLen at hl00; exact hl00
  have hs0 : Hid (∀ s ∈ s0, s.size ≤ 9223372036854775807) := fun s hs => by have := hs00 s hs; unfold maxLen at this; exact this
  replace h0 := Lib.hid h0
  clear hl00 hs00
  have hn1 : -9223372036854775808 ≤ n1 ∧ n1 ≤ 9223372036854775807 := int_bounds hn10
  have hna1 := hn1.1
  have hnb1 := hn1.2
  clear hn10 hn1
  go_enter Tryd.func3, Tryd.ntmps3
  go_wp2_with fail
  refine (szStringS_any A0 s0 c0 1048576 w h0.out hl0 hs0.out (by omega) (by omega)).mono ?_
  rintro e w' ⟨r0, rfl, rfl, hr0a, hr0b, hr0c⟩
  replace hr0c := Lib.hid hr0c
  by_cases hr0 : r0 < 0
  · go_wp2_with fail
    go_ret
    exact ⟨rfl, Below.refl _ _⟩
  have hlen0 := (hr0c.out (by omega)).1
  have q1 := fun (B0 : Option Addr) (d0 : Nat) (W : World) (g0 : Row W W.heap.size B0 (strs s0)) (e0 : s0.length ≤ d0) => spec_KraftSum B0 s0 d0 n1 W g0 e0 hl0 hs0.out
  have q2 := fun (B0 : Option Addr) (d0 : Nat) (W : World) (g0 : Row W W.heap.size B0 (strs s0)) (e0 : s0.length ≤ d0) => impl_KraftSum B0 s0 d0 n1 W g0 e0 hl0 hs0.out
  generalize ksOf s0 n1 = xs at q1 q2
  generalize W.krSet s0 n1 = ok at q1 q2
  obtain ⟨xp, xq⟩ := xs
  dsimp only at q1 q2
  replace q1 := Lib.hid q1
  replace q2 := Lib.hid q2
  go_wp2_with fail
  refine (toStringS_any A0 s0 c0 w (h0.out.more (by omega)) hlen0).mono ?_
  rintro e w1 ⟨Ap0, cp0, rfl, ho, hB⟩
  have O1 := Lib.hid ho
  have B2 := Lib.hid hB
  clear ho hB
  have z3 : w.heap.size ≤ w1.heap.size := B2.out.size
  have R4 := Lib.hid (h0.out.below (B2.out.mono (by omega)))
  clear h0
  have T5 := Lib.hid (B2.out)
  have LTp0 := Lib.hid O1.out.lt
  go_wp2_with fail
  refine (q1.out Ap0 cp0 w1 (Row.of_own O1.out) (own_cap O1.out)).mono ?_
  rintro e w2 ⟨rfl, hB⟩
  have B6 := Lib.hid hB
  clear hB
  have z7 : w1.heap.size ≤ w2.heap.size := B6.out.size
  have R8 := Lib.hid (R4.out.below (B6.out.mono (by omega)))
  clear R4
  have T9 := Lib.hid (T5.out.trans (B6.out.mono (by omega)))
  clear T5
  go_wp2_with fail
  obtain ⟨w3, hV⟩ : ∃ V, V = w2.alloc (.cells #[.int .i64 (xp : Int), .int .i64 (xq : Int)] 25) := ⟨_, rfl⟩
  have hBV : Below w2.heap.size w2 w3 := by rw [hV]; exact (Below.refl _ _).alloc (Nat.le_refl _) _
  have hk0 : w3.cell? ⟨w2.heap.size, 0, none⟩ = some (.int .i64 (xp : Int)) := by rw [hV, World.cell?_alloc_at _ _ _ _ rfl]; rfl
  have hk1 : w3.cell? ⟨w2.heap.size, 1, none⟩ = some (.int .i64 (xq : Int)) := by rw [hV, World.cell?_alloc_at _ _ _ _ rfl]; rfl
  have z13 : w2.heap.size < w3.heap.size := by rw [hV]; simp
  rw [← hV]
  have B10 := Lib.hid hBV
  have K11 := Lib.hid hk0
  have K12 := Lib.hid hk1
  clear hV hBV hk0 hk1
  have z14 : w2.heap.size ≤ w3.heap.size := B10.out.size
  have R15 := Lib.hid (R8.out.below (B10.out.mono (by omega)))
  clear R8
  have T16 := Lib.hid (T9.out.trans (B10.out.mono (by omega)))
  clear T9
  refine (toStringS_any A0 s0 c0 w3 (R15.out.more (by omega)) hlen0).mono ?_
  rintro e w4 ⟨Ax0, cx0, rfl, ho, hB⟩
  have O17 := Lib.hid ho
  have B18 := Lib.hid hB
  clear ho hB
  have z19 : w3.heap.size ≤ w4.heap.size := B18.out.size
  have R20 := Lib.hid (R15.out.below (B18.out.mono (by omega)))
  clear R15
  have C21 := Lib.hid ((B18.out.cell (p := ⟨w2.heap.size, 0, none⟩) (by show w2.heap.size < _; omega)).trans K11.out)
  clear K11
  have C22 := Lib.hid ((B18.out.cell (p := ⟨w2.heap.size, 1, none⟩) (by show w2.heap.size < _; omega)).trans K12.out)
  clear K12
  have T23 := Lib.hid (T16.out.trans (B18.out.mono (by omega)))
  clear T16
  have LTx0 := Lib.hid O17.out.lt
  go_wp2_with fail
  refine (q2.out Ax0 cx0 w4 (Row.of_own O17.out) (own_cap O17.out)).mono ?_
  rintro e w5 ⟨rfl, hB⟩
  have B24 := Lib.hid hB
  clear hB
  have z25 : w4.heap.size ≤ w5.heap.size := B24.out.size
  have R26 := Lib.hid (R20.out.below (B24.out.mono (by omega)))
  clear R20
  have O27 := Lib.hid (own_below O17.out B24.out)
  clear O17
  have C28 := Lib.hid ((B24.out.cell (p := ⟨w2.heap.size, 0, none⟩) (by show w2.heap.size < _; omega)).trans C21.out)
  clear C21
  have C29 := Lib.hid ((B24.out.cell (p := ⟨w2.heap.size, 1, none⟩) (by show w2.heap.size < _; omega)).trans C22.out)
  clear C22
  have T30 := Lib.hid (T23.out.trans (B24.out.mono (by omega)))
  clear T23
  have cw00 := C28.out
  have cw01 := C29.out
  have lw0 : w2.heap.size < w5.heap.size := by omega
  go_wp2_with fail
  clear cw00 cw01 lw0
  obtain ⟨w6, hV⟩ : ∃ V, V = w5.alloc (.cells #[.int .i64 (xp : Int), .int .i64 (xq : Int)] 25) := ⟨_, rfl⟩
  have hBV : Below w5.heap.size w5 w6 := by rw [hV]; exact (Below.refl _ _).alloc (Nat.le_refl _) _
  have hk0 : w6.cell? ⟨w5.heap.size, 0, none⟩ = some (.int .i64 (xp : Int)) := by rw [hV, World.cell?_alloc_at _ _ _ _ rfl]; rfl
  have hk1 : w6.cell? ⟨w5.heap.size, 1, none⟩ = some (.int .i64 (xq : Int)) := by rw [hV, World.cell?_alloc_at _ _ _ _ rfl]; rfl
  have z34 : w5.heap.size < w6.heap.size := by rw [hV]; simp
  rw [← hV]
  have B31 := Lib.hid hBV
  have K32 := Lib.hid hk0
  have K33 := Lib.hid hk1
  clear hV hBV hk0 hk1
  have z35 : w5.heap.size ≤ w6.heap.size := B31.out.size
  have R36 := Lib.hid (R26.out.below (B31.out.mono (by omega)))
  clear R26
  have O37 := Lib.hid (own_below O27.out B31.out)
  clear O27
  have C38 := Lib.hid ((B31.out.cell (p := ⟨w2.heap.size, 0, none⟩) (by show w2.heap.size < _; omega)).trans C28.out)
  clear C28
  have C39 := Lib.hid ((B31.out.cell (p := ⟨w2.heap.size, 1, none⟩) (by show w2.heap.size < _; omega)).trans C29.out)
  clear C29
  have T40 := Lib.hid (T30.out.trans (B31.out.mono (by omega)))
  clear T30
  refine (eqRatio_same (xp : Int) (xq : Int) w6).mono ?_
  rintro e w7 ⟨rfl, hB⟩
  clear C38 C39 K32 K33
  have B41 := Lib.hid hB
  clear hB
  have z42 : w6.heap.size ≤ w7.heap.size := B41.out.size
  have R43 := Lib.hid (R36.out.below (B41.out.mono (by omega)))
  clear R36
  have O44 := Lib.hid (own_below O37.out B41.out)
  clear O37
  have T45 := Lib.hid (T40.out.trans (B41.out.mono (by omega)))
  clear T40
  go_wp2_with fail
  refine (toStringS_any A0 s0 c0 w7 (R43.out.more (by omega)) hlen0).mono ?_
  rintro e w8 ⟨Ay0, cy0, rfl, ho, hB⟩
  have O46 := Lib.hid ho
  have B47 := Lib.hid hB
  clear ho hB
  have z48 : w7.heap.size ≤ w8.heap.size := B47.out.size
  have R49 := Lib.hid (R43.out.below (B47.out.mono (by omega)))
  clear R43
  have O50 := Lib.hid (own_below O44.out B47.out)
  clear O44
  have T51 := Lib.hid (T45.out.trans (B47.out.mono (by omega)))
  clear T45
  go_wp2_with fail
  refine (eqStringS_same Ax0 Ay0 s0 cx0 cy0 w8 (Row.of_own O50.out) (Row.of_own O46.out) (by omega)).mono ?_
  rintro e w9 ⟨rfl, hB⟩
  have B52 := Lib.hid hB
  clear hB O46
  have z53 : w8.heap.size ≤ w9.heap.size := B52.out.size
  have R54 := Lib.hid (R49.out.below (B52.out.mono (by omega)))
  clear R49
  have O55 := Lib.hid (own_below O50.out B52.out)
  clear O50
  have T56 := Lib.hid (T51.out.trans (B52.out.mono (by omega)))
  clear T51
  go_wp2
  go_ret
  exact ⟨rfl, T56.out⟩
end Go.Proofs.YtjopbmhldpcpdaaDoor
