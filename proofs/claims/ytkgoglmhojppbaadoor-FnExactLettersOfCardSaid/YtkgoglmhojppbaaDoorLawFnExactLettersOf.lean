/-
  WHAT THIS FILE PROVES: a call of the law FnExactLettersOf returns true and turns nothing that was there, for every text whose length an int holds.
-/
import Derived.Test.YtkgoglmhojppbaaDoorLets
namespace Go.Proofs.YtkgoglmhojppbaaDoor
open Go.RowKit Go.Shelf

set_option maxHeartbeats 1600000 in
theorem walk_fnExactLettersOf (s : ByteArray) (w : World) (hs0 : s.size ≤ maxLen) (_hsh : w.ShapedOpen Tryd.prog) :
    Calls Tryd.prog 5 #[.string s] w fun e w' => e = .returned (.bool true) ∧ Below w.heap.size w w' := by
  have hs : s.size ≤ 9223372036854775807 := by unfold maxLen at hs0; exact hs0
  clear hs0
  by_cases h : s.size ≤ 1048576
  · have c1 := fun w => spec_LettersOf s w (by omega)
    have c2 := fun w => impl_LettersOf s w (by omega)
    have hn : (W.lettersOf s.data.toList).length ≤ 1048576 := (by unfold W.lettersOf; split <;> simp [W.lets])
    generalize W.lettersOf s.data.toList = xs at c1 c2 hn
    generalize W.good s.data.toList = ok at c1 c2
    replace c1 := Lib.hid c1
    replace c2 := Lib.hid c2
    go_enter Tryd.func5, Tryd.ntmps5
    go_wp2_with fail
    refine (c1.out _).mono ?_
    rintro e w1 ⟨A1, k1, rfl, ho1, hB1⟩
    have H1 := Lib.hid (And.intro ho1 hB1)
    clear ho1 hB1
    go_wp2_with fail
    refine (c2.out _).mono ?_
    rintro e w2 ⟨A2, k2, rfl, ho2, hB2⟩
    have H2 := Lib.hid (And.intro ho2 hB2)
    clear ho2 hB2
    go_wp2_with fail
    refine (eqIntS_same A2 A1 xs k2 k1 w2 (Row.of_own H2.out.1) (((Row.of_own H1.out.1).below H2.out.2).more H2.out.2.size) (by omega)).mono ?_
    rintro e w3 ⟨rfl, hB3⟩
    have ho3 := own_below H2.out.1 hB3
    have H3 := Lib.hid (And.intro ho3 hB3)
    clear ho3 hB3
    go_wp2_with fail
    refine (markIntS_own A2 xs k2 _ 1 w3 H3.out.1 (by omega) (by omega) (by omega)).mono ?_
    rintro e w4 ⟨rfl, ho4, hg4⟩
    have H4 := Lib.hid (And.intro ho4 hg4)
    clear ho4 hg4
    go_wp2_with fail
    refine (heldIntS_marks A2 xs.length k2 1 w4 (Row.of_own (marks_own H4.out.1)) (by omega) (by omega) (by omega)).mono ?_
    rintro e w' ⟨rfl, rfl⟩
    go_wp2_with fail
    refine (c2.out _).mono ?_
    rintro e w5 ⟨A5, k5, rfl, ho5, hB5⟩
    have H5 := Lib.hid (And.intro ho5 hB5)
    clear ho5 hB5
    have R1 : Hid (Row w5 w5.heap.size A1 (ints xs)) := by
      have r1 : Row w3 w1.heap.size A1 (ints xs) := ((Row.of_own H1.out.1).below H2.out.2).below (H3.out.2.mono H2.out.2.size)
      have r2 : Row w4 w1.heap.size A1 (ints xs) := r1.kept H4.out.2 (Nat.le_trans H2.out.2.size H3.out.2.size) (fun g hg => (H2.out.1.lt g hg).1)
      exact ((r2.more (Nat.le_trans (Nat.le_trans H2.out.2.size H3.out.2.size) H4.out.2.size)).below H5.out.2).more H5.out.2.size
    go_wp2_with fail
    refine (eqIntS_same A5 A1 xs k5 k1 w5 (Row.of_own H5.out.1) R1.out (by omega)).mono ?_
    rintro e w6 ⟨rfl, hB6⟩
    have H6 := Lib.hid hB6
    clear hB6
    go_wp2_with fail
    refine (heldIntS_marks A2 xs.length k2 1 w6 ((((Row.of_own (marks_own H4.out.1)).below H5.out.2).below (H6.out.mono H5.out.2.size)).more (Nat.le_trans H5.out.2.size H6.out.size)) (by omega) (by omega) (by omega)).mono ?_
    rintro e w' ⟨rfl, rfl⟩
    go_wp2
    go_ret
    refine ⟨rfl, ?_⟩
    have b1 := H1.out.2
    have b2 := b1.trans (H2.out.2.mono b1.size)
    have b3 := b2.trans (H3.out.2.mono b2.size)
    have b4 : Below w.heap.size w w4 := b3.grown H4.out.2 b3.size (fun g hg => Nat.le_trans b1.size (H2.out.1.lt g hg).1)
    have b5 := b4.trans (H5.out.2.mono b4.size)
    exact b5.trans (H6.out.mono b5.size)
  · go_enter Tryd.func5, Tryd.ntmps5
    go_wp2
    go_ret
    exact ⟨rfl, Below.refl _ _⟩
end Go.Proofs.YtkgoglmhojppbaaDoor
