/-
  WHAT THIS FILE PROVES: a call of the law FnExactIsSet returns true and turns nothing that was there, for every slice of texts that reads as a list.
-/
import Derived.Test.YtdcobmgamlhglaaDoorIsSet
namespace Go.Proofs.YtdcobmgamlhglaaDoor
open Go.RowKit Go.Shelf

set_option maxHeartbeats 1600000 in
theorem walk_fnExactIsSet (A : Option Addr) (ss : List ByteArray) (c : Nat) (w : World) (h : Row w w.heap.size A (strs ss)) (hl0 : ss.length ≤ maxLen) (hs0 : ∀ s ∈ ss, s.size ≤ maxLen) (_hsh : w.ShapedOpen Tryd.prog) :
    Calls Tryd.prog 3 #[.slice A ss.length c] w fun e w' => e = .returned (.bool true) ∧ Below w.heap.size w w' := by
  have hl : ss.length ≤ 9223372036854775807 := by unfold maxLen at hl0; exact hl0
  have hs : Hid (∀ s ∈ ss, s.size ≤ 9223372036854775807) := fun s hs => by have := hs0 s hs; unfold maxLen at this; exact this
  replace h := Lib.hid h
  clear hl0 hs0
  go_enter Tryd.func3, Tryd.ntmps3
  go_wp2_with fail
  refine (szStringS_any A ss c 1048576 w h.out hl hs.out (by omega) (by omega)).mono ?_
  rintro e w' ⟨r, rfl, rfl, hr1, hr2, hr3⟩
  replace hr3 := Lib.hid hr3
  by_cases hr : r < 0
  · go_wp2_with fail
    go_ret
    exact ⟨rfl, Below.refl _ _⟩
  · have hlen := (hr3.out (by omega)).1
    go_wp2_with fail
    refine (toStringS_any A ss c w h.out hlen).mono ?_
    rintro e w1 ⟨A1, k1, rfl, ho1, hB1⟩
    have H1 := Lib.hid (And.intro ho1 hB1)
    clear ho1 hB1
    have c1 := spec_IsSet A1 ss k1 w1 (Row.of_own H1.out.1) hl hs.out
    have c2 := fun (A2 : Option Addr) (k2 : Nat) (w2 : World) (h2 : Row w2 w2.heap.size A2 (strs ss)) => impl_IsSet A2 ss k2 w2 h2 hl hs.out
    generalize W.isSet ss = ok at c1 c2
    replace c1 := Lib.hid c1
    replace c2 := Lib.hid c2
    go_wp2_with fail
    refine c1.out.mono ?_
    rintro e w' ⟨rfl, rfl⟩
    go_wp2_with fail
    refine (toStringS_any A ss c w1 ((h.out.below H1.out.2).more H1.out.2.size) hlen).mono ?_
    rintro e w2 ⟨A2, k2, rfl, ho2, hB2⟩
    have H2 := Lib.hid (And.intro ho2 hB2)
    clear ho2 hB2
    go_wp2_with fail
    refine (c2.out A2 k2 w2 (Row.of_own H2.out.1)).mono ?_
    rintro e w3 ⟨rfl, hB3⟩
    have H3 := Lib.hid hB3
    clear hB3
    have b2 := Lib.hid (H1.out.2.trans (H2.out.2.mono H1.out.2.size))
    have b3 := Lib.hid (b2.out.trans (H3.out.mono b2.out.size))
    go_wp2_with fail
    refine (toStringS_any A ss c w3 ((h.out.below b3.out).more b3.out.size) hlen).mono ?_
    rintro e w4 ⟨A4, k4, rfl, ho4, hB4⟩
    have H4 := Lib.hid (And.intro ho4 hB4)
    clear ho4 hB4
    go_wp2_with fail
    refine (eqStringS_same A2 A4 ss k2 k4 w4 ((((Row.of_own H2.out.1).below H3.out).more H3.out.size).below H4.out.2 |>.more H4.out.2.size) (Row.of_own H4.out.1) hl).mono ?_
    rintro e w5 ⟨rfl, hB5⟩
    have H5 := Lib.hid hB5
    clear hB5
    go_wp2
    go_ret
    have b4 := b3.out.trans (H4.out.2.mono b3.out.size)
    exact ⟨rfl, b4.trans (H5.out.mono b4.size)⟩
end Go.Proofs.YtdcobmgamlhglaaDoor
