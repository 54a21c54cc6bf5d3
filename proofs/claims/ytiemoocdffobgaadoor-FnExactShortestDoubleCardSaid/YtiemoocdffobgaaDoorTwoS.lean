/-
  WHAT THIS FILE PROVES: the first word with two readings, and the first two readings of it: the specification's functions hand them back; asked: a slice of texts in memory, lengths that an int holds.
-/
import Derived.Test.YtiemoocdffobgaaDoorDcShort
import Derived.Test.YtiemoocdffobgaaDoorTwoI
import Derived.Deep.RegionWith
namespace Go.Proofs.YtiemoocdffobgaaDoor
open Go.RowKit Go.Shelf

set_option maxHeartbeats 800000 in
theorem spec_ShortestDouble (A : Option Addr) (ss : List ByteArray) (c : Nat) (w : World) (h : Row w w.heap.size A (strs ss)) (hl : ss.length ≤ 9223372036854775807) (hs : ∀ s ∈ ss, s.size ≤ 9223372036854775807) :
    Calls Tryd.prog 22 #[.slice A ss.length c] w fun e w' => e = .returned (.tuple #[.string (sdOf ss), .bool (sdOk ss)]) ∧ Below w.heap.size w w' := by
  have hc := spec_wdSet A ss c w h hl hs
  cases hq : W.isSet ss
  · rw [sdOf_no (sdOk_no hq), sdOk_no hq]
    rw [hq] at hc
    replace hc := Lib.hid hc
    clear h hs hq
    go_enter Tryd.func22, Tryd.ntmps22
    go_wp2_with (go_at_call 29; refine hc.out.mono ?_; rintro e w' ⟨rfl, rfl⟩)
    go_ret2
    exact ⟨rfl, Below.refl _ _⟩
  · have hd := Lib.hid (spec_dcShortest A ss c w h hq)
    have Hset := Lib.hid hq
    rw [hq] at hc
    replace hc := Lib.hid hc
    clear h hs hq
    generalize hso : sdOf ss = so
    generalize hsk : sdOk ss = sk
    replace hso := Lib.hid hso
    replace hsk := Lib.hid hsk
    go_enter Tryd.func22, Tryd.ntmps22
    go_wp2_with fail
    refine hc.out.mono ?_
    rintro e w' ⟨rfl, rfl⟩
    go_wp2_with fail
    refine hd.out.mono ?_
    rintro e w1 ⟨x, rfl, hf, hx, hB⟩
    have HB := Lib.hid hB
    have Hf := Lib.hid hf
    have hes := empty_toList x
    clear hB hf
    by_cases h0 : x.size = 0
    · have hno := sdOk_none (by have := Hf.out; rwa [bst_none h0] at this)
      have Hno := Lib.hid (And.intro (hsk.out.symm.trans hno) (hso.out.symm.trans (sdOf_no hno)))
      rw [decide_eq_true h0] at hes
      clear hno h0
      go_wp2
      go_ret2
      exact ⟨by rw [Hno.out.1, Hno.out.2]; rfl, HB.out⟩
    · have hf1 : FD ss (some x.data.toList) := by
        have := Hf.out
        rwa [bst_some (by omega)] at this
      have hk := sdOk_some Hset.out hf1
      rw [decide_eq_false h0] at hes
      by_cases h60 : x.size ≤ 60
      · rw [decide_eq_true h60] at hk
        have Hyes := Lib.hid (And.intro (hsk.out.symm.trans hk) (hso.out.symm.trans (sdOf_some Hset.out hf1 h60)))
        have h60' : ¬ (60 : Int) < (x.size : Int) := by omega
        clear hk h0 h60 hf1
        go_wp2
        go_ret2
        exact ⟨by rw [Hyes.out.1, Hyes.out.2]; rfl, HB.out⟩
      · rw [decide_eq_false h60] at hk
        have Hno := Lib.hid (And.intro (hsk.out.symm.trans hk) (hso.out.symm.trans (sdOf_no hk)))
        have h60' : (60 : Int) < (x.size : Int) := by omega
        clear hk h0 h60 hf1
        go_wp2
        go_ret2
        exact ⟨by rw [Hno.out.1, Hno.out.2]; rfl, HB.out⟩

/-- the two rows of a slice of slices -/
theorem rows_two {w : World} {base E e c : Nat} {A : Option Addr} {xs ys : List Value} (h : OwnSS w base E e (.slice A 2 c) [xs, ys]) :
    ∃ g A1 c1 A2 c2, A = some ⟨g, 0, none⟩ ∧ w.cell? ⟨g, 0, none⟩ = some (.slice A1 xs.length c1) ∧ w.cell? ⟨g, 1, none⟩ = some (.slice A2 ys.length c2) ∧ w.ownsRow base e 1 (.slice A1 xs.length c1) xs.length xs ∧ w.ownsRow base e 1 (.slice A2 ys.length c2) ys.length ys ∧
      ((Value.slice A1 xs.length c1).ownBlock = none ∨ (Value.slice A1 xs.length c1).ownBlock ≠ (Value.slice A2 ys.length c2).ownBlock) := by
  obtain ⟨vs, h⟩ := h
  obtain ⟨g, rfl, _, _⟩ := own_form h.own (by simp)
  obtain ⟨A1, c1, h1, h2⟩ := h.inner 0 xs rfl
  obtain ⟨A2, c2, h3, h4⟩ := h.inner 1 ys rfl
  exact ⟨g, A1, c1, A2, c2, rfl, by rw [h.own.cellAt 0 (by simp)]; exact h1, by rw [h.own.cellAt 1 (by simp)]; exact h3, h2, h4, h.sep 0 1 _ _ (by omega) h1 h3⟩
set_option maxHeartbeats 1600000 in
theorem spec_TwoReadings (A : Option Addr) (ss : List ByteArray) (c : Nat) (w : World) (h : Row w w.heap.size A (strs ss)) (hl : ss.length ≤ 9223372036854775807) (hs : ∀ s ∈ ss, s.size ≤ 9223372036854775807) :
    Calls Tryd.prog 24 #[.slice A ss.length c] w (OkTwo w (trOf ss 0) (trOf ss 1) (sdOk ss)) := by
  have hc := spec_ShortestDouble A ss c w h hl hs
  cases hq : sdOk ss
  · rw [trOf_no hq, trOf_no hq]
    rw [hq] at hc
    generalize sdOf ss = so at hc
    replace hc := Lib.hid hc
    clear h hs hq
    go_enter Tryd.func24, Tryd.ntmps24
    go_wp2_with fail
    refine hc.out.mono ?_
    rintro e w1 ⟨rfl, hB⟩
    have HB := Lib.hid hB
    clear hB
    go_wp2
    go_ret3
    exact okTwo_nil _ _ _ HB.out
  · obtain ⟨hset, hf, h60⟩ := sdOk_word hq
    have htk := tr_take hq
    rw [hq] at hc
    generalize sdOf ss = so at hc h60 htk
    have hrd := fun W hr => spec_dcReadings A ss c hset so.size so 2 W rfl hr h60 (by omega) (by omega)
    rw [htk] at hrd
    generalize trOf ss 0 = x0 at hrd ⊢
    generalize trOf ss 1 = x1 at hrd ⊢
    replace hc := Lib.hid hc
    replace h := Lib.hid h
    replace hrd := Lib.hid hrd
    clear hs hq hset hf htk
    go_enter Tryd.func24, Tryd.ntmps24
    go_wp2_with fail
    refine hc.out.mono ?_
    rintro e w1 ⟨rfl, hB⟩
    have HB := Lib.hid hB
    clear hB
    go_wp2_with fail
    refine (hrd.out w1 ((h.out.below HB.out).more HB.out.size)).mono ?_
    rintro e w2 ⟨A2, c2, rfl, ho, hB2⟩
    obtain ⟨g, A3, c3, A4, c4, rfl, hcell, hcell2, hrow, hrow2, hsep⟩ := rows_two ho
    rw [ints_length] at hcell hcell2 hrow hrow2 hsep
    rw [ints_length] at hsep
    have HF := Lib.hid (And.intro (own_base hrow HB.out.size) (And.intro (own_base hrow2 HB.out.size) (And.intro hsep (HB.out.trans (hB2.mono HB.out.size)))))
    have hl1 : (intss [x0, x1]).length = 2 := rfl
    rw [hl1]
    clear ho hB2 hrow hrow2 hsep hl1
    have hcd : w2.drew.cell? ⟨g, 0, none⟩ = some (.slice A3 x0.length c3) := hcell
    have hcd2 : w2.drew.cell? ⟨g, 1, none⟩ = some (.slice A4 x1.length c4) := hcell2
    go_wp2_with fail
    go_region
    all_goals
      go_wp2
      go_ret3
      exact ⟨_, _, _, _, rfl, HF.out.1, HF.out.2.1, HF.out.2.2.1, HF.out.2.2.2.drew⟩

end Go.Proofs.YtiemoocdffobgaaDoor
