/-
  WHAT THIS FILE PROVES: the lengths of a set's words: the specification's and the program's functions hand back slices of their own with the same numbers; asked: a row that lies in memory, lengths that an int holds.
-/
import Derived.Test.YtdcobmgamlhglaaDoorIsSet
import Derived.Test.YtdcobmgamlhglaaDoorMemI
import Derived.OwnWalk
namespace Go.Proofs.YtdcobmgamlhglaaDoor
open Go.RowKit Go.Shelf

theorem set_sizes (ss : List ByteArray) (h : W.isSet ss = true) (k : Nat) (hk : k < ss.length) : 1 ≤ (W.nth ss k).size ∧ (W.nth ss k).size ≤ 8 := W.short_size _ (W.isSet_short ss h k hk)

set_option maxHeartbeats 1600000 in
theorem spec_LengthsOf (A : Option Addr) (ss : List ByteArray) (c : Nat) (w : World) (h : Row w w.heap.size A (strs ss)) (hl : ss.length ≤ 9223372036854775807) (hs : ∀ s ∈ ss, s.size ≤ 9223372036854775807) :
    Calls Tryd.prog 14 #[.slice A ss.length c] w (OkInts w (W.lensOf ss) (W.isSet ss)) := by
  have hc := spec_wdSet A ss c w h hl hs
  cases hq : W.isSet ss
  · have hr : W.lensOf ss = [] := by unfold W.lensOf; rw [hq]; rfl
    rw [hr]
    rw [hq] at hc
    replace hc := Lib.hid hc
    clear hr hq h hs
    go_enter Tryd.func14, Tryd.ntmps14
    go_wp2_with (go_at_call 29; refine hc.out.mono ?_; rintro e w' ⟨rfl, rfl⟩)
    go_ret2
    exact okInts_nil _ _ _ (Below.refl _ _)
  · have hr : W.lensOf ss = W.lens ss := by unfold W.lensOf; rw [hq]; rfl
    have h12 := W.isSet_len ss hq
    obtain ⟨i0, hi, hz0, hz1, hz2⟩ := info_parts infoInt
    have HR := Lib.hid (And.intro hr (And.intro hi (And.intro hz0 (And.intro hz1 hz2))))
    have Hz := Lib.hid (set_sizes ss hq)
    rw [hq] at hc
    replace hc := Lib.hid hc
    replace h := Lib.hid h
    clear hr hi hz0 hz1 hz2 hq hs
    go_enter Tryd.func14, Tryd.ntmps14
    go_wp2_with (go_at_call 29; refine hc.out.mono ?_; rintro e w' ⟨rfl, rfl⟩)
    go_loopw [4, 12] (fun v i wr => ∃ k : Nat, k ≤ ss.length ∧ i = .int .i64 k ∧ wr.ownsRow w.heap.size 3 1 v k (ints (W.lens (ss.take k))) ∧ Below w.heap.size w wr)
      (fun _ i _ => ss.length - (intOf i).toNat)
    case atStart => exact ⟨0, Nat.zero_le _, rfl, World.ownsRow_nil _ _ _ _, Below.refl _ _⟩
    case round =>
      obtain ⟨k, hk, rfl, ho, hB⟩ := hrel
      have hO := Lib.hid (And.intro ho hB)
      clear ho hB
      by_cases hlt : k < ss.length
      · obtain ⟨b, off, rfl, hb, hcc⟩ := h.out (by rw [strs_length]; omega)
        have hlt' : (k : Int) < (ss.length : Int) := by omega
        have c1 := (hO.out.2.cell (p := ⟨b, off + k, none⟩) hb).trans (hcc k _ (strs_nth ss k hlt))
        clear hcc
        have hx := (Hz.out k hlt).2
        have Hs := Lib.hid (W.lens_succ ss k hlt)
        generalize W.nth ss k = x at c1 hx Hs
        go_wp2_with (at_builtin; refine wpList_append_own _ rfl _ _ 27 rfl w.heap.size 3 i0 (.int .i64 0) 1 8 Tryd.underlying27 HR.out.2.1 HR.out.2.2.1 HR.out.2.2.2.1 HR.out.2.2.2.2 rfl (by decide) _ _ _ rfl (hO.out.1.alloc _) ⟨wr.heap.size, 0, none⟩ 1 1 [.int .i64 x.size] rfl rfl ?c1 ?c2 ?c3 ?c4 ?c5 ?_)
        case c1 => exact cell_one_new _ _ _
        case c2 => exact one_cell _
        case c3 => unfold maxLen; omega
        case c4 => omega
        case c5 => have := hO.out.2.size; simp; omega
        intro v' w1 hown' hgrow _
        have hO2 := Lib.hid (And.intro hown' hgrow)
        clear hown' hgrow
        go_wp2
        go_roundw
        case rel =>
          refine ⟨k + 1, by omega, by go_num, ?_, ?_⟩
          · rw [Hs.out, ints_snoc]
            exact hO2.out.1
          · have hlt := hO.out.1.lt
            exact (hO.out.2.alloc hO.out.2.size _).grown hO2.out.2 (by have := hO.out.2.size; simp; omega) (fun g hg => (hlt g hg).1)
        case measure => simp [intOf]; omega
      · obtain rfl : k = ss.length := by omega
        go_wp2
        go_ret2
        rw [HR.out.1]
        have hfin := hO.out.1
        rw [List.take_length] at hfin
        have hL : (W.lens ss).length = ss.length := by simp [W.lens]
        exact okInts_of (by rw [hL]; exact hfin) rfl hO.out.2

theorem impl_length (s : ByteArray) (w : World) (_hs : s.size ≤ 9223372036854775807) :
    Calls Tryd.prog 34 #[.string s] w fun e w' => e = .returned (.int .i64 s.size) ∧ w = w' := by
  go_enter Tryd.func34, Tryd.ntmps34
  go_wp2
  go_ret
  exact ⟨rfl, rfl⟩

set_option maxHeartbeats 1600000 in
theorem listOf_length (A : Option Addr) (ss : List ByteArray) (c : Nat) (w : World) (h : Row w w.heap.size A (strs ss)) (hl : ss.length ≤ 1048576) (hs : ∀ s ∈ ss, s.size ≤ 9223372036854775807) :
    Calls Tryd.prog 33 #[.slice A ss.length c, .func (.func 34) #[] #[]] w (GivesInts w (W.lens ss)) := by
  obtain ⟨i0, hi, hz0, hz1, hz2⟩ := info_parts infoInt
  have HR := Lib.hid (And.intro hi (And.intro hz0 (And.intro hz1 hz2)))
  clear hi hz0 hz1 hz2
  replace h := Lib.hid h
  replace hs := Lib.hid hs
  go_enter Tryd.func33, Tryd.ntmps33
  go_wp2_with (at_make; refine wpList_make_own _ rfl _ _ 27 rfl w.heap.size 3 i0 (.int .i64 0) 1 Tryd.underlying27 HR.out.1 HR.out.2.1 HR.out.2.2.1 _ _ _ ss.length rfl rfl rfl ?b1 ?b2 ?b3 ?_)
  case b1 => rw [HR.out.2.2.2]; omega
  case b2 => unfold maxLen; omega
  case b3 => exact Nat.le_refl _
  intro w1 hown1 hgrow1
  have hB1 : Below w.heap.size w w1 := (Below.refl _ w).grown hgrow1 (Nat.le_refl _) (fun g hg => by cases hg)
  replace hown1 := Lib.hid (And.intro hown1 hB1)
  clear hgrow1 hB1
  go_wp2
  go_loopw [5, 13] (fun v i wr => ∃ k : Nat, k ≤ ss.length ∧ i = .int .i64 k ∧ wr.ownsRow w.heap.size 3 1 v k (ints (W.lens (ss.take k))) ∧ Below w.heap.size w wr)
    (fun _ i _ => ss.length - (intOf i).toNat)
  case atStart => exact ⟨0, Nat.zero_le _, rfl, hown1.out.1, hown1.out.2⟩
  case round =>
    obtain ⟨k, hk, rfl, ho, hB⟩ := hrel
    have hO := Lib.hid (And.intro ho hB)
    clear ho hB
    by_cases hlt : k < ss.length
    · obtain ⟨b, off, rfl, hb, hcc⟩ := h.out (by rw [strs_length]; omega)
      have hlt' : (k : Int) < (ss.length : Int) := by omega
      have c1 := (hO.out.2.cell (p := ⟨b, off + k, none⟩) hb).trans (hcc k _ (strs_nth ss k hlt))
      clear hcc
      have hx : (W.nth ss k).size ≤ 9223372036854775807 := by rw [W.nth_lt ss k hlt]; exact hs.out _ (List.getElem_mem hlt)
      have Hs := Lib.hid (W.lens_succ ss k hlt)
      generalize W.nth ss k = x at c1 hx Hs
      go_wp2_with (first | (go_at_call 34; refine (impl_length x _ hx).mono ?_; rintro e w' ⟨rfl, rfl⟩) | (at_builtin; refine wpList_append_own _ rfl _ _ 27 rfl w.heap.size 3 i0 (.int .i64 0) 1 8 Tryd.underlying27 HR.out.1 HR.out.2.1 HR.out.2.2.1 HR.out.2.2.2 rfl (by decide) _ _ _ rfl (hO.out.1.alloc _) ⟨wr.heap.size, 0, none⟩ 1 1 [.int .i64 x.size] rfl rfl ?c1 ?c2 ?c3 ?c4 ?c5 ?_))
      case c1 => exact cell_one_new _ _ _
      case c2 => exact one_cell _
      case c3 => unfold maxLen; omega
      case c4 => omega
      case c5 => have := hO.out.2.size; simp; omega
      intro v' w1 hown' hgrow _
      have hO2 := Lib.hid (And.intro hown' hgrow)
      clear hown' hgrow
      go_wp2
      go_roundw
      case rel =>
        refine ⟨k + 1, by omega, by go_num, ?_, ?_⟩
        · rw [Hs.out, ints_snoc]
          exact hO2.out.1
        · have hlt := hO.out.1.lt
          exact (hO.out.2.alloc hO.out.2.size _).grown hO2.out.2 (by have := hO.out.2.size; simp; omega) (fun g hg => (hlt g hg).1)
      case measure => simp [intOf]; omega
    · obtain rfl : k = ss.length := by omega
      go_wp2
      go_ret
      have hfin := hO.out.1
      rw [List.take_length] at hfin
      have hL : (W.lens ss).length = ss.length := by simp [W.lens]
      exact givesInts_of (by rw [hL]; exact hfin) rfl hO.out.2

set_option maxHeartbeats 800000 in
theorem impl_LengthsOf (A : Option Addr) (ss : List ByteArray) (c : Nat) (w : World) (h : Row w w.heap.size A (strs ss)) (hl : ss.length ≤ 9223372036854775807) (hs : ∀ s ∈ ss, s.size ≤ 9223372036854775807) :
    Calls Tryd.prog 15 #[.slice A ss.length c] w (OkInts w (W.lensOf ss) (W.isSet ss)) := by
  have hc := impl_IsSet A ss c w h hl hs
  cases hq : W.isSet ss
  · have hr : W.lensOf ss = [] := by unfold W.lensOf; rw [hq]; rfl
    rw [hr]
    rw [hq] at hc
    replace hc := Lib.hid hc
    clear hr hq h hs
    go_enter Tryd.func15, Tryd.ntmps15
    go_wp2_with (go_at_call 12; refine hc.out.mono ?_; rintro e w1 ⟨rfl, hB⟩)
    go_ret2
    exact okInts_nil _ _ _ hB
  · have hr : W.lensOf ss = W.lens ss := by unfold W.lensOf; rw [hq]; rfl
    have h12 := W.isSet_len ss hq
    have HR := Lib.hid hr
    have hc2 := fun W1 (g : Row W1 W1.heap.size A (strs ss)) => listOf_length A ss c W1 g (by omega) hs
    rw [hq] at hc
    replace hc := Lib.hid hc
    replace hc2 := Lib.hid hc2
    replace h := Lib.hid h
    clear hr hq hs
    go_enter Tryd.func15, Tryd.ntmps15
    go_wp2_with fail
    refine hc.out.mono ?_
    rintro e w1 ⟨rfl, hB⟩
    replace hB := Lib.hid hB
    go_wp2_with fail
    refine (hc2.out w1 ((h.out.below hB.out).more hB.out.size)).mono ?_
    rintro e w2 ⟨A2, k2, rfl, ho2, hB2⟩
    have hO := Lib.hid (And.intro ho2 hB2)
    clear ho2 hB2
    go_wp2
    go_ret2
    rw [HR.out]
    exact ⟨A2, k2, rfl, own_base hO.out.1 hB.out.size, hB.out.trans (hO.out.2.mono hB.out.size)⟩

end Go.Proofs.YtdcobmgamlhglaaDoor
