/-
  WHAT THIS FILE PROVES: the texts of sets, and words that are put one behind the other: the specification's and the program's functions give the same; asked: a row that lies in memory, lengths that an int holds.
-/
import Derived.Test.YtdcobmgamlhglaaDoorIsSet
import Derived.Test.YtdcobmgamlhglaaDoorTexts
namespace Go.Proofs.YtdcobmgamlhglaaDoor
open Go.RowKit Go.Shelf

theorem set_sizes8 (ss : List ByteArray) (h : W.isSet ss = true) (k : Nat) (hk : k < ss.length) : 1 ≤ (W.nth ss k).size ∧ (W.nth ss k).size ≤ 8 := W.short_size _ (W.isSet_short ss h k hk)
theorem isEmpty_size (x : ByteArray) : x.toList.isEmpty = decide (x.size = 0) := by
  rw [Lib.toList_data, Lib.size_eq]
  cases x.data.toList <;> simp
theorem row_cells {w : World} {B b off : Nat} {ss : List ByteArray} (h : Row w B (some ⟨b, off, none⟩) (strs ss)) : ∀ (j : Nat) x, ss[j]? = some x → w.cell? ⟨b, off + j, none⟩ = some (.string x) := fun j x hx => by
  have hj : j < ss.length := (List.getElem?_eq_some_iff.1 hx).1
  obtain ⟨b', off', e, _, hc⟩ := h (by rw [strs_length]; omega)
  injection e with e
  injection e with e1 e2
  subst e1
  subst e2
  refine hc j _ ?_
  unfold strs
  rw [List.getElem?_map, hx]
  rfl

/-- strings.Join, whatever the list. -/
theorem join_any (A : Option Addr) (ss : List ByteArray) (c : Nat) (sep : ByteArray) (w : World) (h : Row w w.heap.size A (strs ss)) (hcap : ss.length ≤ c) (hN : ss.length ≤ 1048576)
    (hlen : (Lib.join (W.bytes ss) sep.data.toList).length ≤ 1048576) :
    Calls Tryd.prog 39 #[.slice A ss.length c, .string sep] w fun e w' => e = .returned (.string ⟨(Lib.join (W.bytes ss) sep.data.toList).toArray⟩) ∧ Below w.heap.size w w' := by
  by_cases h0 : ss.length = 0
  · have hn : ss = [] := List.eq_nil_of_length_eq_zero h0
    subst hn
    refine (Tryd.strings_Join_none A c sep w).mono fun e w' ⟨he, hw⟩ => ⟨he, by rw [hw]; exact Below.refl _ _⟩
  · obtain ⟨b, off, rfl, hb, _⟩ := h (by rw [strs_length]; omega)
    exact Tryd.strings_Join b off c ss sep w (row_cells h) hb (by omega) hcap (by show (Lib.join (W.bytes ss) sep.data.toList).length ≤ _; omega)

set_option maxHeartbeats 1600000 in
theorem spec_wdText (A : Option Addr) (ss : List ByteArray) (c : Nat) (w : World) (h : Row w w.heap.size A (strs ss)) (hq : W.isSet ss = true) :
    Calls Tryd.prog 38 #[.slice A ss.length c] w fun e w' => e = .returned (.string (W.textOf ss)) ∧ w = w' := by
  have h12 := W.isSet_len ss hq
  have Hz := Lib.hid (set_sizes8 ss hq)
  have Ht := Lib.hid (W.tx_size ss 8)
  replace h := Lib.hid h
  clear hq
  go_enter Tryd.func38, Tryd.ntmps38
  go_wp2
  go_loop [3, 8] (fun o i => ∃ k : Nat, k ≤ ss.length ∧ i = .int .i64 k ∧ o = .string (W.tx ss k)) (fun _ i => ss.length - (intOf i).toNat)
  case atStart => exact ⟨0, Nat.zero_le _, rfl, rfl⟩
  case round =>
    obtain ⟨k, hk, rfl, rfl⟩ := hrel
    by_cases hlt : k < ss.length
    · obtain ⟨b, off, rfl, hb, hcc⟩ := h.out (by rw [strs_length]; omega)
      have hlt' : (k : Int) < (ss.length : Int) := by omega
      have hx := (Hz.out k hlt).2
      have hsz : (W.tx ss k).size ≤ 108 := by have := Ht.out k (fun i hi => (Hz.out i (by omega)).2); omega
      by_cases hk0 : k = 0
      · subst hk0
        have c1 : w.cell? ⟨b, off, none⟩ = some (.string (W.nth ss 0)) := hcc 0 _ (strs_nth ss 0 hlt)
        have Hs : Hid (W.tx ss 1 = W.tx ss 0 ++ W.nth ss 0) := rfl
        clear hcc
        generalize W.nth ss 0 = x at c1 hx Hs
        generalize hy : W.tx ss 0 = y at hsz Hs
        replace hy := Lib.hid hy
        go_wp2
        go_round
        case rel => exact ⟨1, by omega, by go_num, by rw [Hs.out]⟩
        case measure => simp [intOf]; omega
      · have c1 := hcc k _ (strs_nth ss k hlt)
        have hkp : (0 : Int) < (k : Int) := by omega
        have Hs : Hid (W.tx ss (k + 1) = W.tx ss k ++ ⟨#[44]⟩ ++ W.nth ss k) := by
          show W.tx ss (k + 1) = _
          show (if k = 0 then W.tx ss k else W.tx ss k ++ ⟨#[44]⟩) ++ W.nth ss k = _
          rw [if_neg hk0]
        clear hcc hk0
        generalize W.nth ss k = x at c1 hx Hs
        generalize hy : W.tx ss k = y at hsz Hs
        replace hy := Lib.hid hy
        have hone : (⟨#[44]⟩ : ByteArray).size = 1 := rfl
        have hsz2 : (y ++ ⟨#[44]⟩).size ≤ 109 := by rw [ByteArray.size_append]; omega
        clear hone
        go_wp2
        go_round
        case rel => exact ⟨k + 1, by omega, by go_num, by rw [Hs.out]⟩
        case measure => simp [intOf]; omega
    · obtain rfl : k = ss.length := by omega
      by_cases h0 : ss.length = 0
      · have he : (W.tx ss ss.length).toList.isEmpty = true := by rw [isEmpty_size, h0]; rfl
        have hf : Hid (W.textOf ss = ⟨#[45]⟩) := if_pos h0
        clear h0
        go_wp2
        go_ret
        first | exact ⟨rfl, rfl⟩ | exact ⟨by rw [hf.out]; rfl, rfl⟩
      · have he : (W.tx ss ss.length).toList.isEmpty = false := by
          rw [isEmpty_size, decide_eq_false]
          have h1 := W.tx_pos ss (ss.length - 1) (Hz.out _ (by omega)).1
          rw [show ss.length - 1 + 1 = ss.length by omega] at h1
          omega
        have hf : Hid (W.textOf ss = W.tx ss ss.length) := if_neg h0
        clear h0
        go_wp2
        go_ret
        first | exact ⟨rfl, rfl⟩ | exact ⟨by rw [hf.out]; rfl, rfl⟩

set_option maxHeartbeats 800000 in
theorem spec_SetText (A : Option Addr) (ss : List ByteArray) (c : Nat) (w : World) (h : Row w w.heap.size A (strs ss)) (_hcap : ss.length ≤ c) (hl : ss.length ≤ 9223372036854775807) (hs : ∀ s ∈ ss, s.size ≤ 9223372036854775807) :
    Calls Tryd.prog 23 #[.slice A ss.length c] w (fun e w' => e = .returned (.tuple #[.string (W.setText ss), .bool (W.isSet ss)]) ∧ Below w.heap.size w w') := by
  have hc := spec_wdSet A ss c w h hl hs
  cases hq : W.isSet ss
  · have hr : W.setText ss = ⟨#[]⟩ := by unfold W.setText; rw [hq]; rfl
    rw [hr]
    rw [hq] at hc
    replace hc := Lib.hid hc
    clear hr hq h hs
    go_enter Tryd.func23, Tryd.ntmps23
    go_wp2_with (go_at_call 29; refine hc.out.mono ?_; rintro e w' ⟨rfl, rfl⟩)
    go_ret2
    exact ⟨rfl, Below.refl _ _⟩
  · have hr : W.setText ss = W.textOf ss := by unfold W.setText; rw [hq]; rfl
    have hc2 := spec_wdText A ss c w h hq
    rw [← hr] at hc2
    generalize W.setText ss = x at hc2 ⊢
    rw [hq] at hc
    replace hc := Lib.hid hc
    replace hc2 := Lib.hid hc2
    clear hr hq h hs
    go_enter Tryd.func23, Tryd.ntmps23
    go_wp2_with (first | (go_at_call 29; refine hc.out.mono ?_; rintro e w' ⟨rfl, rfl⟩) | (go_at_call 38; refine hc2.out.mono ?_; rintro e w' ⟨rfl, rfl⟩))
    go_ret2
    exact ⟨rfl, Below.refl _ _⟩

set_option maxHeartbeats 800000 in
theorem impl_SetText (A : Option Addr) (ss : List ByteArray) (c : Nat) (w : World) (h : Row w w.heap.size A (strs ss)) (hcap : ss.length ≤ c) (hl : ss.length ≤ 9223372036854775807) (hs : ∀ s ∈ ss, s.size ≤ 9223372036854775807) :
    Calls Tryd.prog 24 #[.slice A ss.length c] w (fun e w' => e = .returned (.tuple #[.string (W.setText ss), .bool (W.isSet ss)]) ∧ Below w.heap.size w w') := by
  have hc := impl_IsSet A ss c w h hl hs
  cases hq : W.isSet ss
  · have hr : W.setText ss = ⟨#[]⟩ := by unfold W.setText; rw [hq]; rfl
    rw [hr]
    rw [hq] at hc
    replace hc := Lib.hid hc
    clear hr hq h hs
    go_enter Tryd.func24, Tryd.ntmps24
    go_wp2_with (go_at_call 12; refine hc.out.mono ?_; rintro e w1 ⟨rfl, hB⟩)
    go_ret2
    exact ⟨rfl, hB⟩
  · have h12 := W.isSet_len ss hq
    rw [hq] at hc
    replace hc := Lib.hid hc
    by_cases h0 : ss.length = 0
    · have hr : W.setText ss = ⟨#[45]⟩ := by unfold W.setText W.textOf; rw [hq, if_pos rfl, if_pos h0]
      rw [hr]
      have h0' : ((ss.length : Int) == 0) = true := beq_iff_eq.2 (by omega)
      clear hr hq h hs h0
      go_enter Tryd.func24, Tryd.ntmps24
      go_wp2_with (go_at_call 12; refine hc.out.mono ?_; rintro e w1 ⟨rfl, hB⟩)
      go_ret2
      exact ⟨rfl, hB⟩
    · have hr : W.setText ss = W.tx ss ss.length := by unfold W.setText W.textOf; rw [hq, if_pos rfl, if_neg h0]
      have hj := W.tx_join ss ss.length (Nat.le_refl _)
      rw [List.take_length] at hj
      have hlen : (Lib.join (W.bytes ss) [44]).length ≤ 1048576 := by
        rw [← hj]
        have h1 := W.tx_size ss 8 ss.length (fun i hi => (set_sizes8 ss hq i hi).2)
        rw [← Lib.size_eq]
        omega
      have hc2 := fun W1 (g : Row W1 W1.heap.size A (strs ss)) => join_any A ss c ⟨#[44]⟩ W1 g hcap (by omega) hlen
      have hv : (⟨(Lib.join (W.bytes ss) (⟨#[44]⟩ : ByteArray).data.toList).toArray⟩ : ByteArray) = W.setText ss := by rw [hr]; exact W.mk_of _ _ hj
      rw [hv] at hc2
      generalize W.setText ss = x at hc2 ⊢
      have h0' : ((ss.length : Int) == 0) = false := beq_eq_false_iff_ne.2 (by omega)
      replace hc2 := Lib.hid hc2
      replace h := Lib.hid h
      clear hr hq hs h0 hj hv
      go_enter Tryd.func24, Tryd.ntmps24
      go_wp2_with fail
      refine hc.out.mono ?_
      rintro e w1 ⟨rfl, hB⟩
      replace hB := Lib.hid hB
      go_wp2_with fail
      refine (hc2.out w1 ((h.out.below hB.out).more hB.out.size)).mono ?_
      rintro e w2 ⟨rfl, hB2⟩
      go_wp2
      go_ret2
      exact ⟨rfl, hB.out.trans (hB2.mono hB.out.size)⟩

theorem okCat_no1 (ss : List ByteArray) (k : Nat) (h : k ≤ ss.length) (hf : W.allTo W.goodB ss k = false) : W.okCat ss = false := by
  unfold W.okCat
  rw [W.allTo_no W.goodB ss k _ h hf]
  simp
theorem okCat_no2 (ss : List ByteArray) (k : Nat) (h : k ≤ ss.length) (hf : 60 < (W.cat ss k).size) : W.okCat ss = false := by
  have := W.cat_mono ss k ss.length h
  unfold W.okCat
  rw [decide_eq_false (p := (W.cat ss ss.length).size ≤ 60) (by omega)]
  simp
theorem catOf_no (ss : List ByteArray) (h : W.okCat ss = false) : W.catOf ss = ⟨#[]⟩ := by unfold W.catOf; rw [h]; rfl

set_option maxHeartbeats 1600000 in
theorem spec_Concat (A : Option Addr) (ss : List ByteArray) (c : Nat) (w : World) (h : Row w w.heap.size A (strs ss)) (_hcap : ss.length ≤ c) (hl : ss.length ≤ 9223372036854775807) (hs : ∀ s ∈ ss, s.size ≤ 9223372036854775807) :
    Calls Tryd.prog 25 #[.slice A ss.length c] w (fun e w' => e = .returned (.tuple #[.string (W.catOf ss), .bool (W.okCat ss)]) ∧ Below w.heap.size w w') := by
  by_cases h60 : ss.length ≤ 60
  · replace h := Lib.hid h
    replace hs := Lib.hid hs
    go_enter Tryd.func25, Tryd.ntmps25
    go_wp2
    go_loop [4, 12] (fun o i => ∃ k : Nat, k ≤ ss.length ∧ i = .int .i64 k ∧ o = .string (W.cat ss k) ∧ (W.cat ss k).size ≤ 60 ∧ Hid (W.allTo W.goodB ss k = true)) (fun _ i => ss.length - (intOf i).toNat)
    case atStart => exact ⟨0, Nat.zero_le _, rfl, rfl, by show (0 : Nat) ≤ 60; omega, rfl⟩
    case round =>
      obtain ⟨k, hk, rfl, rfl, hsz, hok⟩ := hrel
      by_cases hlt : k < ss.length
      · obtain ⟨b, off, rfl, hb, hcc⟩ := h.out (by rw [strs_length]; omega)
        have hlt' : (k : Int) < (ss.length : Int) := by omega
        have c1 := hcc k _ (strs_nth ss k hlt)
        clear hcc
        have hz : (W.nth ss k).size ≤ 9223372036854775807 := by rw [W.nth_lt ss k hlt]; exact hs.out _ (List.getElem_mem hlt)
        have hc1 : ∀ W', Calls Tryd.prog 40 #[.string (W.nth ss k)] W' fun e w' => e = .returned (.bool (W.goodB (W.nth ss k))) ∧ W' = w' := fun W' => spec_wdGood (W.nth ss k) W' hz
        have Hs := Lib.hid (W.allTo_succ W.goodB ss k)
        have Hc : Hid (W.cat ss (k + 1) = W.cat ss k ++ W.nth ss k) := rfl
        cases hq : W.goodB (W.nth ss k)
        · have hno : Hid (W.okCat ss = false) := okCat_no1 ss (k + 1) hlt (by rw [Hs.out, hq]; simp)
          have hno2 : Hid (W.catOf ss = ⟨#[]⟩) := catOf_no ss hno.out
          rw [hq] at hc1
          replace hc1 := Lib.hid hc1
          clear hq
          go_wp2_with (go_at_call 40; refine (hc1.out _).mono ?_; rintro e w' ⟨rfl, rfl⟩)
          go_ret2
          exact ⟨by rw [hno.out, hno2.out]; rfl, Below.refl _ _⟩
        · have hx60 : (W.nth ss k).size ≤ 60 := by
            have := hq
            unfold W.goodB W.good at this
            simp only [Bool.and_eq_true, decide_eq_true_eq] at this
            have h2 := this.1
            rwa [← Lib.size_eq] at h2
          rw [hq] at hc1
          have hok1 : Hid (W.allTo W.goodB ss (k + 1) = true) := by
            show W.allTo W.goodB ss (k + 1) = true
            rw [Hs.out, hok.out, hq]
            rfl
          replace hc1 := Lib.hid hc1
          clear hq
          by_cases hbig : 60 < (W.cat ss k).size + (W.nth ss k).size
          · have hno : Hid (W.okCat ss = false) := okCat_no2 ss (k + 1) hlt (by rw [Hc.out, ByteArray.size_append]; omega)
            have hno2 : Hid (W.catOf ss = ⟨#[]⟩) := catOf_no ss hno.out
            go_wp2_with (go_at_call 40; refine (hc1.out _).mono ?_; rintro e w' ⟨rfl, rfl⟩)
            go_ret2
            exact ⟨by rw [hno.out, hno2.out]; rfl, Below.refl _ _⟩
          · have hbig' : (W.cat ss k).size + (W.nth ss k).size ≤ 60 := by omega
            clear hbig
            go_wp2_with (go_at_call 40; refine (hc1.out _).mono ?_; rintro e w' ⟨rfl, rfl⟩)
            go_round
            case rel => exact ⟨k + 1, by omega, by go_num, by rw [Hc.out], by rw [Hc.out, ByteArray.size_append]; omega, hok1⟩
            case measure => simp [intOf]; omega
      · obtain rfl : k = ss.length := by omega
        have hyes : Hid (W.okCat ss = true) := by
          show W.okCat ss = true
          unfold W.okCat
          rw [decide_eq_true h60, hok.out, decide_eq_true hsz]
          rfl
        have hv : Hid (W.catOf ss = W.cat ss ss.length) := by
          show W.catOf ss = _
          unfold W.catOf
          rw [hyes.out]
          rfl
        go_wp2
        go_ret2
        exact ⟨by rw [hyes.out, hv.out]; rfl, Below.refl _ _⟩
  · have hno : W.okCat ss = false := by unfold W.okCat; rw [decide_eq_false h60]; rfl
    rw [catOf_no ss hno, hno]
    clear hno h hs
    go_enter Tryd.func25, Tryd.ntmps25
    go_wp2
    go_ret2
    exact ⟨rfl, Below.refl _ _⟩

set_option maxHeartbeats 1600000 in
theorem impl_Concat (A : Option Addr) (ss : List ByteArray) (c : Nat) (w : World) (h : Row w w.heap.size A (strs ss)) (hcap : ss.length ≤ c) (hl : ss.length ≤ 9223372036854775807) (hs : ∀ s ∈ ss, s.size ≤ 9223372036854775807) :
    Calls Tryd.prog 26 #[.slice A ss.length c] w (fun e w' => e = .returned (.tuple #[.string (W.catOf ss), .bool (W.okCat ss)]) ∧ Below w.heap.size w w') := by
  by_cases h60 : ss.length ≤ 60
  · have hc1 := areAll_isWord A ss c w h hl hs
    cases hq : W.allTo W.goodB ss ss.length
    · have hno : W.okCat ss = false := okCat_no1 ss ss.length (Nat.le_refl _) hq
      rw [catOf_no ss hno, hno]
      rw [hq] at hc1
      replace hc1 := Lib.hid hc1
      clear hno h hs hq
      go_enter Tryd.func26, Tryd.ntmps26
      go_wp2_with (go_at_call 30; refine hc1.out.mono ?_; rintro e w1 ⟨rfl, hB⟩)
      go_ret2
      exact ⟨rfl, hB⟩
    · have hj := W.cat_join ss ss.length (Nat.le_refl _)
      rw [List.take_length] at hj
      have hsz := W.cat_size ss 60 ss.length (fun i hi => W.all_good ss ss.length hq i hi)
      have hlen : (Lib.join (W.bytes ss) []).length ≤ 1048576 := by
        rw [← hj, ← Lib.size_eq]
        omega
      have hc2 := fun W1 (g : Row W1 W1.heap.size A (strs ss)) => join_any A ss c ⟨#[]⟩ W1 g hcap (by omega) hlen
      have hv : (⟨(Lib.join (W.bytes ss) (⟨#[]⟩ : ByteArray).data.toList).toArray⟩ : ByteArray) = W.cat ss ss.length := W.mk_of _ _ hj
      rw [hv] at hc2
      have hwd := W.cat_wd ss ss.length hq
      have hg : W.good (W.cat ss ss.length).data.toList = W.okCat ss := by
        unfold W.okCat W.good
        rw [decide_eq_true h60, hq, hwd, ← Lib.size_eq]
        simp
      have hv2 : W.okCat ss = true → W.catOf ss = W.cat ss ss.length := fun h => by unfold W.catOf; rw [h]; rfl
      have hno2 := catOf_no ss
      have hc3 := fun W1 => impl_IsWord (W.cat ss ss.length) W1 (by omega)
      rw [hg] at hc3
      rw [hq] at hc1
      generalize W.cat ss ss.length = x at hc2 hc3 hv2
      generalize W.catOf ss = y at hv2 hno2 ⊢
      generalize W.okCat ss = ok at hv2 hno2 hc3 ⊢
      replace h := Lib.hid h
      replace hc1 := Lib.hid hc1
      replace hc2 := Lib.hid hc2
      clear hs hq hj hlen hv hwd hg hsz
      cases ok
      · have hy := hno2 rfl
        subst hy
        replace hc3 := Lib.hid hc3
        clear hv2 hno2
        go_enter Tryd.func26, Tryd.ntmps26
        go_wp2_with fail
        refine hc1.out.mono ?_
        rintro e w1 ⟨rfl, hB⟩
        replace hB := Lib.hid hB
        go_wp2_with fail
        refine (hc2.out w1 ((h.out.below hB.out).more hB.out.size)).mono ?_
        rintro e w2 ⟨rfl, hB2⟩
        replace hB2 := Lib.hid hB2
        go_wp2_with fail
        refine (hc3.out w2).mono ?_
        rintro e w3 ⟨rfl, hB3⟩
        go_wp2
        go_ret2
        exact ⟨rfl, hB.out.trans ((hB2.out.mono hB.out.size).trans (hB3.mono (Nat.le_trans hB.out.size hB2.out.size)))⟩
      · have hy := hv2 rfl
        subst hy
        replace hc3 := Lib.hid hc3
        clear hv2 hno2
        go_enter Tryd.func26, Tryd.ntmps26
        go_wp2_with fail
        refine hc1.out.mono ?_
        rintro e w1 ⟨rfl, hB⟩
        replace hB := Lib.hid hB
        go_wp2_with fail
        refine (hc2.out w1 ((h.out.below hB.out).more hB.out.size)).mono ?_
        rintro e w2 ⟨rfl, hB2⟩
        replace hB2 := Lib.hid hB2
        go_wp2_with fail
        refine (hc3.out w2).mono ?_
        rintro e w3 ⟨rfl, hB3⟩
        go_wp2
        go_ret2
        exact ⟨rfl, hB.out.trans ((hB2.out.mono hB.out.size).trans (hB3.mono (Nat.le_trans hB.out.size hB2.out.size)))⟩
  · have hno : W.okCat ss = false := by unfold W.okCat; rw [decide_eq_false h60]; rfl
    rw [catOf_no ss hno, hno]
    clear hno h hs
    go_enter Tryd.func26, Tryd.ntmps26
    go_wp2
    go_ret2
    exact ⟨rfl, Below.refl _ _⟩

end Go.Proofs.YtdcobmgamlhglaaDoor
