/-
  WHAT THIS FILE PROVES: the texts of sets, and words that are put one behind the other: the specification's and the program's functions give the same; asked: a row that lies in memory, lengths that an int holds.
-/
import Derived.Test.YtaeligamgpikkaaDoorIsSet
import Derived.Test.YtaeligamgpikkaaDoorTexts
namespace Go.Proofs.YtaeligamgpikkaaDoor
open Go.RowKit Go.Shelf

theorem set_sizes8 (ss : List ByteArray) (h : W.isSet ss = true) (k : Nat) (hk : k < ss.length) : 1 ≤ (W.nth ss k).size ∧ (W.nth ss k).size ≤ 8 := W.short_size _ (W.isSet_short ss h k hk)
theorem isEmpty_size (x : ByteArray) : x.toList.isEmpty = decide (x.size = 0) := by
  rw [Lib.toList_data, Lib.size_eq]
  cases x.data.toList <;> simp
theorem row_cells {w : World} {B b off : Nat} {ss : List ByteArray} (h : Row w B (some ⟨b, off, none⟩) (strs ss)) : ∀ (j : Nat) x, ss[j]? = some x → w.cell? ⟨b, off + j, none⟩ = some (.string x) := fun j x hx => by
  have hj : j < ss.length := (List.getElem?_eq_some_iff.1 hx).1
  obtain ⟨b', off', e, _, hc⟩ := h (by rw [strs_length]; omega)
  injection e with e
  injection e with e1 e2
  subst e1
  subst e2
  refine hc j _ ?_
  unfold strs
  rw [List.getElem?_map, hx]
  rfl

/-- strings.Join, whatever the list. -/
theorem join_any (A : Option Addr) (ss : List ByteArray) (c : Nat) (sep : ByteArray) (w : World) (h : Row w w.heap.size A (strs ss)) (hcap : ss.length ≤ c) (hN : ss.length ≤ 1048576)
    (hlen : (Lib.join (W.bytes ss) sep.data.toList).length ≤ 1048576) :
    Calls Tryd.prog 59 #[.slice A ss.length c, .string sep] w fun e w' => e = .returned (.string ⟨(Lib.join (W.bytes ss) sep.data.toList).toArray⟩) ∧ Below w.heap.size w w' := by
  by_cases h0 : ss.length = 0
  · have hn : ss = [] := List.eq_nil_of_length_eq_zero h0
    subst hn
    refine (Tryd.strings_Join_none A c sep w).mono fun e w' ⟨he, hw⟩ => ⟨he, by rw [hw]; exact Below.refl _ _⟩
  · obtain ⟨b, off, rfl, hb, _⟩ := h (by rw [strs_length]; omega)
    exact Tryd.strings_Join b off c ss sep w (row_cells h) hb (by omega) hcap (by show (Lib.join (W.bytes ss) sep.data.toList).length ≤ _; omega)




theorem okCat_no1 (ss : List ByteArray) (k : Nat) (h : k ≤ ss.length) (hf : W.allTo W.goodB ss k = false) : W.okCat ss = false := by
  unfold W.okCat
  rw [W.allTo_no W.goodB ss k _ h hf]
  simp
theorem okCat_no2 (ss : List ByteArray) (k : Nat) (h : k ≤ ss.length) (hf : 60 < (W.cat ss k).size) : W.okCat ss = false := by
  have := W.cat_mono ss k ss.length h
  unfold W.okCat
  rw [decide_eq_false (p := (W.cat ss ss.length).size ≤ 60) (by omega)]
  simp
theorem catOf_no (ss : List ByteArray) (h : W.okCat ss = false) : W.catOf ss = ⟨#[]⟩ := by unfold W.catOf; rw [h]; rfl

set_option maxHeartbeats 1600000 in
theorem spec_Concat (A : Option Addr) (ss : List ByteArray) (c : Nat) (w : World) (h : Row w w.heap.size A (strs ss)) (_hcap : ss.length ≤ c) (hl : ss.length ≤ 9223372036854775807) (hs : ∀ s ∈ ss, s.size ≤ 9223372036854775807) :
    Calls Tryd.prog 46 #[.slice A ss.length c] w (fun e w' => e = .returned (.tuple #[.string (W.catOf ss), .bool (W.okCat ss)]) ∧ Below w.heap.size w w') := by
  by_cases h60 : ss.length ≤ 60
  · replace h := Lib.hid h
    replace hs := Lib.hid hs
    go_enter Tryd.func46, Tryd.ntmps46
    go_wp2
    go_loop [4, 12] (fun o i => ∃ k : Nat, k ≤ ss.length ∧ i = .int .i64 k ∧ o = .string (W.cat ss k) ∧ (W.cat ss k).size ≤ 60 ∧ Hid (W.allTo W.goodB ss k = true)) (fun _ i => ss.length - (intOf i).toNat)
    case atStart => exact ⟨0, Nat.zero_le _, rfl, rfl, by show (0 : Nat) ≤ 60; omega, rfl⟩
    case round =>
      obtain ⟨k, hk, rfl, rfl, hsz, hok⟩ := hrel
      by_cases hlt : k < ss.length
      · obtain ⟨b, off, rfl, hb, hcc⟩ := h.out (by rw [strs_length]; omega)
        have hlt' : (k : Int) < (ss.length : Int) := by omega
        have c1 := hcc k _ (strs_nth ss k hlt)
        clear hcc
        have hz : (W.nth ss k).size ≤ 9223372036854775807 := by rw [W.nth_lt ss k hlt]; exact hs.out _ (List.getElem_mem hlt)
        have hc1 : ∀ W', Calls Tryd.prog 49 #[.string (W.nth ss k)] W' fun e w' => e = .returned (.bool (W.goodB (W.nth ss k))) ∧ W' = w' := fun W' => spec_wdGood (W.nth ss k) W' hz
        have Hs := Lib.hid (W.allTo_succ W.goodB ss k)
        have Hc : Hid (W.cat ss (k + 1) = W.cat ss k ++ W.nth ss k) := rfl
        cases hq : W.goodB (W.nth ss k)
        · have hno : Hid (W.okCat ss = false) := okCat_no1 ss (k + 1) hlt (by rw [Hs.out, hq]; simp)
          have hno2 : Hid (W.catOf ss = ⟨#[]⟩) := catOf_no ss hno.out
          rw [hq] at hc1
          replace hc1 := Lib.hid hc1
          clear hq
          go_wp2_with (go_at_call 49; refine (hc1.out _).mono ?_; rintro e w' ⟨rfl, rfl⟩)
          go_ret2
          exact ⟨by rw [hno.out, hno2.out]; rfl, Below.refl _ _⟩
        · have hx60 : (W.nth ss k).size ≤ 60 := by
            have := hq
            unfold W.goodB W.good at this
            simp only [Bool.and_eq_true, decide_eq_true_eq] at this
            have h2 := this.1
            rwa [← Lib.size_eq] at h2
          rw [hq] at hc1
          have hok1 : Hid (W.allTo W.goodB ss (k + 1) = true) := by
            show W.allTo W.goodB ss (k + 1) = true
            rw [Hs.out, hok.out, hq]
            rfl
          replace hc1 := Lib.hid hc1
          clear hq
          by_cases hbig : 60 < (W.cat ss k).size + (W.nth ss k).size
          · have hno : Hid (W.okCat ss = false) := okCat_no2 ss (k + 1) hlt (by rw [Hc.out, ByteArray.size_append]; omega)
            have hno2 : Hid (W.catOf ss = ⟨#[]⟩) := catOf_no ss hno.out
            go_wp2_with (go_at_call 49; refine (hc1.out _).mono ?_; rintro e w' ⟨rfl, rfl⟩)
            go_ret2
            exact ⟨by rw [hno.out, hno2.out]; rfl, Below.refl _ _⟩
          · have hbig' : (W.cat ss k).size + (W.nth ss k).size ≤ 60 := by omega
            clear hbig
            go_wp2_with (go_at_call 49; refine (hc1.out _).mono ?_; rintro e w' ⟨rfl, rfl⟩)
            go_round
            case rel => exact ⟨k + 1, by omega, by go_num, by rw [Hc.out], by rw [Hc.out, ByteArray.size_append]; omega, hok1⟩
            case measure => simp [intOf]; omega
      · obtain rfl : k = ss.length := by omega
        have hyes : Hid (W.okCat ss = true) := by
          show W.okCat ss = true
          unfold W.okCat
          rw [decide_eq_true h60, hok.out, decide_eq_true hsz]
          rfl
        have hv : Hid (W.catOf ss = W.cat ss ss.length) := by
          show W.catOf ss = _
          unfold W.catOf
          rw [hyes.out]
          rfl
        go_wp2
        go_ret2
        exact ⟨by rw [hyes.out, hv.out]; rfl, Below.refl _ _⟩
  · have hno : W.okCat ss = false := by unfold W.okCat; rw [decide_eq_false h60]; rfl
    rw [catOf_no ss hno, hno]
    clear hno h hs
    go_enter Tryd.func46, Tryd.ntmps46
    go_wp2
    go_ret2
    exact ⟨rfl, Below.refl _ _⟩

set_option maxHeartbeats 1600000 in
theorem impl_Concat (A : Option Addr) (ss : List ByteArray) (c : Nat) (w : World) (h : Row w w.heap.size A (strs ss)) (hcap : ss.length ≤ c) (hl : ss.length ≤ 9223372036854775807) (hs : ∀ s ∈ ss, s.size ≤ 9223372036854775807) :
    Calls Tryd.prog 47 #[.slice A ss.length c] w (fun e w' => e = .returned (.tuple #[.string (W.catOf ss), .bool (W.okCat ss)]) ∧ Below w.heap.size w w') := by
  by_cases h60 : ss.length ≤ 60
  · have hc1 := areAll_isWord A ss c w h hl hs
    cases hq : W.allTo W.goodB ss ss.length
    · have hno : W.okCat ss = false := okCat_no1 ss ss.length (Nat.le_refl _) hq
      rw [catOf_no ss hno, hno]
      rw [hq] at hc1
      replace hc1 := Lib.hid hc1
      clear hno h hs hq
      go_enter Tryd.func47, Tryd.ntmps47
      go_wp2_with (go_at_call 51; refine hc1.out.mono ?_; rintro e w1 ⟨rfl, hB⟩)
      go_ret2
      exact ⟨rfl, hB⟩
    · have hj := W.cat_join ss ss.length (Nat.le_refl _)
      rw [List.take_length] at hj
      have hsz := W.cat_size ss 60 ss.length (fun i hi => W.all_good ss ss.length hq i hi)
      have hlen : (Lib.join (W.bytes ss) []).length ≤ 1048576 := by
        rw [← hj, ← Lib.size_eq]
        omega
      have hc2 := fun W1 (g : Row W1 W1.heap.size A (strs ss)) => join_any A ss c ⟨#[]⟩ W1 g hcap (by omega) hlen
      have hv : (⟨(Lib.join (W.bytes ss) (⟨#[]⟩ : ByteArray).data.toList).toArray⟩ : ByteArray) = W.cat ss ss.length := W.mk_of _ _ hj
      rw [hv] at hc2
      have hwd := W.cat_wd ss ss.length hq
      have hg : W.good (W.cat ss ss.length).data.toList = W.okCat ss := by
        unfold W.okCat W.good
        rw [decide_eq_true h60, hq, hwd, ← Lib.size_eq]
        simp
      have hv2 : W.okCat ss = true → W.catOf ss = W.cat ss ss.length := fun h => by unfold W.catOf; rw [h]; rfl
      have hno2 := catOf_no ss
      have hc3 := fun W1 => impl_IsWord (W.cat ss ss.length) W1 (by omega)
      rw [hg] at hc3
      rw [hq] at hc1
      generalize W.cat ss ss.length = x at hc2 hc3 hv2
      generalize W.catOf ss = y at hv2 hno2 ⊢
      generalize W.okCat ss = ok at hv2 hno2 hc3 ⊢
      replace h := Lib.hid h
      replace hc1 := Lib.hid hc1
      replace hc2 := Lib.hid hc2
      clear hs hq hj hlen hv hwd hg hsz
      cases ok
      · have hy := hno2 rfl
        subst hy
        replace hc3 := Lib.hid hc3
        clear hv2 hno2
        go_enter Tryd.func47, Tryd.ntmps47
        go_wp2_with fail
        refine hc1.out.mono ?_
        rintro e w1 ⟨rfl, hB⟩
        replace hB := Lib.hid hB
        go_wp2_with fail
        refine (hc2.out w1 ((h.out.below hB.out).more hB.out.size)).mono ?_
        rintro e w2 ⟨rfl, hB2⟩
        replace hB2 := Lib.hid hB2
        go_wp2_with fail
        refine (hc3.out w2).mono ?_
        rintro e w3 ⟨rfl, hB3⟩
        go_wp2
        go_ret2
        exact ⟨rfl, hB.out.trans ((hB2.out.mono hB.out.size).trans (hB3.mono (Nat.le_trans hB.out.size hB2.out.size)))⟩
      · have hy := hv2 rfl
        subst hy
        replace hc3 := Lib.hid hc3
        clear hv2 hno2
        go_enter Tryd.func47, Tryd.ntmps47
        go_wp2_with fail
        refine hc1.out.mono ?_
        rintro e w1 ⟨rfl, hB⟩
        replace hB := Lib.hid hB
        go_wp2_with fail
        refine (hc2.out w1 ((h.out.below hB.out).more hB.out.size)).mono ?_
        rintro e w2 ⟨rfl, hB2⟩
        replace hB2 := Lib.hid hB2
        go_wp2_with fail
        refine (hc3.out w2).mono ?_
        rintro e w3 ⟨rfl, hB3⟩
        go_wp2
        go_ret2
        exact ⟨rfl, hB.out.trans ((hB2.out.mono hB.out.size).trans (hB3.mono (Nat.le_trans hB.out.size hB2.out.size)))⟩
  · have hno : W.okCat ss = false := by unfold W.okCat; rw [decide_eq_false h60]; rfl
    rw [catOf_no ss hno, hno]
    clear hno h hs
    go_enter Tryd.func47, Tryd.ntmps47
    go_wp2
    go_ret2
    exact ⟨rfl, Below.refl _ _⟩

end Go.Proofs.YtaeligamgpikkaaDoor
