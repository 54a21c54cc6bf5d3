/-
  WHAT THIS FILE PROVES: whether a list is a set: the specification's and the program's functions tell the same; asked: a row that lies in memory, lengths that an int holds.
-/
import Derived.Test.YtjffgpgmgnfafaaDoorPair
import Derived.Test.YtjffgpgmgnfafaaDoorSets
import Derived.Test.YtjffgpgmgnfafaaDoorMemS
import Derived.IntWalk
namespace Go.Proofs.YtjffgpgmgnfafaaDoor
open Go.RowKit Go.Shelf

theorem strs_nth (ss : List ByteArray) (k : Nat) (h : k < ss.length) : (strs ss)[k]? = some (.string (W.nth ss k)) := by
  rw [strs_at ss k h, W.nth_lt ss k h]

theorem spec_l1In (n lo hi : Int) (w : World) :
    Calls Tryd.prog 35 #[.int .i64 n, .int .i64 lo, .int .i64 hi] w fun e w' => e = .returned (.bool (decide (lo ≤ n ∧ n ≤ hi))) ∧ w = w' := by
  by_cases h1 : lo ≤ n
  · by_cases h2 : n ≤ hi
    · rw [decide_eq_true ⟨h1, h2⟩]
      go_enter Tryd.func35, Tryd.ntmps35
      go_wp2
      go_ret
      exact ⟨rfl, rfl⟩
    · rw [decide_eq_false (fun h => h2 h.2)]
      go_enter Tryd.func35, Tryd.ntmps35
      go_wp2
      go_ret
      exact ⟨rfl, rfl⟩
  · rw [decide_eq_false (fun h => h1 h.1)]
    go_enter Tryd.func35, Tryd.ntmps35
    go_wp2
    go_ret
    exact ⟨rfl, rfl⟩

set_option maxHeartbeats 400000 in
theorem spec_wdShort (s : ByteArray) (w : World) (hs : s.size ≤ 9223372036854775807) :
    Calls Tryd.prog 24 #[.string s] w fun e w' => e = .returned (.bool (W.short s)) ∧ w = w' := by
  by_cases h : 1 ≤ s.size ∧ s.size ≤ 8
  · have hr : W.short s = W.isWd s.data.toList := by unfold W.short; rw [decide_eq_true h]; rfl
    have hd : decide ((1 : Int) ≤ s.size ∧ (s.size : Int) ≤ 8) = true := decide_eq_true (by omega)
    have hc := fun W => spec_l1In s.size 1 8 W
    rw [hd] at hc
    rw [hr]
    have hi := fun W => spec_wdIs s W hs
    generalize W.isWd s.data.toList = r at hi ⊢
    replace hc := Lib.hid hc
    replace hi := Lib.hid hi
    clear hr hd h
    go_enter Tryd.func24, Tryd.ntmps24
    go_wp2_with (first | (go_at_call 35; refine (hc.out _).mono ?_; rintro e w' ⟨rfl, rfl⟩) | (go_at_call 36; refine (hi.out _).mono ?_; rintro e w' ⟨rfl, rfl⟩))
    go_ret
    exact ⟨rfl, rfl⟩
  · have hr : W.short s = false := by unfold W.short; rw [decide_eq_false h]; rfl
    have hd : decide ((1 : Int) ≤ s.size ∧ (s.size : Int) ≤ 8) = false := decide_eq_false (by omega)
    have hc := fun W => spec_l1In s.size 1 8 W
    rw [hd] at hc
    rw [hr]
    replace hc := Lib.hid hc
    clear hr hd h
    go_enter Tryd.func24, Tryd.ntmps24
    go_wp2_with (go_at_call 35; refine (hc.out _).mono ?_; rintro e w' ⟨rfl, rfl⟩)
    go_ret
    exact ⟨rfl, rfl⟩

theorem isSet_no (ss : List ByteArray) (k : Nat) (h : k ≤ ss.length) (hf : W.okTo ss k = false) : W.isSet ss = false := by
  unfold W.isSet
  rw [W.okTo_no ss k _ h hf]
  simp

set_option maxHeartbeats 1600000 in
theorem spec_wdSet (A : Option Addr) (ss : List ByteArray) (c : Nat) (w : World) (h : Row w w.heap.size A (strs ss)) (hl : ss.length ≤ 9223372036854775807) (hs : ∀ s ∈ ss, s.size ≤ 9223372036854775807) :
    Calls Tryd.prog 14 #[.slice A ss.length c] w fun e w' => e = .returned (.bool (W.isSet ss)) ∧ w = w' := by
  by_cases h12 : ss.length ≤ 12
  · have hr : W.isSet ss = W.okTo ss ss.length := by unfold W.isSet; rw [decide_eq_true h12]; rfl
    have HR := Lib.hid hr
    replace h := Lib.hid h
    replace hs := Lib.hid hs
    clear hr
    go_enter Tryd.func14, Tryd.ntmps14
    go_wp2
    go_loop [10] (fun i => ∃ k : Nat, k ≤ ss.length ∧ i = .int .i64 k ∧ Hid (W.okTo ss k = true)) (fun i => ss.length - (intOf i).toNat)
    case atStart => exact ⟨0, Nat.zero_le _, rfl, rfl⟩
    case round =>
      obtain ⟨k, hk, rfl, hok⟩ := hrel
      by_cases hlt : k < ss.length
      · obtain ⟨b, off, rfl, hb, hc⟩ := h.out (by rw [strs_length]; omega)
        have hlt' : (k : Int) < (ss.length : Int) := by omega
        have c1 := hc k _ (strs_nth ss k hlt)
        have Hs := Lib.hid (W.okTo_succ ss k)
        have hz : (W.nth ss k).size ≤ 9223372036854775807 := by rw [W.nth_lt ss k hlt]; exact hs.out _ (List.getElem_mem hlt)
        have hc1 := fun W' => spec_wdShort (W.nth ss k) W' hz
        cases hq : W.short (W.nth ss k)
        · rw [hq] at hc1
          have hno : Hid (W.isSet ss = false) := isSet_no ss (k + 1) hlt (by rw [Hs.out, hq]; simp)
          replace hc1 := Lib.hid hc1
          clear hq hc
          go_wp2_with (go_at_call 24; refine (hc1.out _).mono ?_; rintro e w' ⟨rfl, rfl⟩)
          go_ret
          exact ⟨ret_bool hno.out.symm, rfl⟩
        · rw [hq] at hc1
          have Hq := Lib.hid hq
          replace hc1 := Lib.hid hc1
          clear hq
          by_cases hk0 : k = 0
          · subst hk0
            have h1 : Hid (W.okTo ss 1 = true) := by
              show W.okTo ss 1 = true
              rw [Hs.out, hok.out, Hq.out]
              rfl
            have c0 : w.cell? ⟨b, off, none⟩ = some (.string (W.nth ss 0)) := c1
            clear hc c1
            go_wp2_with (go_at_call 24; refine (hc1.out _).mono ?_; rintro e w' ⟨rfl, rfl⟩)
            go_round
            case rel => exact ⟨1, by omega, by go_num, h1⟩
            case measure => simp [intOf]; omega
          · have c0 := hc (k - 1) _ (strs_nth ss (k - 1) (by omega))
            have hkp : (0 : Int) < (k : Int) := by omega
            have hix : ((k : Int) - 1).toNat = k - 1 := by omega
            have hc2 := fun W' => spec_wdLess (W.nth ss (k - 1)) (W.nth ss k) W'
            cases hq2 : W.less (W.nth ss (k - 1)).data.toList (W.nth ss k).data.toList
            · rw [hq2] at hc2
              have hno : Hid (W.isSet ss = false) := isSet_no ss (k + 1) hlt (by rw [Hs.out, decide_eq_false hk0]; unfold W.lessB; rw [hq2]; simp)
              replace hc2 := Lib.hid hc2
              clear hq2 hc hk0
              go_wp2_with (first | (go_at_call 24; refine (hc1.out _).mono ?_; rintro e w' ⟨rfl, rfl⟩) | (go_at_call 25; refine (hc2.out _).mono ?_; rintro e w' ⟨rfl, rfl⟩))
              go_ret
              exact ⟨ret_bool hno.out.symm, rfl⟩
            · rw [hq2] at hc2
              have h1 : Hid (W.okTo ss (k + 1) = true) := by
                show W.okTo ss (k + 1) = true
                rw [Hs.out, hok.out, Hq.out]
                unfold W.lessB
                rw [hq2]
                simp
              replace hc2 := Lib.hid hc2
              clear hq2 hc hk0
              go_wp2_with (first | (go_at_call 24; refine (hc1.out _).mono ?_; rintro e w' ⟨rfl, rfl⟩) | (go_at_call 25; refine (hc2.out _).mono ?_; rintro e w' ⟨rfl, rfl⟩))
              go_round
              case rel => exact ⟨k + 1, by omega, by go_num, h1⟩
              case measure => simp [intOf]; omega
      · obtain rfl : k = ss.length := by omega
        go_wp2
        go_ret
        exact ⟨ret_bool (by rw [HR.out, hok.out]), rfl⟩
  · have hr : W.isSet ss = false := by unfold W.isSet; rw [decide_eq_false h12]; rfl
    rw [hr]
    clear hr h hs
    go_enter Tryd.func14, Tryd.ntmps14
    go_wp2
    go_ret
    exact ⟨rfl, rfl⟩


set_option maxHeartbeats 800000 in
theorem impl_fitsInSet (s : ByteArray) (w : World) (hs : s.size ≤ 9223372036854775807) :
    Calls Tryd.prog 27 #[.string s] w fun e w' => e = .returned (.bool (W.short s)) ∧ Below w.heap.size w w' := by
  rw [W.short_good]
  cases he : s.toList.isEmpty
  · by_cases h8 : s.size ≤ 8
    · have hc := fun W => impl_isWord s W hs
      rw [decide_eq_true h8]
      generalize W.good s.data.toList = r at hc ⊢
      replace hc := Lib.hid hc
      go_enter Tryd.func27, Tryd.ntmps27
      go_wp2_with (go_at_call 37; refine (hc.out _).mono ?_; rintro e w' ⟨rfl, hB⟩)
      go_ret
      exact ⟨by simp, hB⟩
    · rw [decide_eq_false h8]
      go_enter Tryd.func27, Tryd.ntmps27
      go_wp2
      go_ret
      exact ⟨rfl, Below.refl _ _⟩
  · go_enter Tryd.func27, Tryd.ntmps27
    go_wp2
    go_ret
    exact ⟨rfl, Below.refl _ _⟩

set_option maxHeartbeats 1600000 in
theorem areAll_fitsInSet (A : Option Addr) (ss : List ByteArray) (c : Nat) (w : World) (h : Row w w.heap.size A (strs ss)) (hl : ss.length ≤ 9223372036854775807) (hs : ∀ s ∈ ss, s.size ≤ 9223372036854775807) :
    Calls Tryd.prog 26 #[.slice A ss.length c, .func (.func 27) #[] #[]] w fun e w' => e = .returned (.bool (W.allTo W.short ss ss.length)) ∧ Below w.heap.size w w' := by
  replace h := Lib.hid h
  replace hs := Lib.hid hs
  go_enter Tryd.func26, Tryd.ntmps26
  go_wp2
  go_loopw [9] (fun i wr => ∃ k : Nat, k ≤ ss.length ∧ i = .int .i64 k ∧ Hid (W.allTo W.short ss k = true) ∧ Below w.heap.size w wr) (fun i _ => ss.length - (intOf i).toNat)
  case atStart => exact ⟨0, Nat.zero_le _, rfl, rfl, Below.refl _ _⟩
  case round =>
    obtain ⟨k, hk, rfl, hok, hB⟩ := hrel
    have hO := Lib.hid hB
    clear hB
    by_cases hlt : k < ss.length
    · obtain ⟨b, off, rfl, hb, hc⟩ := h.out (by rw [strs_length]; omega)
      have hlt' : (k : Int) < (ss.length : Int) := by omega
      have c1 := (hO.out.cell (p := ⟨b, off + k, none⟩) hb).trans (hc k _ (strs_nth ss k hlt))
      clear hc
      have Hs := Lib.hid (W.allTo_succ W.short ss k)
      have hz : (W.nth ss k).size ≤ 9223372036854775807 := by rw [W.nth_lt ss k hlt]; exact hs.out _ (List.getElem_mem hlt)
      have hc1 : ∀ W', Calls Tryd.prog 27 #[.string (W.nth ss k)] W' fun e w' => e = .returned (.bool (W.short (W.nth ss k))) ∧ Below W'.heap.size W' w' := fun W' => impl_fitsInSet (W.nth ss k) W' hz
      cases hq : W.short (W.nth ss k)
      · have hno : Hid (W.allTo W.short ss ss.length = false) := W.allTo_no _ ss (k + 1) _ hlt (by rw [Hs.out, hq]; simp)
        rw [hq] at hc1
        replace hc1 := Lib.hid hc1
        clear hq
        go_wp2_with (go_at_call 27; refine (hc1.out _).mono ?_; rintro e w' ⟨rfl, hB⟩)
        go_ret
        exact ⟨ret_bool hno.out.symm, hO.out.trans (hB.mono hO.out.size)⟩
      · have h1 : Hid (W.allTo W.short ss (k + 1) = true) := by
          show W.allTo W.short ss (k + 1) = true
          rw [Hs.out, hok.out, hq]
          rfl
        rw [hq] at hc1
        replace hc1 := Lib.hid hc1
        clear hq
        go_wp2_with (go_at_call 27; refine (hc1.out _).mono ?_; rintro e w' ⟨rfl, hB⟩)
        have hF := Lib.hid (hO.out.trans (hB.mono hO.out.size))
        clear hB
        go_roundw
        case rel => exact ⟨k + 1, by omega, by go_num, h1, hF.out⟩
        case measure => simp [intOf]; omega
    · obtain rfl : k = ss.length := by omega
      go_wp2
      go_ret
      exact ⟨ret_bool hok.out.symm, hO.out⟩


theorem chain_start (ss : List ByteArray) : W.chainTo ss 1 = true := by simp [W.chainTo, List.range_succ]

set_option maxHeartbeats 3200000 in
theorem impl_IsSet (A : Option Addr) (ss : List ByteArray) (c : Nat) (w : World) (h : Row w w.heap.size A (strs ss)) (hl : ss.length ≤ 9223372036854775807) (hs : ∀ s ∈ ss, s.size ≤ 9223372036854775807) :
    Calls Tryd.prog 17 #[.slice A ss.length c] w fun e w' => e = .returned (.bool (W.isSet ss)) ∧ Below w.heap.size w w' := by
  by_cases h12 : ss.length ≤ 12
  · have hc1 := areAll_fitsInSet A ss c w h hl hs
    cases hq : W.allTo W.short ss ss.length
    · have hno : W.isSet ss = false := isSet_no ss ss.length (Nat.le_refl _) (by unfold W.okTo; rw [show W.shortTo ss ss.length = false from hq]; rfl)
      rw [hno]
      rw [hq] at hc1
      replace hc1 := Lib.hid hc1
      clear hq hno h hs
      go_enter Tryd.func17, Tryd.ntmps17
      go_wp2_with (go_at_call 26; refine hc1.out.mono ?_; rintro e w1 ⟨rfl, hB⟩)
      go_ret
      exact ⟨rfl, hB⟩
    · have HR : Hid (W.isSet ss = W.chainTo ss ss.length) := by
        show W.isSet ss = W.chainTo ss ss.length
        unfold W.isSet W.okTo
        rw [decide_eq_true h12, show W.shortTo ss ss.length = true from hq]
        rfl
      rw [hq] at hc1
      replace hc1 := Lib.hid hc1
      clear hq
      replace h := Lib.hid h
      replace hs := Lib.hid hs
      go_enter Tryd.func17, Tryd.ntmps17
      go_wp2_with (go_at_call 26; refine hc1.out.mono ?_; rintro e w1 ⟨rfl, hB1⟩)
      go_loopw [3] (fun i wr => ∃ k : Nat, 1 ≤ k ∧ (k ≤ ss.length ∨ k = 1) ∧ i = .int .i64 k ∧ Hid (W.chainTo ss k = true) ∧ Below w.heap.size w wr) (fun i _ => ss.length - (intOf i).toNat)
      case atStart => exact ⟨1, Nat.le_refl _, .inr rfl, rfl, chain_start ss, hB1⟩
      case round =>
        obtain ⟨k, hk1, hk2, rfl, hok, hB⟩ := hrel
        have hO := Lib.hid hB
        clear hB hB1
        by_cases hlt : k < ss.length
        · obtain ⟨b, off, rfl, hb, hc⟩ := h.out (by rw [strs_length]; omega)
          have hlt' : (k : Int) < (ss.length : Int) := by omega
          have hbr : b < wr.heap.size := Nat.lt_of_lt_of_le hb hO.out.size
          have c1 := (hO.out.cell (p := ⟨b, off + k, none⟩) hb).trans (hc k _ (strs_nth ss k hlt))
          have c0 := (hO.out.cell (p := ⟨b, off + (k - 1), none⟩) hb).trans (hc (k - 1) _ (strs_nth ss (k - 1) (by omega)))
          clear hc
          have Hs := Lib.hid (W.chainTo_succ ss k)
          have hix : ((k : Int) - 1).toNat = k - 1 := by omega
          have hi0 : (0 : Int) ≤ (k : Int) - 1 := by omega
          have hi1 : (k : Int) - 1 < (ss.length : Int) := by omega
          have hneg := W.cw_neg (W.nth ss (k - 1)).data.toList (W.nth ss k).data.toList
          have hc2 := fun W' => (impl_compareWords (W.nth ss (k - 1)) (W.nth ss k) W').mono (R' := fun e w' => e = .returned (.int .i64 (W.cw (W.nth ss (k - 1)).data.toList (W.nth ss k).data.toList)) ∧ Below W'.heap.size W' w') (fun e w' ⟨h, hw⟩ => ⟨h, by rw [← hw]; exact (Below.refl _ _).alloc (Nat.le_refl _) _⟩)
          generalize W.cw (W.nth ss (k - 1)).data.toList (W.nth ss k).data.toList = x at hneg hc2
          replace hc2 := Lib.hid hc2
          cases hq2 : W.less (W.nth ss (k - 1)).data.toList (W.nth ss k).data.toList
          · have hx : 0 ≤ x := by rw [hq2] at hneg; have := of_decide_eq_false hneg; omega
            have hno : Hid (W.isSet ss = false) := by
              show W.isSet ss = false
              rw [HR.out]
              exact W.chainTo_no ss (k + 1) _ hlt (by rw [Hs.out, decide_eq_false (by omega)]; unfold W.lessB; rw [hq2]; simp)
            clear hq2 hneg
            have hwr : IntKind.i64.wrap ((k : Int) - 1) = (k : Int) - 1 := IntWalk.i64_in _ (by omega)
            have hk1' : (1 : Int) ≤ (k : Int) := by omega
            go_wp2_with fail
            go_region_held3 (fun w' => w'.cell? ⟨b, off + (k - 1), none⟩ = some (.string (W.nth ss (k - 1))) ∧ w'.cell? ⟨b, off + k, none⟩ = some (.string (W.nth ss k))) (go_keep)
              (first | (go_at_call 28; refine (hc2.out _).mono ?_; rintro e w2 ⟨rfl, hB2⟩; have d1 := (hB2.cell (p := ⟨b, off + k, none⟩) hbr).trans c1; have d0 := (hB2.cell (p := ⟨b, off + (k - 1), none⟩) hbr).trans c0))
            all_goals
              have hF := Lib.hid (hO.out.drew.trans (hB2.mono hO.out.size))
              clear hB2 hwr
              go_wp2
              go_ret
              exact ⟨ret_bool hno.out.symm, hF.out⟩
          · have hx : x < 0 := by rw [hq2] at hneg; exact of_decide_eq_true hneg
            have h1 : Hid (W.chainTo ss (k + 1) = true) := by
              show W.chainTo ss (k + 1) = true
              rw [Hs.out, hok.out]
              unfold W.lessB
              rw [hq2]
              simp
            clear hq2 hneg
            have hwr : IntKind.i64.wrap ((k : Int) - 1) = (k : Int) - 1 := IntWalk.i64_in _ (by omega)
            have hk1' : (1 : Int) ≤ (k : Int) := by omega
            go_wp2_with fail
            go_region_held3 (fun w' => w'.cell? ⟨b, off + (k - 1), none⟩ = some (.string (W.nth ss (k - 1))) ∧ w'.cell? ⟨b, off + k, none⟩ = some (.string (W.nth ss k))) (go_keep)
              (first | (go_at_call 28; refine (hc2.out _).mono ?_; rintro e w2 ⟨rfl, hB2⟩; have d1 := (hB2.cell (p := ⟨b, off + k, none⟩) hbr).trans c1; have d0 := (hB2.cell (p := ⟨b, off + (k - 1), none⟩) hbr).trans c0))
            all_goals
              have hF := Lib.hid (hO.out.drew.trans (hB2.mono hO.out.size))
              clear hB2 hwr
              go_wp2
              go_roundw
              case rel => exact ⟨k + 1, by omega, .inl (by omega), by go_num, h1, hF.out⟩
              case measure => simp [intOf]; omega
        · have hfin : Hid (W.isSet ss = true) := by
            show W.isSet ss = true
            rw [HR.out]
            rcases hk2 with h | h
            · rw [show ss.length = k by omega]
              exact hok.out
            · subst h
              rcases (by omega : ss.length = 0 ∨ ss.length = 1) with h0 | h0 <;> rw [h0]
              · rfl
              · exact chain_start ss
          go_wp2
          go_ret
          exact ⟨ret_bool hfin.out.symm, hO.out⟩
  · have hr : W.isSet ss = false := by unfold W.isSet; rw [decide_eq_false h12]; rfl
    rw [hr]
    clear hr h hs
    go_enter Tryd.func17, Tryd.ntmps17
    go_wp2
    go_ret
    exact ⟨rfl, Below.refl _ _⟩

end Go.Proofs.YtjffgpgmgnfafaaDoor
