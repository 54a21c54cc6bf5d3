/-
  WHAT THIS FILE PROVES: whether no word of a set is within another one: the specification's functions tell it; asked: a slice of texts in memory, lengths that an int holds.
-/
import Derived.Test.YtojcnalgjeojdaaDoorPart
import Derived.Test.YtojcnalgjeojdaaDoorMemS
import Derived.BigQuiet
namespace Go.Proofs.YtojcnalgjeojdaaDoor
open Go.RowKit Go.Shelf

set_option maxHeartbeats 1600000 in
theorem spec_pfWithin (s t : ByteArray) (w : World) (hs : s.size ≤ 1000) (ht : t.size ≤ 1000) (ht1 : 1 ≤ t.size) :
    Calls Tryd.prog 41 #[.string s, .string t] w fun e w' => e = .returned (.bool (wth s t)) ∧ w = w' := by
  have Hyes := Lib.hid (show ∀ k, k + t.size ≤ s.size → Lib.NoOcc s.data.toList t.data.toList k → ((s.extract k (k + t.size)).toList == t.toList) = true → wth s t = true from fun k hk hn he => by
    rw [← Lib.occ_of_piece s t k hk] at he
    unfold wth Lib.contains
    rw [Lib.index_first (by rw [← Lib.size_eq]; omega) he hn]
    exact decide_eq_true (by omega))
  have Hstep := Lib.hid (show ∀ k, k + t.size ≤ s.size → Lib.NoOcc s.data.toList t.data.toList k → ((s.extract k (k + t.size)).toList == t.toList) = false → Lib.NoOcc s.data.toList t.data.toList (k + 1) from fun k hk hn he j hj => by
    rw [← Lib.occ_of_piece s t k hk] at he
    by_cases e : j = k
    · subst e; exact he
    · exact hn j (by omega))
  have Hno := Lib.hid (show ∀ k, s.size < k + t.size → Lib.NoOcc s.data.toList t.data.toList k → wth s t = false from fun k hk hn => by
    unfold wth Lib.contains
    rw [Lib.index_past (i := k) (fun e => by have : t.size = 0 := by rw [Lib.size_eq, e]; rfl
                                             omega) hn (by rw [← Lib.size_eq, ← Lib.size_eq]; exact hk)]
    rfl)
  generalize wth s t = r at Hyes Hno ⊢
  go_enter Tryd.func41, Tryd.ntmps41
  go_wp2
  go_loop [5] (fun i => ∃ k : Nat, k ≤ s.size + 1 ∧ i = .int .i64 k ∧ Hid (Lib.NoOcc s.data.toList t.data.toList k)) (fun i => (s.size + 1) - (intOf i).toNat)
  case atStart => exact ⟨0, Nat.zero_le _, rfl, fun j hj => absurd hj (Nat.not_lt_zero _)⟩
  case round =>
    obtain ⟨k, hk, rfl, hN⟩ := hrel
    by_cases hlt : k + t.size ≤ s.size
    · have hlt' : (k : Int) + (t.size : Int) ≤ (s.size : Int) := by omega
      have hkt : ((k : Int) + (t.size : Int)).toNat = k + t.size := by omega
      have hy := Lib.hid (Hyes.out k hlt hN.out)
      have hst := Lib.hid (Hstep.out k hlt hN.out)
      cases hd : ((s.extract k (k + t.size)).toList == t.toList)
      · have hN2 := Lib.hid (hst.out hd)
        clear hst hy
        go_wp2
        go_round
        case rel => exact ⟨k + 1, by omega, by go_num, hN2⟩
        case measure => simp [intOf]; omega
      · have hr := hy.out hd
        subst hr
        clear hst hy
        go_wp2
        go_ret
        exact ⟨rfl, rfl⟩
    · have hlt' : ¬ ((k : Int) + (t.size : Int) ≤ (s.size : Int)) := by omega
      have hr := Hno.out k (by omega) hN.out
      subst hr
      go_wp2
      go_ret
      exact ⟨rfl, rfl⟩
set_option maxHeartbeats 3200000 in
theorem spec_IsPartFree (A : Option Addr) (ss : List ByteArray) (c : Nat) (w : World) (h : Row w w.heap.size A (strs ss)) (hl : ss.length ≤ 9223372036854775807) (hs : ∀ s ∈ ss, s.size ≤ 9223372036854775807) :
    Calls Tryd.prog 18 #[.slice A ss.length c] w fun e w' => e = .returned (.tuple #[.bool (pfOf ss), .bool (W.isSet ss)]) ∧ Below w.heap.size w w' := by
  have hc := spec_wdSet A ss c w h hl hs
  unfold pfOf
  cases hq : W.isSet ss
  · rw [hq] at hc
    replace hc := Lib.hid hc
    rw [Bool.false_and]
    clear h hs hq
    go_enter Tryd.func18, Tryd.ntmps18
    go_wp2_with (go_at_call 32; refine hc.out.mono ?_; rintro e w' ⟨rfl, rfl⟩)
    go_ret2
    exact ⟨rfl, Below.refl _ _⟩
  · rw [hq] at hc
    replace hc := Lib.hid hc
    rw [Bool.true_and]
    have h12 := W.isSet_len ss hq
    have Hsz := Lib.hid (fun k hk => W.short_size _ (W.isSet_short ss hq k hk))
    have hP := Lib.hid (show ptTo ss ss.length = ptB ss from rfl)
    generalize ptB ss = r at hP ⊢
    replace h := Lib.hid h
    have hw := Lib.hid (fun s t => spec_pfWithin s t w)
    clear hq hs
    go_enter Tryd.func18, Tryd.ntmps18
    go_wp2_with fail
    refine hc.out.mono ?_
    rintro e w' ⟨rfl, rfl⟩
    go_wp2_with fail
    go_loop [13] (fun i => ∃ k : Nat, k ≤ ss.length ∧ i = .int .i64 k ∧ Hid (ptTo ss k = true)) (fun i => ss.length - (intOf i).toNat)
    case atStart => exact ⟨0, Nat.zero_le _, rfl, rfl⟩
    case round =>
      obtain ⟨k, hk, rfl, hT⟩ := hrel
      by_cases hlt : k < ss.length
      · obtain ⟨b, off, rfl, hb, hcc⟩ := h.out (by rw [strs_length]; omega)
        have hlt' : (k : Int) < (ss.length : Int) := by omega
        have c1 := hcc k _ (strs_nth ss k hlt)
        have Hs1 := Lib.hid (ptTo_succ ss k)
        have Hno := Lib.hid (fun (e : ptTo ss (k + 1) = false) => (ptTo_no ss (k + 1) ss.length hlt e).symm.trans hP.out)
        have Hrs := Lib.hid (ptRow_succ ss k)
        have Hrn := Lib.hid (fun j (e : ptRow ss k j = false) hj => ptRow_no ss k j ss.length hj e)
        have hz1 := (Hsz.out k hlt).2
        have Hcc := Lib.hid hcc
        clear hcc
        generalize W.nth ss k = s at c1 Hrs hz1
        go_wp2_with fail
        go_loop [20] (fun i => ∃ j : Nat, j ≤ ss.length ∧ i = .int .i64 j ∧ Hid (ptRow ss k j = true)) (fun i => ss.length - (intOf i).toNat)
        case atStart => exact ⟨0, Nat.zero_le _, rfl, rfl⟩
        case round =>
          obtain ⟨j, hj, rfl, hR⟩ := hrel
          by_cases hlj : j < ss.length
          · have hlj' : (j : Int) < (ss.length : Int) := by omega
            have c2 := Hcc.out j _ (strs_nth ss j hlj)
            have Hs2 := Lib.hid (Hrs.out j)
            have hz2 := Hsz.out j hlj
            have hz3 := hz2.1
            have hz4 := hz2.2
            clear hz2
            generalize W.nth ss j = t at c2 Hs2 hz3 hz4
            by_cases hjk : j = k
            · subst hjk
              have hne : ((j : Int) != (j : Int)) = false := by simp
              have hR2 : Hid (ptRow ss j (j + 1) = true) := by show _ = _; rw [Hs2.out, hR.out, decide_eq_true rfl]; rfl
              clear Hs2
              go_wp2_with fail
              go_round
              case rel => exact ⟨j + 1, by omega, by go_num, hR2⟩
              case measure => simp [intOf]; omega
            · have hne : ((k : Int) != (j : Int)) = true := bne_iff_ne.2 (by omega)
              have hq1 := hw.out s t (by omega) (by omega) hz3
              cases hd : wth s t
              · rw [hd] at hq1
                replace hq1 := Lib.hid hq1
                have hR2 : Hid (ptRow ss k (j + 1) = true) := by show _ = _; rw [Hs2.out, hR.out, hd]; simp
                clear hd Hs2
                go_wp2_with fail
                refine hq1.out.mono ?_
                rintro e w' ⟨rfl, rfl⟩
                go_wp2_with fail
                go_round
                case rel => exact ⟨j + 1, by omega, by go_num, hR2⟩
                case measure => simp [intOf]; omega
              · rw [hd] at hq1
                replace hq1 := Lib.hid hq1
                have hR2 : ptRow ss k (j + 1) = false := by rw [Hs2.out, hd, decide_eq_false hjk]; simp
                have hr := Hno.out (by rw [Hs1.out, Hrn.out (j + 1) hR2 (by omega)]; simp)
                subst hr
                clear hd Hs2 hR2
                go_wp2_with fail
                refine hq1.out.mono ?_
                rintro e w' ⟨rfl, rfl⟩
                go_wp2_with fail
                go_ret2
                exact ⟨rfl, Below.refl _ _⟩
          · obtain rfl : j = ss.length := by omega
            have hT2 : Hid (ptTo ss (k + 1) = true) := by show _ = _; rw [Hs1.out, hT.out, hR.out]; rfl
            go_wp2
            go_round
            case rel => exact ⟨k + 1, by omega, by go_num, hT2⟩
            case measure => simp [intOf]; omega
      · obtain rfl : k = ss.length := by omega
        have hr := hP.out
        rw [hT.out] at hr
        subst hr
        go_wp2
        go_ret2
        exact ⟨rfl, Below.refl _ _⟩
end Go.Proofs.YtojcnalgjeojdaaDoor
