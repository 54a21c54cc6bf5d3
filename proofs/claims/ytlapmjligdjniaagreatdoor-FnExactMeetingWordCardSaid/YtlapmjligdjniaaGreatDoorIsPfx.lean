/-
  WHAT THIS FILE PROVES: whether no word of a set begins with another one: the specification's and the program's functions tell the same; asked: a slice of texts in memory, its length no more than its capacity.
-/
import Derived.Test.YtlapmjligdjniaaGreatDoorPfx
import Derived.Test.YtlapmjligdjniaaGreatDoorPair
namespace Go.Proofs.YtlapmjligdjniaaGreatDoor
open Go.RowKit Go.Shelf

set_option maxHeartbeats 3200000 in
theorem spec_krPrefix (A : Option Addr) (ss : List ByteArray) (c : Nat) (w : World) (h : Row w w.heap.size A (strs ss)) (hq : W.isSet ss = true) (hcap : ss.length ≤ c) :
    Calls Tryz.prog 37 #[.slice A ss.length c] w fun e w' => e = .returned (.bool (pfxB ss)) ∧ w = w' := by
  have h12 := W.isSet_len ss hq
  have hP := prTo_all hq
  generalize pfxB ss = r at hP ⊢
  replace hP := Lib.hid hP
  replace h := Lib.hid h
  have hbg := Lib.hid (fun s t => spec_wdBegins t s w)
  clear hq
  go_enter Tryz.func37, Tryz.ntmps37
  go_wp2
  go_loop [9] (fun i => ∃ k : Nat, k ≤ ss.length ∧ i = .int .i64 k ∧ Hid (prTo ss k = true)) (fun i => ss.length - (intOf i).toNat)
  case atStart => exact ⟨0, Nat.zero_le _, rfl, rfl⟩
  case round =>
    obtain ⟨k, hk, rfl, hT⟩ := hrel
    by_cases hlt : k < ss.length
    · obtain ⟨b, off, rfl, hb, hcc⟩ := h.out (by rw [strs_length]; omega)
      have hlt' : (k : Int) < (ss.length : Int) := by omega
      have c1 := hcc k _ (strs_nth ss k hlt)
      have hs := Lib.hid (prTo_succ ss k)
      have hno := Lib.hid (fun (e : prTo ss (k + 1) = false) => (prTo_no ss (k + 1) ss.length hlt e).symm.trans hP.out)
      have hrs := Lib.hid (prRow_succ ss k)
      have hrn := Lib.hid (fun j (e : prRow ss k j = false) hj => prRow_no ss k j (ss.length - (k + 1)) hj e)
      have Hcc := Lib.hid hcc
      clear hcc
      have hkk : (k : Int) + 1 ≤ (ss.length : Int) := by omega
      have hkc : (k : Int) + 1 ≤ (c : Int) := by omega
      have hk0 : (0 : Int) ≤ (k : Int) + 1 := by omega
      have hkn : ((k : Int) + 1).toNat = k + 1 := by omega
      by_cases hin : k + 1 < ss.length
      · have hne : ¬ c = k + 1 := by omega
        have hln : ((ss.length - (k + 1) : Nat) : Int) = (ss.length : Int) - ((k : Int) + 1) := by omega
        generalize hnm : W.nth ss k = s at c1 hrs
        replace hnm := Lib.hid hnm
        replace hln := Lib.hid hln
        go_wp2
        go_loop [19] (fun i => ∃ j : Nat, j ≤ ss.length - (k + 1) ∧ i = .int .i64 j ∧ Hid (prRow ss k j = true)) (fun i => (ss.length - (k + 1)) - (intOf i).toNat)
        case atStart => exact ⟨0, Nat.zero_le _, rfl, rfl⟩
        case round =>
          obtain ⟨j, hj, rfl, hR⟩ := hrel
          by_cases hlj : j < ss.length - (k + 1)
          · have hlj' : (j : Int) < ((ss.length - (k + 1) : Nat) : Int) := by omega
            have hjk : k + 1 + j < ss.length := by omega
            have c2 := Hcc.out (k + 1 + j) _ (strs_nth ss (k + 1 + j) hjk)
            rw [← Nat.add_assoc] at c2
            have hs2 := Lib.hid (hrs.out j)
            have hq1 := Lib.hid (hbg.out s (W.nth ss (k + 1 + j)))
            generalize W.nth ss (k + 1 + j) = t at c2 hs2 hq1
            cases hd : bgs s t
            · have hR2 : Hid (prRow ss k (j + 1) = true) := by show _ = _; rw [hs2.out, hR.out, hd]; rfl
              have hq2 := hq1.out
              rw [show Lib.hasPrefix t.data.toList s.data.toList = false from hd] at hq2
              replace hq2 := Lib.hid hq2
              clear hd hq1 hs2
              go_wp2_with (go_at_call 56; refine hq2.out.mono ?_; rintro e w' ⟨rfl, rfl⟩)
              go_round
              case rel => exact ⟨j + 1, by omega, by go_num, hR2⟩
              case measure => simp [intOf]; omega
            · have hR2 : prRow ss k (j + 1) = false := by rw [hs2.out, hd]; simp
              have hr := hno.out (by rw [hs.out, hrn.out (j + 1) hR2 (by omega)]; simp)
              subst hr
              have hq2 := hq1.out
              rw [show Lib.hasPrefix t.data.toList s.data.toList = true from hd] at hq2
              replace hq2 := Lib.hid hq2
              clear hd hq1 hs2 hR2
              go_wp2_with (go_at_call 56; refine hq2.out.mono ?_; rintro e w' ⟨rfl, rfl⟩)
              go_ret
              exact ⟨rfl, rfl⟩
          · obtain rfl : j = ss.length - (k + 1) := by omega
            have hT2 : Hid (prTo ss (k + 1) = true) := by show _ = _; rw [hs.out, hT.out, hR.out]; rfl
            go_wp2
            go_round
            case rel => exact ⟨k + 1, by omega, by go_num, hT2⟩
            case measure => simp [intOf]; omega
      · have hT2 : Hid (prTo ss (k + 1) = true) := by
          show _ = _
          rw [hs.out, hT.out, show ss.length - (k + 1) = 0 by omega]
          rfl
        have hl0 : ¬ 0 < ss.length - (k + 1) := by omega
        by_cases hck : c = k + 1
        · subst hck
          go_wp2
          refine wp_loop_rounds 1 ?_
          rw [rounds_succ]
          go_wp2
          go_round
          case rel => exact ⟨k + 1, by omega, by go_num, hT2⟩
          case measure => simp [intOf]; omega
        · go_wp2
          refine wp_loop_rounds 1 ?_
          rw [rounds_succ]
          go_wp2
          go_round
          case rel => exact ⟨k + 1, by omega, by go_num, hT2⟩
          case measure => simp [intOf]; omega
    · obtain rfl : k = ss.length := by omega
      have hr := hP.out
      rw [hT.out] at hr
      subst hr
      go_wp2
      go_ret
      exact ⟨rfl, rfl⟩

/-- what is left of words behind words of one list tells whether no word begins with another one -/
theorem impl_isPrefixSet (A : Option Addr) (ss : List ByteArray) (c : Nat) (w : World) (h : Row w w.heap.size A (strs ss)) (h12 : ss.length ≤ 500) :
    Calls Tryz.prog 48 #[.slice A ss.length c] w fun e w' => e = .returned (.bool (pfxB ss)) ∧ Below w.heap.size w w' := by
  have hc := Lib.hid (impl_restsOf A ss c A ss c w h h h12 h12)
  unfold pfxB
  generalize rests ss ss = rs at hc ⊢
  clear h
  by_cases h0 : rs.length = 0
  · obtain rfl := List.eq_nil_of_length_eq_zero h0
    clear h0
    go_enter Tryz.func48, Tryz.ntmps48
    go_wp2_with (go_at_call 69; refine hc.out.mono ?_; rintro e w1 ⟨A', c', rfl, ho, hB⟩)
    go_ret
    exact ⟨rfl, hB⟩
  · have he : ((rs.length : Int) == 0) = false := beq_eq_false_iff_ne.2 (by omega)
    have he2 : Hid (rs.isEmpty = false) := by
      show _ = _
      cases rs with
      | nil => exact absurd rfl h0
      | cons a r => rfl
    rw [he2.out]
    clear h0
    go_enter Tryz.func48, Tryz.ntmps48
    go_wp2_with (go_at_call 69; refine hc.out.mono ?_; rintro e w1 ⟨A', c', rfl, ho, hB⟩)
    go_ret
    exact ⟨rfl, hB⟩

end Go.Proofs.YtlapmjligdjniaaGreatDoor
