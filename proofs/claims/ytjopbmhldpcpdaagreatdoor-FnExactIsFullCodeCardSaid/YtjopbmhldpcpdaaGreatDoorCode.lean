/-
  WHAT THIS FILE PROVES: whether a set is a code, as the specification's functions tell it; asked: a slice of texts in memory.
-/
import Derived.Test.YtjopbmhldpcpdaaGreatDoorDangS
import Derived.Test.YtjopbmhldpcpdaaGreatDoorDbl
namespace Go.Proofs.YtjopbmhldpcpdaaGreatDoor
open Go.RowKit Go.Shelf

theorem strss_last (f : Nat → List ByteArray) (n : Nat) : (strss ((List.range (n + 1)).map f))[n]? = some (strs (f n)) := strss_at' f (n + 1) n (by omega)
set_option maxHeartbeats 1600000 in
theorem spec_dcCode (A : Option Addr) (ss : List ByteArray) (c : Nat) (w : World) (h : Row w w.heap.size A (strs ss)) (hset : W.isSet ss = true) :
    Calls Tryz.prog 11 #[.slice A ss.length c] w fun e w' => e = .returned (.bool (isCd ss)) ∧ Below w.heap.size w w' := by
  have hq := Lib.hid (spec_dcLists A ss c w h hset)
  have h12 := W.isSet_len ss hset
  have h84 := dl_length hset (dLast ss)
  have Hcd : Hid (isCd ss = !dHit ss (dl ss (dLast ss))) := rfl
  have hbig : dLast ss ≤ 400000000000 := dLast_few ss
  rw [Hcd.out]
  generalize hn : dLast ss = n at hq h84 hbig ⊢
  have hlen : (strss (dLists ss (n + 1))).length = n + 1 := by rw [strss_length, dLists_length]
  have hlast := Lib.hid (strss_last (dl ss) n)
  replace h := Lib.hid h
  clear hset hn Hcd
  generalize dl ss n = l at hlast h84 ⊢
  go_enter Tryz.func11, Tryz.ntmps11
  go_wp2_with fail
  refine hq.out.mono ?_
  rintro e w1 ⟨A1, c1, rfl, ho, hB⟩
  rw [hlen] at ho ⊢
  obtain ⟨vs, hr1, hr2, hr3⟩ := RowSS.of_own ho
  obtain ⟨A2, c2, hv2, hr4⟩ := hr3 n _ hlast.out
  obtain ⟨b1, off1, rfl, hb1, hc1⟩ := hr1 (by
    have := (List.getElem?_eq_some_iff.1 hv2).1
    omega)
  have c1 := hc1 n _ hv2
  rw [strs_length] at c1
  have hR := Lib.hid hr4
  have Hs := Lib.hid (fun (k : Nat) hk => dHit_succ ss l k hk)
  have HB := Lib.hid hB
  have hw1 := Lib.hid ((h.out.below hB).more hB.size)
  clear hr1 hr2 hr3 hr4 hv2 hc1 ho hB hq hlast hlen
  have hhas := Lib.hid (fun x => spec_wdHas A ss c x w1 hw1.out (by omega))
  go_wp2_with fail
  go_loop [15] (fun i => ∃ k : Nat, k ≤ l.length ∧ i = .int .i64 k ∧ Hid (dHit ss (l.take k) = false)) (fun i => l.length - (intOf i).toNat)
  case atStart => exact ⟨0, Nat.zero_le _, rfl, rfl⟩
  case round =>
    obtain ⟨k, hk, rfl, hno⟩ := hrel
    by_cases hlt : k < l.length
    · obtain ⟨b, off, rfl, hb, hcc⟩ := hR.out (by rw [strs_length]; omega)
      have hlt' : (k : Int) < (l.length : Int) := by omega
      have c2 := hcc k _ (strs_nth l k hlt)
      have hs := Lib.hid (Hs.out k hlt)
      have hall : Hid (hasB ss (W.nth l k) = true → dHit ss l = true) := fun e => by
        unfold dHit
        rw [List.any_eq_true]
        exact ⟨_, by rw [W.nth_lt l k hlt]; exact List.getElem_mem hlt, e⟩
      clear hcc
      generalize W.nth l k = x at c2 hs hall
      have hq1 := Lib.hid (hhas.out x)
      cases hd : hasB ss x
      · rw [hd] at hq1
        have hs2 : Hid (dHit ss (l.take (k + 1)) = false) := by
          show _ = _
          rw [hs.out, hno.out, hd]
          rfl
        clear hd hs
        go_wp2_with (go_at_call 20; refine hq1.out.mono ?_; rintro e w' ⟨rfl, rfl⟩)
        go_round
        case rel => exact ⟨k + 1, by omega, by go_num, hs2⟩
        case measure => simp [intOf]; omega
      · rw [hd] at hq1
        have ha := Lib.hid (hall.out hd)
        clear hd hs hall
        go_wp2_with (go_at_call 20; refine hq1.out.mono ?_; rintro e w' ⟨rfl, rfl⟩)
        go_ret
        exact ⟨by rw [ha.out]; rfl, HB.out⟩
    · obtain rfl : k = l.length := by omega
      have hn := hno.out
      rw [List.take_length] at hn
      have Hn := Lib.hid hn
      clear hn hno
      go_wp2
      go_ret
      exact ⟨by rw [Hn.out]; rfl, HB.out⟩

end Go.Proofs.YtjopbmhldpcpdaaGreatDoor
