/-
  WHAT THIS FILE PROVES: how many different texts of so many letters are written: the program's function gives the number of the last row of its table; asked: a slice of texts in memory, lengths and a number that an int holds.
-/
import Derived.Test.YtiemoocdffobgaaDoorWrtS
import Derived.Test.YtiemoocdffobgaaDoorWbl
namespace Go.Proofs.YtiemoocdffobgaaDoor
open Go.RowKit Go.Shelf

set_option maxHeartbeats 3200000 in
theorem impl_CountWritten (A : Option Addr) (ss : List ByteArray) (c : Nat) (n : Int) (w : World) (h : Row w w.heap.size A (strs ss)) (hl : ss.length ≤ 9223372036854775807) (hs : ∀ s ∈ ss, s.size ≤ 9223372036854775807) (hna : -9223372036854775808 ≤ n) (hnb : n ≤ 9223372036854775807) :
    Calls Tryd.prog 15 #[.slice A ss.length c, .int .i64 n] w fun e w' => e = .returned (.tuple #[.int .i64 ((cwOf ss n : Nat) : Int), .bool (cwOk ss n)]) ∧ Below w.heap.size w w' := by
  have hc := impl_IsSet A ss c w h hl hs
  cases hq : W.isSet ss
  · have hno : cwOk ss n = false := by unfold cwOk; rw [hq]; rfl
    rw [cwOf_no hno, hno]
    rw [hq] at hc
    replace hc := Lib.hid hc
    clear h hs hq hno
    go_enter Tryd.func15, Tryd.ntmps15
    go_wp2_with (go_at_call 31; refine hc.out.mono ?_; rintro e w1 ⟨rfl, hB⟩)
    go_ret2
    exact ⟨rfl, hB⟩
  · rw [hq] at hc
    replace hc := Lib.hid hc
    have h12 := W.isSet_len ss hq
    by_cases hr : 0 ≤ n ∧ n ≤ 9
    · have hok : cwOk ss n = true := by unfold cwOk; rw [hq, decide_eq_true hr]; rfl
      rw [cwOf_yes hok, hok]
      obtain ⟨m, rfl⟩ := Int.eq_ofNat_of_zero_le hr.1
      have hm9 : m ≤ 9 := by omega
      have hd1 : ¬ ((m : Int) < 0) := by omega
      have hd2 : ¬ (9 < (m : Int)) := by omega
      rw [Int.toNat_natCast]
      have hwb := Lib.hid (fun (u : World) (hB : Below w.heap.size w u) => impl_writtenByLength A ss c m u ((h.below hB).more hB.size) hq hm9)
      clear h hs hq hok hr
      go_enter Tryd.func15, Tryd.ntmps15
      go_wp2_with (go_at_call 31; refine hc.out.mono ?_; rintro e w1 ⟨rfl, hB1⟩)
      have hw1 := Lib.hid (hwb.out w1 hB1)
      have HB1 := Lib.hid hB1
      clear hB1 hwb
      go_wp2_with fail
      refine hw1.out.mono ?_
      rintro e w2 ⟨T, hT, _, A2, c2, rfl, ⟨vs, hV⟩, hB2⟩
      have HB2 := Lib.hid (HB1.out.trans (hB2.mono HB1.out.size))
      obtain ⟨Aj, cj, hv, hrj⟩ := hV.inner m _ (hT.at m (Nat.le_refl _))
      rw [strs_length] at hv
      have hown := hV.own
      rw [strss_length, hT.len] at hown
      obtain ⟨gv, rfl, hbg, hlg⟩ := own_form hown (show 0 < m + 1 by omega)
      have c3 : w2.cell? ⟨gv, m, none⟩ = some (.slice Aj (T.getD m []).length cj) := by rw [hown.cellAt _ (by omega), hv]
      have hjj : (m : Int) < (m : Int) + 1 := by omega
      have hcw := Lib.hid (cwN_eq hT)
      clear hv hrj hown hV hB2 hw1 hT
      go_wp2
      go_ret2
      refine ⟨?_, HB2.out⟩
      rw [hcw.out]
      simp
    · have hno : cwOk ss n = false := by unfold cwOk; rw [decide_eq_false hr]; simp
      rw [cwOf_no hno, hno]
      clear h hs hq hno
      by_cases h0 : n < 0
      · go_enter Tryd.func15, Tryd.ntmps15
        go_wp2_with (go_at_call 31; refine hc.out.mono ?_; rintro e w1 ⟨rfl, hB⟩)
        go_ret2
        exact ⟨rfl, hB⟩
      · have h9 : 9 < n := by omega
        go_enter Tryd.func15, Tryd.ntmps15
        go_wp2_with (go_at_call 31; refine hc.out.mono ?_; rintro e w1 ⟨rfl, hB⟩)
        go_ret2
        exact ⟨rfl, hB⟩

end Go.Proofs.YtiemoocdffobgaaDoor
