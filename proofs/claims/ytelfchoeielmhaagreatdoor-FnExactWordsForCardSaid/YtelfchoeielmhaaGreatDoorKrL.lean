/-
  WHAT THIS FILE PROVES: first prefix sets, room, powers and maximal prefix sets: the program's exported functions give what the plain ones say; asked: slices in memory, lengths that an int holds, no more than capacities.
-/
import Derived.Test.YtelfchoeielmhaaGreatDoorKrK
import Derived.Test.YtelfchoeielmhaaGreatDoorImI
import Derived.Deep.RegionHeld3
namespace Go.Proofs.YtelfchoeielmhaaGreatDoor
open Go.RowKit Go.Shelf

theorem cbOf_list {z : List Int} {L : Int} (h : cbOf z L = true) : W.krList z L = true := by
  unfold cbOf at h
  rw [Bool.and_eq_true] at h
  exact h.1
set_option maxHeartbeats 1600000 in
theorem impl_FirstPrefixCode (A : Option Addr) (z : List Int) (c : Nat) (L : Int) (w : World) (h : Row w w.heap.size A (ints z)) (hl : z.length ≤ 1099511627776) :
    Calls Tryz.prog 21 #[.slice A z.length c, .int .i64 L] w (OkStrs w (fpOf z L) (cbOf z L)) := by
  have hc := impl_CanBePrefix A z c L w h hl
  cases hcb : cbOf z L
  · rw [fpOf_no hcb]
    rw [hcb] at hc
    generalize W.krList z L = q at hc
    replace hc := Lib.hid hc
    clear h hcb
    go_enter Tryz.func21, Tryz.ntmps21
    go_wp2_with (go_at_call 34; refine hc.out.mono ?_; rintro e w1 ⟨rfl, hB⟩)
    go_ret2
    exact okStrs_nil _ _ _ hB
  · have hq := cbOf_list hcb
    rw [hcb, hq] at hc
    replace hc := Lib.hid hc
    obtain ⟨hlt, h12, hall, _⟩ := W.krList_parts hq
    obtain ⟨m, rfl, hm2, hm3⟩ := let_nat hlt
    rw [fpOf_yes hcb, Int.toNat_natCast]
    have hfit : W.shares m z ≤ m ^ 8 := of_decide_eq_true ((cbOf_yes hq).symm.trans hcb)
    have Htk := Lib.hid (fun i => show W.sharesD m (z.take i) ≤ 177147 from Nat.le_trans (W.sharesD_take_le m z i) (Nat.le_trans ((W.fit_D m hm2 hall).2 hfit) (W.wholeD_le m hm3)))
    have Hts := Lib.hid (fun i (hi : i < z.length) => W.sharesD_succ m z i hi)
    have Htd := Lib.hid (fun i (l : Int) (hl : l ≤ 8) => W.took_D m hm2 hall i l hl)
    have Hz := Lib.hid (fun i (hi : i < z.length) => W.lenAll_at hall i hi)
    replace h := Lib.hid h
    obtain ⟨i0, hi, hz0, hz1, hz2⟩ := info_parts infoStr
    have HR := Lib.hid (And.intro hi (And.intro hz0 (And.intro hz1 hz2)))
    clear hq hlt hall hcb hi hz0 hz1 hz2 hfit
    go_enter Tryz.func21, Tryz.ntmps21
    go_wp2_with (go_at_call 34; refine hc.out.mono ?_; rintro e w1 ⟨rfl, hB0⟩)
    have hB := Lib.hid hB0
    clear hB0
    go_loopw [8, 9, 26] (fun v tv iv wr => ∃ (i T : Nat), i ≤ z.length ∧ iv = .int .i64 i ∧ tv = .int .i64 T ∧ Hid (T = W.sharesD m (z.take i)) ∧ wr.ownsRow w.heap.size 9 1 v i (strs (fpTo m z i)) ∧ Below w.heap.size w wr) (fun _ _ iv _ => z.length - (intOf iv).toNat)
    case atStart => exact ⟨0, 0, Nat.zero_le _, rfl, rfl, rfl, World.ownsRow_nil _ _ _ _, hB.out⟩
    case round =>
      clear hc hB
      obtain ⟨i, T, hi, rfl, rfl, hT, ho, hBr⟩ := hrel
      have hO := Lib.hid (And.intro ho hBr)
      have hszr := hBr.size
      clear ho hBr
      by_cases hlti : i < z.length
      · obtain ⟨b, off, rfl, hb, hcc⟩ := Row.int_at h.out (by omega)
        have hlt' : (i : Int) < (z.length : Int) := by omega
        have c1 := (hO.out.2.cell (p := ⟨b, off + i, none⟩) hb).trans (hcc i hlti)
        clear hcc
        have hzi := Hz.out i hlti
        have hts := Hts.out i hlti
        have ht1 := Htk.out i
        have ht2 := Htk.out (i + 1)
        have hwa : wordAt m z i = txtB m (W.sharesD m (z.take i) / W.partD m z[i]) (z[i]).toNat := by unfold wordAt numAt took; rw [getD_at z i hlti, Htd.out i z[i] hzi.2]
        have hfs := fpTo_succ m z i
        rw [hwa] at hfs
        have hwb := fun u => impl_wordBehind T m z[i] u (Nat.le_trans (by rw [hT.out]; exact ht1) (by decide)) hm2 hm3 hzi.1 (by omega)
        have hpp := fun u => impl_partsOf m z[i] u hm3 hzi.1 (by omega)
        rw [← hT.out] at hfs hts ht1
        rw [hts] at ht2
        clear hwa
        generalize z[i] = l at *
        have hl1 := hzi.1
        have hl8 := hzi.2
        generalize txtB m (T / W.partD m l) l.toNat = s at hwb hfs
        generalize W.partD m l = p at hpp hts ht2
        have hT6 : (T : Int) ≤ 177147 := by omega
        have hTp : (T : Int) + (p : Int) ≤ 177147 := by omega
        replace hwb := Lib.hid hwb
        replace hpp := Lib.hid hpp
        replace hfs := Lib.hid hfs
        replace hts := Lib.hid hts
        go_wp2_with fail
        refine (hwb.out _).mono ?_
        rintro e w2 ⟨rfl, hB2⟩
        have hO1 := Lib.hid (And.intro (own_below hO.out.1 hB2) (hO.out.2.trans (hB2.mono hszr)))
        have hsz2 := hO1.out.2.size
        clear hB2
        go_wp2_with (at_builtin; refine wpList_append_own _ rfl _ _ 23 rfl w.heap.size 9 i0 (.string ByteArray.empty) 1 16 Tryz.underlying23 HR.out.1 HR.out.2.1 HR.out.2.2.1 HR.out.2.2.2 rfl (by decide) _ _ _ rfl (hO1.out.1.alloc _) ⟨w2.heap.size, 0, none⟩ 1 1 [.string s] rfl rfl (cell_one_new _ _ _) (one_text _) (by unfold maxLen; omega) (by omega) (by simp; omega) ?_)
        intro v' w3 hown' hgrow _
        have hO2 := Lib.hid (And.intro hown' hgrow)
        clear hown' hgrow
        go_wp2_with (go_at_call 36; refine (hpp.out _).mono ?_; rintro e w' ⟨rfl, rfl⟩)
        go_roundw
        case rel =>
          refine ⟨i + 1, T + p, by omega, by go_num, by go_num, hts.out.symm, ?_, ?_⟩
          · rw [hfs.out, strs_snoc]
            exact hO2.out.1
          · have hlt := hO1.out.1.lt
            exact (hO1.out.2.alloc hsz2 _).grown hO2.out.2 (by simp; omega) (fun g hg => (hlt g hg).1)
        case measure => simp [intOf]; omega
      · obtain rfl : i = z.length := by omega
        go_wp2
        go_ret2
        exact okStrs_of (by rw [fpTo_length]; exact hO.out.1) rfl hO.out.2
end Go.Proofs.YtelfchoeielmhaaGreatDoor
