/-
  WHAT THIS FILE PROVES: first prefix sets, room, powers and maximal prefix sets: the program's exported functions give what the plain ones say; asked: slices in memory, lengths that an int holds, no more than capacities.
-/
import Derived.Test.YtampgpekhjhciaaDoorKrK
import Derived.Test.YtampgpekhjhciaaDoorImI
import Derived.Deep.RegionHeld3
namespace Go.Proofs.YtampgpekhjhciaaDoor
open Go.RowKit Go.Shelf

theorem cbOf_list {z : List Int} {L : Int} (h : cbOf z L = true) : W.krList z L = true := by
  unfold cbOf at h
  rw [Bool.and_eq_true] at h
  exact h.1
set_option maxHeartbeats 1600000 in
theorem impl_FirstPrefixCode (A : Option Addr) (z : List Int) (c : Nat) (L : Int) (w : World) (h : Row w w.heap.size A (ints z)) (hl : z.length ≤ 1099511627776) :
    Calls Tryd.prog 23 #[.slice A z.length c, .int .i64 L] w (OkStrs w (fpOf z L) (cbOf z L)) := by
  have hc := impl_CanBePrefix A z c L w h hl
  cases hcb : cbOf z L
  · rw [fpOf_no hcb]
    rw [hcb] at hc
    generalize W.krList z L = q at hc
    replace hc := Lib.hid hc
    clear h hcb
    go_enter Tryd.func23, Tryd.ntmps23
    go_wp2_with (go_at_call 21; refine hc.out.mono ?_; rintro e w1 ⟨rfl, hB⟩)
    go_ret2
    exact okStrs_nil _ _ _ hB
  · have hq := cbOf_list hcb
    rw [hcb, hq] at hc
    replace hc := Lib.hid hc
    obtain ⟨hlt, h12, hall, _⟩ := W.krList_parts hq
    obtain ⟨m, rfl, hm2, hm3⟩ := let_nat hlt
    rw [fpOf_yes hcb, Int.toNat_natCast]
    have hfit : W.shares m z ≤ m ^ 8 := of_decide_eq_true ((cbOf_yes hq).symm.trans hcb)
    have Htk := Lib.hid (fun i => show W.sharesD m (z.take i) ≤ 177147 from Nat.le_trans (W.sharesD_take_le m z i) (Nat.le_trans ((W.fit_D m hm2 hall).2 hfit) (W.wholeD_le m hm3)))
    have Hts := Lib.hid (fun i (hi : i < z.length) => W.sharesD_succ m z i hi)
    have Htd := Lib.hid (fun i (l : Int) (hl : l ≤ 8) => W.took_D m hm2 hall i l hl)
    have Hz := Lib.hid (fun i (hi : i < z.length) => W.lenAll_at hall i hi)
    replace h := Lib.hid h
    obtain ⟨i0, hi, hz0, hz1, hz2⟩ := info_parts infoStr
    have HR := Lib.hid (And.intro hi (And.intro hz0 (And.intro hz1 hz2)))
    clear hq hlt hall hcb hi hz0 hz1 hz2 hfit
    go_enter Tryd.func23, Tryd.ntmps23
    go_wp2_with (go_at_call 21; refine hc.out.mono ?_; rintro e w1 ⟨rfl, hB0⟩)
    have hB := Lib.hid hB0
    clear hB0
    go_loopw [8, 9, 26] (fun v tv iv wr => ∃ (i T : Nat), i ≤ z.length ∧ iv = .int .i64 i ∧ tv = .int .i64 T ∧ Hid (T = W.sharesD m (z.take i)) ∧ wr.ownsRow w.heap.size 9 1 v i (strs (fpTo m z i)) ∧ Below w.heap.size w wr) (fun _ _ iv _ => z.length - (intOf iv).toNat)
    case atStart => exact ⟨0, 0, Nat.zero_le _, rfl, rfl, rfl, World.ownsRow_nil _ _ _ _, hB.out⟩
    case round =>
      clear hc hB
      obtain ⟨i, T, hi, rfl, rfl, hT, ho, hBr⟩ := hrel
      have hO := Lib.hid (And.intro ho hBr)
      have hszr := hBr.size
      clear ho hBr
      by_cases hlti : i < z.length
      · obtain ⟨b, off, rfl, hb, hcc⟩ := Row.int_at h.out (by omega)
        have hlt' : (i : Int) < (z.length : Int) := by omega
        have c1 := (hO.out.2.cell (p := ⟨b, off + i, none⟩) hb).trans (hcc i hlti)
        clear hcc
        have hzi := Hz.out i hlti
        have hts := Hts.out i hlti
        have ht1 := Htk.out i
        have ht2 := Htk.out (i + 1)
        have hwa : wordAt m z i = txtB m (W.sharesD m (z.take i) / W.partD m z[i]) (z[i]).toNat := by unfold wordAt numAt took; rw [getD_at z i hlti, Htd.out i z[i] hzi.2]
        have hfs := fpTo_succ m z i
        rw [hwa] at hfs
        have hwb := fun u => impl_wordBehind T m z[i] u (Nat.le_trans (by rw [hT.out]; exact ht1) (by decide)) hm2 hm3 hzi.1 (by omega)
        have hpp := fun u => impl_partsOf m z[i] u hm3 hzi.1 (by omega)
        rw [← hT.out] at hfs hts ht1
        rw [hts] at ht2
        clear hwa
        generalize z[i] = l at *
        have hl1 := hzi.1
        have hl8 := hzi.2
        generalize txtB m (T / W.partD m l) l.toNat = s at hwb hfs
        generalize W.partD m l = p at hpp hts ht2
        have hT6 : (T : Int) ≤ 177147 := by omega
        have hTp : (T : Int) + (p : Int) ≤ 177147 := by omega
        replace hwb := Lib.hid hwb
        replace hpp := Lib.hid hpp
        replace hfs := Lib.hid hfs
        replace hts := Lib.hid hts
        go_wp2_with fail
        refine (hwb.out _).mono ?_
        rintro e w2 ⟨rfl, hB2⟩
        have hO1 := Lib.hid (And.intro (own_below hO.out.1 hB2) (hO.out.2.trans (hB2.mono hszr)))
        have hsz2 := hO1.out.2.size
        clear hB2
        go_wp2_with (at_builtin; refine wpList_append_own _ rfl _ _ 22 rfl w.heap.size 9 i0 (.string ByteArray.empty) 1 16 Tryd.underlying22 HR.out.1 HR.out.2.1 HR.out.2.2.1 HR.out.2.2.2 rfl (by decide) _ _ _ rfl (hO1.out.1.alloc _) ⟨w2.heap.size, 0, none⟩ 1 1 [.string s] rfl rfl (cell_one_new _ _ _) (one_text _) (by unfold maxLen; omega) (by omega) (by simp; omega) ?_)
        intro v' w3 hown' hgrow _
        have hO2 := Lib.hid (And.intro hown' hgrow)
        clear hown' hgrow
        go_wp2_with (go_at_call 43; refine (hpp.out _).mono ?_; rintro e w' ⟨rfl, rfl⟩)
        go_roundw
        case rel =>
          refine ⟨i + 1, T + p, by omega, by go_num, by go_num, hts.out.symm, ?_, ?_⟩
          · rw [hfs.out, strs_snoc]
            exact hO2.out.1
          · have hlt := hO1.out.1.lt
            exact (hO1.out.2.alloc hsz2 _).grown hO2.out.2 (by simp; omega) (fun g hg => (hlt g hg).1)
        case measure => simp [intOf]; omega
      · obtain rfl : i = z.length := by omega
        go_wp2
        go_ret2
        exact okStrs_of (by rw [fpTo_length]; exact hO.out.1) rfl hO.out.2
set_option maxHeartbeats 1600000 in
theorem impl_RoomLeft (A : Option Addr) (z : List Int) (c : Nat) (L n : Int) (w : World) (h : Row w w.heap.size A (ints z)) (hl : z.length ≤ 1099511627776) :
    Calls Tryd.prog 28 #[.slice A z.length c, .int .i64 L, .int .i64 n] w fun e w' => e = .returned (.tuple #[.int .i64 ((rmOf z L n : Nat) : Int), .bool (rmOk z L n)]) ∧ Below w.heap.size w w' := by
  have hc := impl_roomBeside A z c L w h hl
  have hcb := cbOf_room z L
  cases hq : W.krList z L
  · have hno : rmOk z L n = false := by unfold rmOk; rw [cbOf_no hq]; rfl
    rw [rmOf_no hno, hno]
    rw [hq] at hc
    generalize rbOf z L = r at hc
    replace hc := Lib.hid hc
    clear h hq hno hcb
    go_enter Tryd.func28, Tryd.ntmps28
    go_wp2_with (go_at_call 39; refine hc.out.mono ?_; rintro e w' ⟨rfl, n, rfl⟩)
    go_ret2
    exact ⟨rfl, below_drewN (Below.refl _ _) _⟩
  · rw [hq, Bool.true_and] at hcb
    rw [hq] at hc
    obtain ⟨hlt, h12, hall, _⟩ := W.krList_parts hq
    obtain ⟨m, rfl, hm2, hm3⟩ := let_nat hlt
    have hle := fun u => impl_isLength n u
    have hrb := rbOf_yes hq
    by_cases hn18 : 1 ≤ n ∧ n ≤ 8
    · rw [show inR 1 8 n = true from decide_eq_true hn18] at hle
      replace hle := Lib.hid hle
      by_cases hr0 : 0 ≤ rbOf z m
      · rw [decide_eq_true hr0] at hcb
        have hre : rmOk z m n = allUpTo z n := by unfold rmOk; rw [hcb, decide_eq_true hn18]; rfl
        by_cases h0 : z.length = 0
        · have hup : allUpTo z n = true := allUpTo_yes fun k hk => by omega
          have hmem : ∀ l ∈ z, 1 ≤ l ∧ l ≤ n := allUpTo_mem hq hup
          have hok := hre.trans hup
          have hfit : W.shares m z ≤ m ^ 8 := of_decide_eq_true ((cbOf_yes hq).symm.trans hcb)
          have hval := room_eq m hm2 n hn18.1 hn18.2 z hmem hfit
          rw [rmOf_yes hok, hok, Int.toNat_natCast, ← hval, W.room_D m hm2 hall n hn18.2]
          have hpp := fun u => impl_partsOf m n u hm3 hn18.1 (by omega)
          have hp0 := W.partD_pos m hm2 n
          have hS := W.wholeD_le m hm3
          have hfitD := (W.fit_D m hm2 hall).2 hfit
          rw [show rbOf z (m : Int) = ((m ^ 11 - W.sharesD m z : Nat) : Int) by rw [hrb, Int.ofNat_sub hfitD]] at hc
          have hD : m ^ 11 - W.sharesD m z ≤ 177147 := Nat.le_trans (Nat.sub_le _ _) hS
          clear hfitD
          generalize m ^ 11 - W.sharesD m z = R at hc hD ⊢
          generalize W.partD m n = p at hpp hp0 ⊢
          have hdv : wrap64 ((R : Int) / (p : Int)) = ((R / p : Nat) : Int) := div_wrap R p (Nat.le_trans hD (by decide))
          have hp1 : (0 : Int) < (p : Int) := by omega
          have hpi0 : ((p : Int) == 0) = false := beq_eq_false_iff_ne.2 (by omega)
          have hR0 : ¬ ((R : Int) < 0) := by omega
          replace hc := Lib.hid hc
          replace hpp := Lib.hid hpp
          replace hdv := Lib.hid hdv
          obtain ⟨V, hV⟩ : ∃ V, V = ((R / p : Nat) : Int) := ⟨_, rfl⟩
          rw [← hV]
          replace hV := Lib.hid hV
          obtain rfl := List.eq_nil_of_length_eq_zero h0
          clear h hq hlt hall hcb hrb hre hup hmem hok hfit hval hS h0 hr0 hn18
          go_enter Tryd.func28, Tryd.ntmps28
          go_wp2_with (first | (go_at_call 39; refine hc.out.mono ?_; rintro e w' ⟨rfl, nd, rfl⟩) | (go_at_call 46; refine (hle.out _).mono ?_; rintro e w' ⟨rfl, rfl⟩) | (go_at_call 43; refine (hpp.out _).mono ?_; rintro e w' ⟨rfl, rfl⟩))
          go_ret2
          refine ⟨?_, below_drewN (Below.refl _ _) _⟩
          have e := hdv.out.trans hV.out.symm
          rw [← e]
          first | rfl | simp
        · have hlast := allUpTo_last (n := n) hq (by omega)
          obtain ⟨b, off, rfl, hb, hcc⟩ := Row.int_at h (by omega)
          have c1 := hcc (z.length - 1) (by omega)
          have hz1 : (0 : Int) < (z.length : Int) := by omega
          have hz2 : ((z.length : Int) - 1).toNat = z.length - 1 := by omega
          have hz3 : (0 : Int) ≤ (z.length : Int) - 1 := by omega
          have hz4 : (1 : Int) ≤ (z.length : Int) := by omega
          generalize z[z.length - 1]'(by omega) = y at hlast c1
          by_cases hy : y ≤ n
          · have hup : allUpTo z n = true := hlast.trans (decide_eq_true hy)
            have hmem : ∀ l ∈ z, 1 ≤ l ∧ l ≤ n := allUpTo_mem hq hup
            have hok := hre.trans hup
            have hfit : W.shares m z ≤ m ^ 8 := of_decide_eq_true ((cbOf_yes hq).symm.trans hcb)
            have hval := room_eq m hm2 n hn18.1 hn18.2 z hmem hfit
            rw [rmOf_yes hok, hok, Int.toNat_natCast, ← hval, W.room_D m hm2 hall n hn18.2]
            have hpp := fun u => impl_partsOf m n u hm3 hn18.1 (by omega)
            have hp0 := W.partD_pos m hm2 n
            have hS := W.wholeD_le m hm3
            have hfitD := (W.fit_D m hm2 hall).2 hfit
            rw [show rbOf z (m : Int) = ((m ^ 11 - W.sharesD m z : Nat) : Int) by rw [hrb, Int.ofNat_sub hfitD]] at hc
            have hD : m ^ 11 - W.sharesD m z ≤ 177147 := Nat.le_trans (Nat.sub_le _ _) hS
            clear hfitD
            generalize m ^ 11 - W.sharesD m z = R at hc hD ⊢
            generalize W.partD m n = p at hpp hp0 ⊢
            have hdv : wrap64 ((R : Int) / (p : Int)) = ((R / p : Nat) : Int) := div_wrap R p (Nat.le_trans hD (by decide))
            have hp1 : (0 : Int) < (p : Int) := by omega
            have hpi0 : ((p : Int) == 0) = false := beq_eq_false_iff_ne.2 (by omega)
            have hR0 : ¬ ((R : Int) < 0) := by omega
            replace hc := Lib.hid hc
            replace hpp := Lib.hid hpp
            replace hdv := Lib.hid hdv
            obtain ⟨V, hV⟩ : ∃ V, V = ((R / p : Nat) : Int) := ⟨_, rfl⟩
            rw [← hV]
            replace hV := Lib.hid hV
            have hyn : ¬ n < y := by omega
            clear h hq hlt hall hcb hrb hre hup hmem hok hfit hval hS h0 hr0 hn18 hlast hy hcc
            go_enter Tryd.func28, Tryd.ntmps28
            go_wp2_with (first | (go_at_call 39; refine hc.out.mono ?_; rintro e w' ⟨rfl, nd, rfl⟩) | (go_at_call 46; refine (hle.out _).mono ?_; rintro e w' ⟨rfl, rfl⟩) | (go_at_call 43; refine (hpp.out _).mono ?_; rintro e w' ⟨rfl, rfl⟩))
            go_ret2
            refine ⟨?_, below_drewN (Below.refl _ _) _⟩
            have e := hdv.out.trans hV.out.symm
            rw [← e]
            first | rfl | simp
          · have hno : rmOk z m n = false := hre.trans (hlast.trans (decide_eq_false hy))
            rw [rmOf_no hno, hno]
            have hyn : n < y := by omega
            generalize rbOf z m = r at hc hr0
            replace hc := Lib.hid hc
            have hr1 : ¬ r < 0 := by omega
            clear h hq hlt hall hcb hrb hre h0 hr0 hn18 hlast hy hcc hno
            go_enter Tryd.func28, Tryd.ntmps28
            go_wp2_with (first | (go_at_call 39; refine hc.out.mono ?_; rintro e w' ⟨rfl, nd, rfl⟩) | (go_at_call 46; refine (hle.out _).mono ?_; rintro e w' ⟨rfl, rfl⟩))
            go_ret2
            exact ⟨rfl, below_drewN (Below.refl _ _) _⟩
      · rw [decide_eq_false hr0] at hcb
        have hno : rmOk z m n = false := by unfold rmOk; rw [hcb]; rfl
        rw [rmOf_no hno, hno]
        generalize rbOf z m = r at hc hr0
        replace hc := Lib.hid hc
        have hr1 : r < 0 := by omega
        clear h hq hlt hall hcb hrb hr0 hn18 hno
        go_enter Tryd.func28, Tryd.ntmps28
        go_wp2_with (first | (go_at_call 39; refine hc.out.mono ?_; rintro e w' ⟨rfl, nd, rfl⟩) | (go_at_call 46; refine (hle.out _).mono ?_; rintro e w' ⟨rfl, rfl⟩))
        go_ret2
        exact ⟨rfl, below_drewN (Below.refl _ _) _⟩
    · rw [show inR 1 8 n = false from decide_eq_false hn18] at hle
      replace hle := Lib.hid hle
      have hno : rmOk z m n = false := by unfold rmOk; rw [decide_eq_false hn18]; simp
      rw [rmOf_no hno, hno]
      generalize rbOf z m = r at hc
      replace hc := Lib.hid hc
      clear h hq hlt hall hcb hrb hn18 hno
      go_enter Tryd.func28, Tryd.ntmps28
      go_wp2_with (first | (go_at_call 39; refine hc.out.mono ?_; rintro e w' ⟨rfl, nd, rfl⟩) | (go_at_call 46; refine (hle.out _).mono ?_; rintro e w' ⟨rfl, rfl⟩))
      go_ret2
      exact ⟨rfl, below_drewN (Below.refl _ _) _⟩
set_option maxHeartbeats 1600000 in
theorem impl_SumsOfPowers (A : Option Addr) (ss : List ByteArray) (c : Nat) (L K : Int) (w : World) (h : Row w w.heap.size A (strs ss)) (hcap : ss.length ≤ c) (hl : ss.length ≤ 9223372036854775807) (hs : ∀ s ∈ ss, s.size ≤ 9223372036854775807) :
    Calls Tryd.prog 30 #[.slice A ss.length c, .int .i64 L, .int .i64 K] w fun e w' => e = .returned (.tuple #[ratV ((spOf ss L K).1 : Nat) ((spOf ss L K).2 : Nat), .bool (spOk ss L K)]) ∧ Below w.heap.size w w' := by
  have hB := Lib.hid (resW_below w)
  have hc := impl_KraftSum A ss c L (resW w) ((h.below hB.out).more hB.out.size) hcap hl hs
  cases hq : W.krSet ss L
  · have hno : spOk ss L K = false := by unfold spOk; rw [hq]; rfl
    rw [spOf_no hno, hno]
    rw [hq, ksOf_no hq] at hc
    replace hc := Lib.hid hc
    clear h hs hq hno
    go_enter Tryd.func30, Tryd.ntmps30
    go_wp2_with fail
    refine hc.out.mono ?_
    rintro e w1 ⟨rfl, hB1⟩
    obtain ⟨c0, c1, f0, f1⟩ := res_cells hB1
    have hz := hB1.size
    have hz1 : w.heap.size < w1.heap.size := by simp at hz; omega
    have hB2 := Lib.hid (hB.out.trans (hB1.mono hB.out.size))
    clear hB1 hz
    go_wp2
    exact bodyPost_ret (v := .tuple #[ratV 0 0, .bool false]) (by simp [results, Tryd.results30, go_sem, c0, c1, hz1]) rfl ⟨rfl, ((hB2.out.setCell (Nat.le_refl _) _).setCell (Nat.le_refl _) _).alloc (by simp; omega) _⟩
  · rw [hq, ksOf_yes hq] at hc
    have hset := W.krSet_set hq
    have h12 := W.isSet_len ss hset
    obtain ⟨m, rfl, hm2, hm3⟩ := let_nat (W.krSet_let hq)
    rw [Int.toNat_natCast] at hc
    have hsm := sum_small hm2 hm3 (by rw [lens_len]; exact h12) (lens_all hset)
    by_cases hk : 0 ≤ K ∧ K ≤ 4
    · have hyes : spOk ss m K = true := by unfold spOk; rw [hq, decide_eq_true hk]; rfl
      rw [spOf_yes hyes, hyes]
      obtain ⟨n, rfl⟩ := Int.eq_ofNat_of_zero_le hk.1
      have hn4 : n ≤ 4 := by omega
      have hd1 : ¬ ((n : Int) < 0) := by omega
      have hd2 : ¬ (4 < (n : Int)) := by omega
      rw [Int.toNat_natCast, Int.toNat_natCast]
      generalize W.krSum m (W.lens ss) = pq at hc hsm ⊢
      obtain ⟨p, q⟩ := pq
      have hp1 := fun u => impl_power p n u (fun j hj => pow_26 (x := p) hsm.1 (by omega)) (by omega)
      have hp2 := fun u => impl_power q n u (fun j hj => pow_26 (x := q) (by have := hsm.2.1; omega) (by omega)) (by omega)
      unfold W.powR
      rw [show ((p, q) : Nat × Nat).1 = p from rfl, show ((p, q) : Nat × Nat).2 = q from rfl]
      generalize p ^ n = P at hp1 ⊢
      generalize q ^ n = Q at hp2 ⊢
      replace hc := Lib.hid hc
      replace hp1 := Lib.hid hp1
      replace hp2 := Lib.hid hp2
      clear h hs hq hset hsm hk hyes
      go_enter Tryd.func30, Tryd.ntmps30
      go_wp2_with fail
      refine hc.out.mono ?_
      rintro e w1 ⟨rfl, hB1⟩
      obtain ⟨c0, c1, f0, f1⟩ := res_cells hB1
      have hz := hB1.size
      have hz1 : w.heap.size < w1.heap.size := by simp at hz; omega
      have hB2 := Lib.hid (hB.out.trans (hB1.mono hB.out.size))
      clear hB1 hz
      go_wp2
      obtain ⟨V, hV⟩ : ∃ V, V = w1.alloc (.cells #[.int .i64 p, .int .i64 q] 25) := ⟨_, rfl⟩
      have hBV := (Below.refl w1.heap.size w1).alloc (Nat.le_refl _) (.cells #[.int .i64 p, .int .i64 q] 25)
      have d0 : V.cell? ⟨w1.heap.size, 0, none⟩ = some (.int .i64 p) := by rw [hV, World.cell?_alloc_at _ _ _ _ rfl]; rfl
      have d1 : V.cell? ⟨w1.heap.size, 1, none⟩ = some (.int .i64 q) := by rw [hV, World.cell?_alloc_at _ _ _ _ rfl]; rfl
      rw [← hV] at hBV ⊢
      have e0 := (hBV.cell (p := ⟨w.heap.size, 0, none⟩) hz1).trans c0
      have e1 := (hBV.cell (p := ⟨w.heap.size, 1, none⟩) hz1).trans c1
      have g0 := (hBV.frozen (p := ⟨w.heap.size, 0, none⟩) hz1).trans f0
      have g1 := (hBV.frozen (p := ⟨w.heap.size, 1, none⟩) hz1).trans f1
      have hB3 := Lib.hid (hB2.out.trans (hBV.mono hB2.out.size))
      have hne : ¬ w.heap.size = w1.heap.size := by omega
      have hne2 : ¬ w1.heap.size = w.heap.size := by omega
      clear hBV hV c0 c1 f0 f1
      go_region_held3 (fun w' => w'.cell? ⟨w1.heap.size, 0, none⟩ = some (.int .i64 p) ∧ w'.cell? ⟨w1.heap.size, 1, none⟩ = some (.int .i64 q)) (go_keep) (first | (go_at_call_of 48 (Value.int IntKind.i64 (p : Int)); refine (hp1.out _).mono ?_; rintro e w' ⟨rfl, rfl⟩) | (go_at_call_of 48 (Value.int IntKind.i64 (q : Int)); refine (hp2.out _).mono ?_; rintro e w' ⟨rfl, rfl⟩))
      all_goals
        go_wp2
        exact bodyPost_ret (v := .tuple #[ratV P Q, .bool true]) (by simp [results, Tryd.results30, go_sem, e0, e1]) rfl ⟨rfl, ((hB3.out.setCell (Nat.le_refl _) _).setCell (Nat.le_refl _) _).drew⟩
    · have hno : spOk ss m K = false := by unfold spOk; rw [decide_eq_false hk]; simp
      rw [spOf_no hno, hno]
      generalize W.krSum m (W.lens ss) = pq at hc
      obtain ⟨p, q⟩ := pq
      replace hc := Lib.hid hc
      by_cases h0 : K < 0
      · clear h hs hq hset hsm hk hno
        go_enter Tryd.func30, Tryd.ntmps30
        go_wp2_with fail
        refine hc.out.mono ?_
        rintro e w1 ⟨rfl, hB1⟩
        obtain ⟨c0, c1, f0, f1⟩ := res_cells hB1
        have hz := hB1.size
        have hz1 : w.heap.size < w1.heap.size := by simp at hz; omega
        have hB2 := Lib.hid (hB.out.trans (hB1.mono hB.out.size))
        clear hB1 hz
        go_wp2
        exact bodyPost_ret (v := .tuple #[ratV 0 0, .bool false]) (by simp [results, Tryd.results30, go_sem, c0, c1, hz1]) rfl ⟨rfl, ((hB2.out.setCell (Nat.le_refl _) _).setCell (Nat.le_refl _) _).alloc (by simp; omega) _⟩
      · have h4 : 4 < K := by omega
        clear h hs hq hset hsm hk hno
        go_enter Tryd.func30, Tryd.ntmps30
        go_wp2_with fail
        refine hc.out.mono ?_
        rintro e w1 ⟨rfl, hB1⟩
        obtain ⟨c0, c1, f0, f1⟩ := res_cells hB1
        have hz := hB1.size
        have hz1 : w.heap.size < w1.heap.size := by simp at hz; omega
        have hB2 := Lib.hid (hB.out.trans (hB1.mono hB.out.size))
        clear hB1 hz
        go_wp2
        exact bodyPost_ret (v := .tuple #[ratV 0 0, .bool false]) (by simp [results, Tryd.results30, go_sem, c0, c1, hz1]) rfl ⟨rfl, ((hB2.out.setCell (Nat.le_refl _) _).setCell (Nat.le_refl _) _).alloc (by simp; omega) _⟩
end Go.Proofs.YtampgpekhjhciaaDoor
