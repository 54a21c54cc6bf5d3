/-
  WHAT THIS FILE PROVES: states, and where words lead from them, of a complete prefix set: the program's functions tell the plain values; asked: a slice of texts in memory, lengths that an int holds.
-/
import Derived.Test.YtgnehobhbioehaaGreatDoorStpG
import Derived.Test.YtgnehobhbioehaaGreatDoorStpV
namespace Go.Proofs.YtgnehobhbioehaaGreatDoor
open Go.RowKit Go.Shelf

theorem gvOk_no {ss : List ByteArray} {s : ByteArray} (h : gvOk ss s = false) : stOk ss = false ∨ (stOk ss = true ∧ (W.good s.data.toList = false ∨ (W.good s.data.toList = true ∧ W.krWd (ltrs ss : Nat) s.data.toList = false))) := by
  unfold gvOk at h
  cases h1 : stOk ss
  · exact .inl rfl
  · rw [h1] at h
    cases h2 : W.good s.data.toList
    · exact .inr ⟨rfl, .inl rfl⟩
    · rw [h2] at h
      exact .inr ⟨rfl, .inr ⟨rfl, by simpa using h⟩⟩
theorem abc_slice (L : Nat) : (⟨#[97, 98, 99]⟩ : ByteArray).extract 0 L = abcTo L := rfl
set_option maxHeartbeats 1600000 in
theorem readerFor_no (A : Option Addr) (ss : List ByteArray) (c : Nat) (s : ByteArray) (w : World) (h : Row w w.heap.size A (strs ss)) (hcap : ss.length ≤ c) (hl : ss.length ≤ 9223372036854775807) (hs : ∀ s ∈ ss, s.size ≤ 9223372036854775807) (hs2 : s.size ≤ 9223372036854775807) (hno : gvOk ss s = false) :
    Calls Tryz.prog 30 #[.slice A ss.length c, .string s] w fun e w' => e = .returned (.tuple #[.nilIface, .bool false]) ∧ Below w.heap.size w w' := by
  rcases gvOk_no hno with h1 | ⟨h1, h2⟩
  · have hr := Lib.hid (readerOf_no A ss c w h hcap hl hs h1)
    clear h hs hno h1
    go_enter Tryz.func30, Tryz.ntmps30
    go_wp2_with fail
    refine hr.out.mono ?_
    rintro e w1 ⟨rfl, hB⟩
    go_wp2_with fail
    go_ret2
    exact ⟨rfl, hB⟩
  · have hr := Lib.hid (readerOf_yes A ss c w h hcap hl hs h1)
    have hw := Lib.hid (fun u => impl_IsWord s u hs2)
    obtain ⟨hn0, hn11⟩ := st_bounds h1
    rcases h2 with h2 | ⟨h2, h3⟩
    · rw [h2] at hw
      clear h hs hno h1 h2
      go_enter Tryz.func30, Tryz.ntmps30
      go_wp2_with fail
      refine hr.out.mono ?_
      rintro e w1 ⟨A1, c1, A2, c2, rfl, ho, hT, hB⟩
      have HB := Lib.hid hB
      clear ho hT hB
      go_wp2_with fail
      refine (hw.out _).mono ?_
      rintro e w2 ⟨rfl, hB2⟩
      have HB2 := Lib.hid (HB.out.trans (hB2.mono HB.out.size))
      clear hB2
      go_wp2_with fail
      go_ret2
      exact ⟨rfl, HB2.out⟩
    · rw [h2] at hw
      have hL : 2 ≤ ltrs ss ∧ ltrs ss ≤ 3 := by rcases ltrs_two ss with e | e <;> omega
      have hL1 := hL.1
      have hL2 := hL.2
      have htr := Lib.hid (fun u => trim_call s (ltrs ss) u hL1 hL2 hs2)
      have hte := trim_letters (ltrs ss) hL1 hL2 s.data.toList
      rw [h3] at hte
      have Hlt := Lib.hid (fun (A1 : Option Addr) (c1 : Nat) (A2 : Option Addr) (c2 : Nat) (u : World) (g : RowTab u u.heap.size A2 ss) => rd_letters A1 ss c1 A2 c2 u g hn0)
      have hmt := fun (A1 : Option Addr) (c1 : Nat) (A2 : Option Addr) (c2 : Nat) => method_letters (.agg #[.slice A1 (inB ss).length c1, .slice A2 (inB ss).length c2])
      have hsl := abc_slice (ltrs ss)
      generalize Lib.trimS s.data.toList (abcTo (ltrs ss)).data.toList = T at htr hte
      have hne : ((⟨T.toArray⟩ : ByteArray).toList == []) = false := by
        rw [Lib.toList_data]
        cases T with
        | nil => cases hte
        | cons a r => rfl
      generalize (⟨T.toArray⟩ : ByteArray) = TT at htr hne
      generalize abcTo (ltrs ss) = ab at htr hsl
      generalize ltrs ss = L at *
      have hL3 : (L : Int) ≤ 3 := by omega
      have hL0 : (0 : Int) ≤ (L : Int) := by omega
      clear h hs hno h1 h2 h3 hte hL
      go_enter Tryz.func30, Tryz.ntmps30
      go_wp2_with fail
      refine hr.out.mono ?_
      rintro e w1 ⟨A1, c1, A2, c2, rfl, ho, hT, hB⟩
      have HB := Lib.hid hB
      have HT := Lib.hid hT
      clear ho hT hB
      go_wp2_with fail
      refine (hw.out _).mono ?_
      rintro e w2 ⟨rfl, hB2⟩
      have HB2 := Lib.hid (HB.out.trans (hB2.mono HB.out.size))
      have hlt1 := Lib.hid (Hlt.out A1 c1 A2 c2 w2 ((HT.out.below hB2).more hB2.size))
      have hmt1 := hmt A1 c1 A2 c2
      clear hB2
      go_wp2_with fail
      refine hlt1.out.mono ?_
      rintro e w3 ⟨rfl, hB3⟩
      have HB3 := Lib.hid (HB2.out.trans (hB3.mono HB2.out.size))
      clear hB3
      go_wp2_with fail
      refine (htr.out _).mono ?_
      rintro e w4 ⟨rfl, hB4⟩
      have HB4 := Lib.hid (HB3.out.trans (hB4.mono HB3.out.size))
      clear hB4
      go_wp2_with fail
      go_ret2
      exact ⟨rfl, HB4.out⟩
set_option maxHeartbeats 1600000 in
theorem readerFor_yes (A : Option Addr) (ss : List ByteArray) (c : Nat) (s : ByteArray) (w : World) (h : Row w w.heap.size A (strs ss)) (hcap : ss.length ≤ c) (hl : ss.length ≤ 9223372036854775807) (hs : ∀ s ∈ ss, s.size ≤ 9223372036854775807) (hs2 : s.size ≤ 9223372036854775807) (hyes : gvOk ss s = true) :
    Calls Tryz.prog 30 #[.slice A ss.length c, .string s] w (GivesRd w ss) := by
  have h1 : stOk ss = true := (gvOk_parts hyes).1
  have h3 := (gvOk_parts hyes).2.2
  have h2 : W.good s.data.toList = true := by
    unfold gvOk at hyes
    simp only [Bool.and_eq_true] at hyes
    exact hyes.2.1
  have hr := Lib.hid (readerOf_yes A ss c w h hcap hl hs h1)
  have hw := Lib.hid (fun u => impl_IsWord s u hs2)
  obtain ⟨hn0, hn11⟩ := st_bounds h1
  rw [h2] at hw
  have hL : 2 ≤ ltrs ss ∧ ltrs ss ≤ 3 := by rcases ltrs_two ss with e | e <;> omega
  have hL1 := hL.1
  have hL2 := hL.2
  have htr := Lib.hid (fun u => trim_call s (ltrs ss) u hL1 hL2 hs2)
  have hte := trim_letters (ltrs ss) hL1 hL2 s.data.toList
  rw [h3] at hte
  have Hlt := Lib.hid (fun (A1 : Option Addr) (c1 : Nat) (A2 : Option Addr) (c2 : Nat) (u : World) (g : RowTab u u.heap.size A2 ss) => rd_letters A1 ss c1 A2 c2 u g hn0)
  have hmt := fun (A1 : Option Addr) (c1 : Nat) (A2 : Option Addr) (c2 : Nat) => method_letters (.agg #[.slice A1 (inB ss).length c1, .slice A2 (inB ss).length c2])
  have hsl := abc_slice (ltrs ss)
  generalize Lib.trimS s.data.toList (abcTo (ltrs ss)).data.toList = T at htr hte
  have hne : ((⟨T.toArray⟩ : ByteArray).toList == []) = true := by
    rw [Lib.toList_data]
    cases T with
    | nil => rfl
    | cons a r => cases hte
  generalize (⟨T.toArray⟩ : ByteArray) = TT at htr hne
  generalize abcTo (ltrs ss) = ab at htr hsl
  generalize ltrs ss = L at *
  have hL3 : (L : Int) ≤ 3 := by omega
  have hL0 : (0 : Int) ≤ (L : Int) := by omega
  clear h hs hyes h1 h2 h3 hte hL
  go_enter Tryz.func30, Tryz.ntmps30
  go_wp2_with fail
  refine hr.out.mono ?_
  rintro e w1 ⟨A1, c1, A2, c2, rfl, ho, hT, hB⟩
  have HB := Lib.hid hB
  have HT := Lib.hid hT
  have HO := Lib.hid ho
  clear ho hT hB
  go_wp2_with fail
  refine (hw.out _).mono ?_
  rintro e w2 ⟨rfl, hB2⟩
  have HB2 := Lib.hid (HB.out.trans (hB2.mono HB.out.size))
  have HT2 := Lib.hid ((HT.out.below hB2).more hB2.size)
  have HO2 := Lib.hid (own_below HO.out hB2)
  have hlt1 := Lib.hid (Hlt.out A1 c1 A2 c2 w2 HT2.out)
  have hmt1 := hmt A1 c1 A2 c2
  clear hB2
  go_wp2_with fail
  refine hlt1.out.mono ?_
  rintro e w3 ⟨rfl, hB3⟩
  have HB3 := Lib.hid (HB2.out.trans (hB3.mono HB2.out.size))
  have HT3 := Lib.hid ((HT2.out.below hB3).more hB3.size)
  have HO3 := Lib.hid (own_below HO2.out hB3)
  clear hB3
  go_wp2_with fail
  refine (htr.out _).mono ?_
  rintro e w4 ⟨rfl, hB4⟩
  have HB4 := Lib.hid (HB3.out.trans (hB4.mono HB3.out.size))
  have HT4 := Lib.hid ((HT3.out.below hB4).more hB4.size)
  have HO4 := Lib.hid (own_below HO3.out hB4)
  clear hB4
  go_wp2_with fail
  go_ret2
  exact ⟨A1, c1, A2, c2, rfl, HO4.out, HT4.out, HB4.out⟩
theorem impl_StatesOf (A : Option Addr) (ss : List ByteArray) (c : Nat) (w : World) (h : Row w w.heap.size A (strs ss)) (hcap : ss.length ≤ c) (hl : ss.length ≤ 9223372036854775807) (hs : ∀ s ∈ ss, s.size ≤ 9223372036854775807) :
    Calls Tryz.prog 10 #[.slice A ss.length c] w (OkStrs w (soOf ss) (stOk ss)) := by
  cases hq : stOk ss
  · rw [soOf_no hq]
    have hr := Lib.hid (readerOf_no A ss c w h hcap hl hs hq)
    clear h hs hq
    go_enter Tryz.func10, Tryz.ntmps10
    go_wp2_with fail
    refine hr.out.mono ?_
    rintro e w1 ⟨rfl, hB⟩
    go_wp2_with fail
    go_ret2
    exact okStrs_nil _ _ _ hB
  · rw [soOf_yes hq]
    have hr := Lib.hid (readerOf_yes A ss c w h hcap hl hs hq)
    clear h hs hq
    go_enter Tryz.func10, Tryz.ntmps10
    go_wp2_with fail
    refine hr.out.mono ?_
    rintro e w1 ⟨A1, c1, A2, c2, rfl, ho, hT, hB⟩
    have hmt := method_states (.agg #[.slice A1 (inB ss).length c1, .slice A2 (inB ss).length c2])
    have hs1 := Lib.hid (rd_states A1 (inB ss).length c1 A2 c2 w1)
    have HO := Lib.hid (And.intro ho hB)
    clear ho hT hB
    go_wp2_with fail
    refine hs1.out.mono ?_
    rintro e w2 ⟨rfl, hB2⟩
    have HO2 := Lib.hid (And.intro (own_below HO.out.1 hB2) (HO.out.2.trans (hB2.mono HO.out.2.size)))
    clear hB2
    go_wp2_with fail
    go_ret2
    exact okStrs_of HO2.out.1 rfl HO2.out.2
theorem mems_same {n g : Nat} (hn : n ≤ 12) (hg : g < 2 ^ n) : mems 12 g = mems n g := by
  have := mems_more hg (12 - n)
  rwa [show n + (12 - n) = 12 by omega] at this
set_option maxHeartbeats 1600000 in
theorem impl_StatesBehind (A : Option Addr) (ss : List ByteArray) (c : Nat) (s : ByteArray) (w : World) (h : Row w w.heap.size A (strs ss)) (hcap : ss.length ≤ c) (hl : ss.length ≤ 9223372036854775807) (hs : ∀ s ∈ ss, s.size ≤ 9223372036854775807) (hs2 : s.size ≤ 9223372036854775807) :
    Calls Tryz.prog 19 #[.slice A ss.length c, .string s] w (OkInts w (sbOf ss s) (gvOk ss s)) := by
  cases hq : gvOk ss s
  · rw [sbOf_no hq]
    have hr := Lib.hid (readerFor_no A ss c s w h hcap hl hs hs2 hq)
    clear h hs hq
    go_enter Tryz.func19, Tryz.ntmps19
    go_wp2_with fail
    refine hr.out.mono ?_
    rintro e w1 ⟨rfl, hB⟩
    go_wp2_with fail
    go_ret2
    exact okInts_nil _ _ _ hB
  · rw [sbOf_yes hq]
    have hr := Lib.hid (readerFor_yes A ss c s w h hcap hl hs hs2 hq)
    obtain ⟨hst, h60, hkd⟩ := gvOk_parts hq
    obtain ⟨hn0, hn11⟩ := st_bounds hst
    have hp : 2 ^ (inB ss).length ≤ 2048 := Nat.pow_le_pow_right (n := 2) (by omega) hn11
    have hp1 : 0 < 2 ^ (inB ss).length := Nat.two_pow_pos _
    have Hall := Lib.hid (fun (A1 : Option Addr) (c1 : Nat) (A2 : Option Addr) (c2 : Nat) (u : World) => impl_allStates A1 (inB ss).length c1 A2 c2 u hn11)
    have Haw := Lib.hid (fun (A1 : Option Addr) (c1 : Nat) (A2 : Option Addr) (c2 : Nat) (u : World) (g : RowTab u u.heap.size A2 ss) => impl_afterWord A1 ss c1 A2 c2 (2 ^ (inB ss).length - 1) s u g hn0 hn11 (by omega) hkd h60)
    rw [grp_all (tr_lt2 hn0)] at Haw
    have hb := beh_lt (T := tr ss) (n := (inB ss).length) (tr_lt2 hn0) s.data.toList
    have hmm := mems_same (show (inB ss).length ≤ 12 by omega) hb
    rw [show (mems (inB ss).length (beh (tr ss) (inB ss).length s.data.toList)).map (fun (j : Nat) => (j : Int)) = intsN (mems 12 (beh (tr ss) (inB ss).length s.data.toList)) from by rw [hmm]; rfl]
    generalize beh (tr ss) (inB ss).length s.data.toList = g at Haw hb ⊢
    have Hme := Lib.hid (fun u => impl_members g u (by omega))
    generalize intsN (mems 12 g) = R at Hme ⊢
    generalize 2 ^ (inB ss).length - 1 = al at Hall Haw
    clear h hs hq hkd hst hb hmm hp hp1
    go_enter Tryz.func19, Tryz.ntmps19
    go_wp2_with fail
    refine hr.out.mono ?_
    rintro e w1 ⟨A1, c1, A2, c2, rfl, ho, hT, hB⟩
    have HB := Lib.hid hB
    have HT := Lib.hid hT
    have ha1 := Lib.hid (Hall.out A1 c1 A2 c2 w1)
    clear ho hT hB
    go_wp2_with fail
    refine ha1.out.mono ?_
    rintro e w2 ⟨rfl, hB2⟩
    have HB2 := Lib.hid (HB.out.trans (hB2.mono HB.out.size))
    have hw1 := Lib.hid (Haw.out A1 c1 A2 c2 w2 ((HT.out.below hB2).more hB2.size))
    clear hB2
    go_wp2_with fail
    refine hw1.out.mono ?_
    rintro e w3 ⟨rfl, hB3⟩
    have HB3 := Lib.hid (HB2.out.trans (hB3.mono HB2.out.size))
    have hm1 := Lib.hid (Hme.out w3)
    clear hB3
    go_wp2_with fail
    refine hm1.out.mono ?_
    rintro e w4 ⟨A4, c4, rfl, ho4, hB4⟩
    go_wp2_with fail
    go_ret2
    exact okInts_of (own_base ho4 HB3.out.size) rfl (HB3.out.trans (hB4.mono HB3.out.size))
theorem impl_IsStepWord (A : Option Addr) (ss : List ByteArray) (c : Nat) (s : ByteArray) (w : World) (h : Row w w.heap.size A (strs ss)) (hcap : ss.length ≤ c) (hl : ss.length ≤ 9223372036854775807) (hs : ∀ s ∈ ss, s.size ≤ 9223372036854775807) (hs2 : s.size ≤ 9223372036854775807) :
    Calls Tryz.prog 17 #[.slice A ss.length c, .string s] w fun e w' => e = .returned (.tuple #[.bool (isOf ss s), .bool (gvOk ss s)]) ∧ Below w.heap.size w w' := by
  have hc := impl_StatesBehind A ss c s w h hcap hl hs hs2
  have hr : isOf ss s = decide ((sbOf ss s).length = 1) := by
    cases hq : gvOk ss s
    · rw [isOf_no hq, sbOf_no hq]; rfl
    · rw [isOf_yes hq, sbOf_yes hq, List.length_map]
      obtain ⟨hst, _, _⟩ := gvOk_parts hq
      obtain ⟨hn0, hn11⟩ := st_bounds hst
      have hb := beh_lt (T := tr ss) (n := (inB ss).length) (tr_lt2 hn0) s.data.toList
      have hb2 : beh (tr ss) (inB ss).length s.data.toList < 4096 := Nat.lt_of_lt_of_le hb (Nat.pow_le_pow_right (n := 2) (by omega) (show (inB ss).length ≤ 12 by omega))
      rw [← mems_same (show (inB ss).length ≤ 12 by omega) hb, one_mems _ hb2]
  rw [hr]
  have e1 : ∀ n : Nat, ((n : Int) == 1) = decide (n = 1) := fun n => by
    by_cases h : n = 1
    · subst h; rfl
    · rw [decide_eq_false h]; exact beq_eq_false_iff_ne.2 (by omega)
  have e2 := Lib.hid (e1 (sbOf ss s).length)
  generalize sbOf ss s = xs at hc e2 ⊢
  generalize gvOk ss s = ok at hc ⊢
  replace hc := Lib.hid hc
  clear h hs hr
  go_enter Tryz.func17, Tryz.ntmps17
  go_wp2_with fail
  refine hc.out.mono ?_
  rintro e w1 ⟨A1, c1, rfl, ho, hB⟩
  go_wp2_with fail
  go_ret2
  exact ⟨by rw [← e2.out]; rfl, hB⟩
set_option maxHeartbeats 1600000 in
theorem impl_StateAfter (A : Option Addr) (ss : List ByteArray) (c : Nat) (q : Int) (s : ByteArray) (w : World) (h : Row w w.heap.size A (strs ss)) (hcap : ss.length ≤ c) (hl : ss.length ≤ 9223372036854775807) (hs : ∀ s ∈ ss, s.size ≤ 9223372036854775807) (hs2 : s.size ≤ 9223372036854775807) :
    Calls Tryz.prog 15 #[.slice A ss.length c, .int .i64 q, .string s] w fun e w' => e = .returned (.tuple #[.int .i64 ((saOf ss q s : Nat) : Int), .bool (saOk ss q s)]) ∧ Below w.heap.size w w' := by
  cases hq : gvOk ss s
  · have hno : saOk ss q s = false := by unfold saOk; rw [hq]; rfl
    rw [saOf_no hno, hno]
    have hr := Lib.hid (readerFor_no A ss c s w h hcap hl hs hs2 hq)
    clear h hs hq hno
    go_enter Tryz.func15, Tryz.ntmps15
    go_wp2_with fail
    refine hr.out.mono ?_
    rintro e w1 ⟨rfl, hB⟩
    go_wp2_with fail
    go_ret2
    exact ⟨rfl, hB⟩
  · have hr := Lib.hid (readerFor_yes A ss c s w h hcap hl hs hs2 hq)
    obtain ⟨hst, h60, hkd⟩ := gvOk_parts hq
    obtain ⟨hn0, hn11⟩ := st_bounds hst
    have His := Lib.hid (fun (A1 : Option Addr) (c1 : Nat) (A2 : Option Addr) (c2 : Nat) (u : World) => impl_isState A1 (inB ss).length c1 A2 c2 q u hn11)
    by_cases hrg : 0 ≤ q ∧ q < (inB ss).length
    · obtain ⟨p, rfl⟩ := Int.eq_ofNat_of_zero_le hrg.1
      have hyes : saOk ss (p : Int) s = true := by unfold saOk; rw [hq, decide_eq_true hrg]; rfl
      rw [saOf_yes hyes, hyes]
      rw [decide_eq_true hrg] at His
      have hpn : p < (inB ss).length := by omega
      have Haw := Lib.hid (fun (A1 : Option Addr) (c1 : Nat) (A2 : Option Addr) (c2 : Nat) (u : World) (g : RowTab u u.heap.size A2 ss) => impl_afterWord A1 ss c1 A2 c2 (2 ^ p) s u g hn0 hn11 (Nat.pow_lt_pow_right (by omega) hpn) hkd h60)
      rw [grp_one (tr_lt2 hn0) p hpn] at Haw
      have hlt := stAt_lt (tr_lt2 hn0) s.data.toList p hpn
      generalize stAt (tr ss) p s.data.toList = x at Haw hlt ⊢
      have hp16 : 2 ^ x < 65536 := Nat.pow_lt_pow_right (n := 16) (by omega) (by omega)
      have Hme := Lib.hid (fun u => impl_members (2 ^ x) u hp16)
      rw [mems_pow x (by omega)] at Hme
      have Hg1 := Lib.hid (fun b u hc => groupOf_one b p 1 u hc (by omega))
      clear h hs hq hkd hst hyes hrg
      go_enter Tryz.func15, Tryz.ntmps15
      go_wp2_with fail
      refine hr.out.mono ?_
      rintro e w1 ⟨A1, c1, A2, c2, rfl, ho, hT, hB⟩
      have HB := Lib.hid hB
      have HT := Lib.hid hT
      have hi1 := Lib.hid (His.out A1 c1 A2 c2 w1)
      clear ho hT hB
      go_wp2_with fail
      refine hi1.out.mono ?_
      rintro e w2 ⟨rfl, hB2⟩
      have HB2 := Lib.hid (HB.out.trans (hB2.mono HB.out.size))
      have hBa := (Below.refl w2.heap.size w2).alloc (Nat.le_refl _) (.cells #[.int .i64 (p : Int)] 3)
      have HT2 := Lib.hid ((((HT.out.below hB2).more hB2.size).below hBa).more hBa.size)
      have hg1 := Lib.hid (Hg1.out w2.heap.size (w2.alloc (.cells #[.int .i64 (p : Int)] 3)) (by rw [World.cell?_alloc_at _ _ _ _ rfl]; rfl))
      have HB3 := Lib.hid (HB2.out.trans (hBa.mono HB2.out.size))
      have hw1 := Lib.hid (Haw.out A1 c1 A2 c2 _ HT2.out)
      clear hB2 hBa
      generalize 2 ^ p = gp at hg1 hw1 Haw
      go_wp2_with fail
      refine hg1.out.mono ?_
      rintro e w3 ⟨rfl, rfl⟩
      go_wp2_with fail
      refine hw1.out.mono ?_
      rintro e w4 ⟨rfl, hB4⟩
      have HB4 := Lib.hid (HB3.out.trans (hB4.mono HB3.out.size))
      have hm1 := Lib.hid (Hme.out w4)
      clear hB4
      generalize 2 ^ x = gx at hm1 Hme hp16
      go_wp2_with fail
      refine hm1.out.mono ?_
      rintro e w5 ⟨A5, c5, rfl, ho5, hB5⟩
      obtain ⟨b5, off5, hA5, _, hc5⟩ := Row.of_own ho5 (by show 0 < 1; omega)
      have d5 : w5.cell? ⟨b5, off5, none⟩ = some (.int .i64 (x : Int)) := hc5 0 _ rfl
      subst hA5
      have hl1 : (intsN [x]).length = 1 := rfl
      rw [hl1]
      have HB5 := Lib.hid (HB4.out.trans (hB5.mono HB4.out.size))
      clear hB5 ho5 hc5 hl1
      go_wp2_with fail
      go_ret2
      exact ⟨rfl, HB5.out⟩
    · have hno : saOk ss q s = false := by unfold saOk; rw [decide_eq_false hrg]; simp
      rw [saOf_no hno, hno]
      rw [decide_eq_false hrg] at His
      clear h hs hq hkd hst hno hrg
      go_enter Tryz.func15, Tryz.ntmps15
      go_wp2_with fail
      refine hr.out.mono ?_
      rintro e w1 ⟨A1, c1, A2, c2, rfl, ho, hT, hB⟩
      have HB := Lib.hid hB
      have hi1 := Lib.hid (His.out A1 c1 A2 c2 w1)
      clear ho hT hB
      go_wp2_with fail
      refine hi1.out.mono ?_
      rintro e w2 ⟨rfl, hB2⟩
      go_wp2_with fail
      go_ret2
      exact ⟨rfl, HB.out.trans (hB2.mono HB.out.size)⟩
end Go.Proofs.YtgnehobhbioehaaGreatDoor
