/-
  WHAT THIS FILE PROVES: states, and where words lead from them, of a complete prefix set: the specification's functions tell the plain values; asked: a slice of texts in memory, lengths that an int holds.
-/
import Derived.Test.YtgnehobhbioehaaGreatDoorStpT
namespace Go.Proofs.YtgnehobhbioehaaGreatDoor
open Go.RowKit Go.Shelf

/-- a complete prefix set and a word of its letters -/
def gvOk (ss : List ByteArray) (s : ByteArray) : Bool := stOk ss && (W.good s.data.toList && W.krWd (ltrs ss : Nat) s.data.toList)
def gvT (ss : List ByteArray) (s : ByteArray) : List (List Int) := if gvOk ss s then tab ss (inB ss).length else []
theorem gvT_no {ss : List ByteArray} {s : ByteArray} (h : gvOk ss s = false) : gvT ss s = [] := by unfold gvT; rw [h]; rfl
theorem gvT_yes {ss : List ByteArray} {s : ByteArray} (h : gvOk ss s = true) : gvT ss s = tab ss (inB ss).length := by unfold gvT; rw [h]; rfl
theorem gvOk_parts {ss : List ByteArray} {s : ByteArray} (h : gvOk ss s = true) : stOk ss = true ∧ s.size ≤ 60 ∧ W.krWd (ltrs ss : Nat) s.data.toList = true := by
  unfold gvOk W.good at h
  simp only [Bool.and_eq_true, decide_eq_true_eq] at h
  rw [← Lib.size_eq] at h
  exact ⟨h.1, h.2.1.1, h.2.2⟩
theorem st_bounds {ss : List ByteArray} (h : stOk ss = true) : 0 < (inB ss).length ∧ (inB ss).length ≤ 11 := by
  have h1 := inB_few h
  have h2 := W.isSet_len ss (stOk_parts h).1
  omega
set_option maxHeartbeats 3200000 in
theorem spec_syGiven (A : Option Addr) (ss : List ByteArray) (c : Nat) (s : ByteArray) (w : World) (h : Row w w.heap.size A (strs ss)) (hcap : ss.length ≤ c) (hl : ss.length ≤ 9223372036854775807) (hs : ∀ s ∈ ss, s.size ≤ 9223372036854775807) (hs2 : s.size ≤ 9223372036854775807) :
    Calls Tryz.prog 27 #[.slice A ss.length c, .string s] w (OkSS 35 3 w (intss (gvT ss s)) (gvOk ss s)) := by
  have hk := spec_syLetters A ss c w h hcap hl hs
  cases hq : stOk ss
  · have hno : gvOk ss s = false := by unfold gvOk; rw [hq]; rfl
    rw [gvT_no hno, hno]
    rw [hq] at hk
    replace hk := Lib.hid hk
    clear h hs hq hno
    go_enter Tryz.func27, Tryz.ntmps27
    go_wp2_with fail
    refine hk.out.mono ?_
    rintro e w1 ⟨rfl, hB⟩
    go_wp2_with fail
    go_ret2
    exact okSS_nil _ _ _ _ _ hB
  · rw [slN_yes hq, hq] at hk
    replace hk := Lib.hid hk
    have hset := (stOk_parts hq).1
    have hg := Lib.hid (fun u => spec_wdGood s u hs2)
    cases hgd : W.good s.data.toList
    · have hno : gvOk ss s = false := by unfold gvOk; rw [hgd]; simp
      rw [gvT_no hno, hno]
      rw [hgd] at hg
      clear h hs hq hno
      go_enter Tryz.func27, Tryz.ntmps27
      go_wp2_with fail
      refine hk.out.mono ?_
      rintro e w1 ⟨rfl, hB⟩
      go_wp2_with fail
      refine (hg.out _).mono ?_
      rintro e w2 ⟨rfl, rfl⟩
      go_wp2_with fail
      go_ret2
      exact okSS_nil _ _ _ _ _ hB
    · rw [hgd] at hg
      have h60 : s.size ≤ 60 ∧ W.isWd s.data.toList = true := by
        unfold W.good at hgd
        simp only [Bool.and_eq_true, decide_eq_true_eq] at hgd
        rw [← Lib.size_eq] at hgd
        exact hgd
      have hkw := Lib.hid (fun u => spec_krWord s (ltrs ss : Nat) u (by omega) h60.2)
      cases hkd : W.krWd (ltrs ss : Nat) s.data.toList
      · have hno : gvOk ss s = false := by unfold gvOk; rw [hkd]; simp
        rw [gvT_no hno, hno]
        rw [hkd] at hkw
        clear h hs hq hno
        go_enter Tryz.func27, Tryz.ntmps27
        go_wp2_with fail
        refine hk.out.mono ?_
        rintro e w1 ⟨rfl, hB⟩
        go_wp2_with fail
        refine (hg.out _).mono ?_
        rintro e w2 ⟨rfl, rfl⟩
        go_wp2_with fail
        refine (hkw.out _).mono ?_
        rintro e w2 ⟨rfl, rfl⟩
        go_wp2_with fail
        go_ret2
        exact okSS_nil _ _ _ _ _ hB
      · have hyes : gvOk ss s = true := by unfold gvOk; rw [hq, hgd, hkd]; rfl
        rw [gvT_yes hyes, hyes]
        rw [hkd] at hkw
        have ht := Lib.hid (fun (u : World) (hB : Below w.heap.size w u) => spec_syTable A ss c u ((h.below hB).more hB.size) hset)
        generalize intss (tab ss (inB ss).length) = T at ht ⊢
        clear h hs hq hyes hset
        go_enter Tryz.func27, Tryz.ntmps27
        go_wp2_with fail
        refine hk.out.mono ?_
        rintro e w1 ⟨rfl, hB⟩
        have HB := Lib.hid hB
        clear hB
        have ht1 := Lib.hid (ht.out w1 HB.out)
        go_wp2_with fail
        refine (hg.out _).mono ?_
        rintro e w2 ⟨rfl, rfl⟩
        go_wp2_with fail
        refine (hkw.out _).mono ?_
        rintro e w2 ⟨rfl, rfl⟩
        go_wp2_with fail
        refine ht1.out.mono ?_
        rintro e w2 ⟨A2, c2, rfl, ho, hB2⟩
        go_wp2_with fail
        go_ret2
        exact okSS_of (base := w.heap.size) (ownSS_lower ho HB.out.size) rfl (HB.out.trans (hB2.mono HB.out.size))
/-- what StatesOf tells -/
def soOf (ss : List ByteArray) : List ByteArray := if stOk ss then inB ss else []
theorem soOf_no {ss : List ByteArray} (h : stOk ss = false) : soOf ss = [] := by unfold soOf; rw [h]; rfl
theorem soOf_yes {ss : List ByteArray} (h : stOk ss = true) : soOf ss = inB ss := by unfold soOf; rw [h]; rfl
theorem soOf_len (ss : List ByteArray) : (soOf ss).length ≤ 1048576 := by
  cases h : stOk ss
  · rw [soOf_no h]; simp
  · rw [soOf_yes h]; have := (st_bounds h).2; omega
theorem spec_StatesOf (A : Option Addr) (ss : List ByteArray) (c : Nat) (w : World) (h : Row w w.heap.size A (strs ss)) (hcap : ss.length ≤ c) (hl : ss.length ≤ 9223372036854775807) (hs : ∀ s ∈ ss, s.size ≤ 9223372036854775807) :
    Calls Tryz.prog 8 #[.slice A ss.length c] w (OkStrs w (soOf ss) (stOk ss)) := by
  have hk := spec_syLetters A ss c w h hcap hl hs
  cases hq : stOk ss
  · rw [soOf_no hq]
    rw [hq] at hk
    replace hk := Lib.hid hk
    clear h hs hq
    go_enter Tryz.func8, Tryz.ntmps8
    go_wp2_with fail
    refine hk.out.mono ?_
    rintro e w1 ⟨rfl, hB⟩
    go_wp2_with fail
    go_ret2
    exact okStrs_nil _ _ _ hB
  · rw [soOf_yes hq]
    rw [hq] at hk
    replace hk := Lib.hid hk
    have hset := (stOk_parts hq).1
    have hi := Lib.hid (fun (u : World) (hB : Below w.heap.size w u) => spec_pfInner A ss c u ((h.below hB).more hB.size) hset)
    generalize inB ss = R at hi ⊢
    clear h hs hq hset
    go_enter Tryz.func8, Tryz.ntmps8
    go_wp2_with fail
    refine hk.out.mono ?_
    rintro e w1 ⟨rfl, hB⟩
    have HB := Lib.hid hB
    clear hB
    have hi2 := Lib.hid (hi.out w1 HB.out)
    go_wp2_with fail
    refine hi2.out.mono ?_
    rintro e w2 ⟨A', c', rfl, ho, hB⟩
    go_wp2_with fail
    go_ret2
    exact okStrs_of (own_base ho HB.out.size) rfl (HB.out.trans (hB.mono HB.out.size))
/-- what StateAfter tells -/
def saOk (ss : List ByteArray) (q : Int) (s : ByteArray) : Bool := gvOk ss s && decide (0 ≤ q ∧ q < (inB ss).length)
def saOf (ss : List ByteArray) (q : Int) (s : ByteArray) : Nat := if saOk ss q s then stAt (tr ss) q.toNat s.data.toList else 0
theorem saOf_no {ss : List ByteArray} {q : Int} {s : ByteArray} (h : saOk ss q s = false) : saOf ss q s = 0 := by unfold saOf; rw [h]; rfl
theorem saOf_yes {ss : List ByteArray} {q : Nat} {s : ByteArray} (h : saOk ss (q : Int) s = true) : saOf ss (q : Int) s = stAt (tr ss) q s.data.toList := by unfold saOf; rw [h]; rfl
set_option maxHeartbeats 1600000 in
theorem spec_StateAfter (A : Option Addr) (ss : List ByteArray) (c : Nat) (q : Int) (s : ByteArray) (w : World) (h : Row w w.heap.size A (strs ss)) (hcap : ss.length ≤ c) (hl : ss.length ≤ 9223372036854775807) (hs : ∀ s ∈ ss, s.size ≤ 9223372036854775807) (hs2 : s.size ≤ 9223372036854775807) :
    Calls Tryz.prog 14 #[.slice A ss.length c, .int .i64 q, .string s] w fun e w' => e = .returned (.tuple #[.int .i64 ((saOf ss q s : Nat) : Int), .bool (saOk ss q s)]) ∧ Below w.heap.size w w' := by
  have hg := spec_syGiven A ss c s w h hcap hl hs hs2
  cases hq : gvOk ss s
  · have hno : saOk ss q s = false := by unfold saOk; rw [hq]; rfl
    rw [saOf_no hno, hno]
    rw [hq, gvT_no hq] at hg
    replace hg := Lib.hid hg
    clear h hs hq hno
    go_enter Tryz.func14, Tryz.ntmps14
    go_wp2_with fail
    refine hg.out.mono ?_
    rintro e w1 ⟨A1, c1, rfl, ho, hB⟩
    go_wp2_with fail
    go_ret2
    exact ⟨rfl, hB⟩
  · rw [hq, gvT_yes hq] at hg
    obtain ⟨hst, h60, hkd⟩ := gvOk_parts hq
    obtain ⟨hn0, hn11⟩ := st_bounds hst
    have hgl : (intss (tab ss (inB ss).length)).length = (inB ss).length := by rw [intss_length, tab_len]
    have hg2 : Hid (Calls Tryz.prog 27 #[.slice A ss.length c, .string s] w fun e w' => ∃ A1 c1, e = .returned (.tuple #[.slice A1 (inB ss).length c1, .bool true]) ∧ RowTab w' w'.heap.size A1 ss ∧ Below w.heap.size w w') := hg.mono fun e w' ⟨A1, c1, he, ho, hB⟩ => by
      rw [hgl] at he
      exact ⟨A1, c1, he, RowSS.of_own ho, hB⟩
    have hin := Lib.hid (fun u => spec_l1In q 0 (((inB ss).length : Int) - 1) u)
    have Hrun := Lib.hid (fun (A1 : Option Addr) (c1 p : Nat) (hp : p < (inB ss).length) (u : World) (g : RowTab u u.heap.size A1 ss) => spec_syRun A1 ss c1 p s u g hp hn11 hkd h60)
    by_cases hr : 0 ≤ q ∧ q < (inB ss).length
    · obtain ⟨p, rfl⟩ := Int.eq_ofNat_of_zero_le hr.1
      have hyes : saOk ss (p : Int) s = true := by unfold saOk; rw [hq, decide_eq_true hr]; rfl
      rw [saOf_yes hyes, hyes]
      have hp : p < (inB ss).length := by omega
      have hd : decide ((0 : Int) ≤ (p : Int) ∧ (p : Int) ≤ ((inB ss).length : Int) - 1) = true := decide_eq_true (by omega)
      rw [hd] at hin
      have Hrun2 := Lib.hid (fun A1 c1 u g => Hrun.out A1 c1 p hp u g)
      clear Hrun
      generalize stAt (tr ss) p s.data.toList = R at Hrun2 ⊢
      generalize (inB ss).length = n at *
      clear h hs hq hyes hg hkd hgl hd hr
      go_enter Tryz.func14, Tryz.ntmps14
      go_wp2_with fail
      refine hg2.out.mono ?_
      rintro e w1 ⟨A1, c1, rfl, hT, hB⟩
      have HB := Lib.hid hB
      have hr1 := Lib.hid (Hrun2.out A1 c1 w1 hT)
      clear hB hT
      go_wp2_with fail
      refine (hin.out _).mono ?_
      rintro e w2 ⟨rfl, rfl⟩
      go_wp2_with fail
      refine hr1.out.mono ?_
      rintro e w2 ⟨rfl, hB2⟩
      go_wp2_with fail
      go_ret2
      exact ⟨rfl, HB.out.trans (hB2.mono HB.out.size)⟩
    · have hno : saOk ss q s = false := by unfold saOk; rw [decide_eq_false hr]; simp
      rw [saOf_no hno, hno]
      have hd : decide ((0 : Int) ≤ q ∧ q ≤ ((inB ss).length : Int) - 1) = false := decide_eq_false (by omega)
      rw [hd] at hin
      generalize (inB ss).length = n at *
      clear h hs hq hno hg hkd hgl hd hr
      go_enter Tryz.func14, Tryz.ntmps14
      go_wp2_with fail
      refine hg2.out.mono ?_
      rintro e w1 ⟨A1, c1, rfl, hT, hB⟩
      go_wp2_with fail
      refine (hin.out _).mono ?_
      rintro e w2 ⟨rfl, rfl⟩
      go_wp2_with fail
      go_ret2
      exact ⟨rfl, hB⟩
/-- what IsStepWord tells -/
def isOf (ss : List ByteArray) (s : ByteArray) : Bool := gvOk ss s && oneB (beh (tr ss) (inB ss).length s.data.toList)
theorem isOf_no {ss : List ByteArray} {s : ByteArray} (h : gvOk ss s = false) : isOf ss s = false := by unfold isOf; rw [h]; rfl
theorem isOf_yes {ss : List ByteArray} {s : ByteArray} (h : gvOk ss s = true) : isOf ss s = oneB (beh (tr ss) (inB ss).length s.data.toList) := by unfold isOf; rw [h]; rfl
/-- what StatesBehind tells -/
def sbOf (ss : List ByteArray) (s : ByteArray) : List Int := if gvOk ss s then (mems (inB ss).length (beh (tr ss) (inB ss).length s.data.toList)).map fun (j : Nat) => (j : Int) else []
theorem sbOf_no {ss : List ByteArray} {s : ByteArray} (h : gvOk ss s = false) : sbOf ss s = [] := by unfold sbOf; rw [h]; rfl
theorem sbOf_yes {ss : List ByteArray} {s : ByteArray} (h : gvOk ss s = true) : sbOf ss s = (mems (inB ss).length (beh (tr ss) (inB ss).length s.data.toList)).map fun (j : Nat) => (j : Int) := by unfold sbOf; rw [h]; rfl
theorem sbOf_len (ss : List ByteArray) (s : ByteArray) : (sbOf ss s).length ≤ 1048576 := by
  cases h : gvOk ss s
  · rw [sbOf_no h]; simp
  · rw [sbOf_yes h, List.length_map]
    have h1 := mems_len (inB ss).length (beh (tr ss) (inB ss).length s.data.toList)
    have h2 := (st_bounds (gvOk_parts h).1).2
    omega
theorem given_tab {w : World} {P : Program} {f : FuncId} {args : Array Value} {ss : List ByteArray} (h : Calls P f args w (OkSS 35 3 w (intss (tab ss (inB ss).length)) true)) :
    Calls P f args w fun e w' => ∃ A1 c1, e = .returned (.tuple #[.slice A1 (inB ss).length c1, .bool true]) ∧ RowTab w' w'.heap.size A1 ss ∧ Below w.heap.size w w' := h.mono fun e w' ⟨A1, c1, he, ho, hB⟩ => by
  rw [intss_length, tab_len] at he
  exact ⟨A1, c1, he, RowSS.of_own ho, hB⟩
set_option maxHeartbeats 1600000 in
theorem spec_IsStepWord (A : Option Addr) (ss : List ByteArray) (c : Nat) (s : ByteArray) (w : World) (h : Row w w.heap.size A (strs ss)) (hcap : ss.length ≤ c) (hl : ss.length ≤ 9223372036854775807) (hs : ∀ s ∈ ss, s.size ≤ 9223372036854775807) (hs2 : s.size ≤ 9223372036854775807) :
    Calls Tryz.prog 16 #[.slice A ss.length c, .string s] w fun e w' => e = .returned (.tuple #[.bool (isOf ss s), .bool (gvOk ss s)]) ∧ Below w.heap.size w w' := by
  have hg := spec_syGiven A ss c s w h hcap hl hs hs2
  cases hq : gvOk ss s
  · rw [isOf_no hq]
    rw [hq, gvT_no hq] at hg
    replace hg := Lib.hid hg
    clear h hs hq
    go_enter Tryz.func16, Tryz.ntmps16
    go_wp2_with fail
    refine hg.out.mono ?_
    rintro e w1 ⟨A1, c1, rfl, ho, hB⟩
    go_wp2_with fail
    go_ret2
    exact ⟨rfl, hB⟩
  · rw [isOf_yes hq]
    rw [hq, gvT_yes hq] at hg
    obtain ⟨hst, h60, hkd⟩ := gvOk_parts hq
    obtain ⟨hn0, hn11⟩ := st_bounds hst
    have hg2 := Lib.hid (given_tab hg)
    have Hbe := Lib.hid (fun (A1 : Option Addr) (c1 : Nat) (u : World) (g : RowTab u u.heap.size A1 ss) => spec_syBehind A1 ss c1 s u g hn0 hn11 hkd h60)
    have hb := beh_lt (T := tr ss) (n := (inB ss).length) (fun i k => tr_lt hn0 i k) s.data.toList
    have hb2 : beh (tr ss) (inB ss).length s.data.toList < 4096 := Nat.lt_of_lt_of_le hb (Nat.pow_le_pow_right (n := 2) (by omega) (show (inB ss).length ≤ 12 by omega))
    generalize beh (tr ss) (inB ss).length s.data.toList = g at Hbe hb2 ⊢
    have Ho := Lib.hid (fun u => spec_syOne g u hb2)
    generalize oneB g = r at Ho ⊢
    generalize (inB ss).length = n at *
    clear h hs hq hg hkd hb
    go_enter Tryz.func16, Tryz.ntmps16
    go_wp2_with fail
    refine hg2.out.mono ?_
    rintro e w1 ⟨A1, c1, rfl, hT, hB⟩
    have HB := Lib.hid hB
    have hr1 := Lib.hid (Hbe.out A1 c1 w1 hT)
    clear hB hT
    go_wp2_with fail
    refine hr1.out.mono ?_
    rintro e w2 ⟨rfl, hB2⟩
    have HB2 := Lib.hid (HB.out.trans (hB2.mono HB.out.size))
    clear hB2
    go_wp2_with fail
    refine (Ho.out _).mono ?_
    rintro e w3 ⟨rfl, rfl⟩
    go_wp2_with fail
    go_ret2
    exact ⟨rfl, HB2.out⟩
theorem bit_shift (g k : Nat) : (((g : Int) / (2 : Int) ^ k).tmod 2 == 1) = g.testBit k := by
  rw [Int.tmod_eq_emod_of_nonneg (Int.ediv_nonneg (by omega) (Int.le_of_lt (Int.pow_pos (by decide))))]
  have e : ((g : Int) / (2 : Int) ^ k) % 2 = ((g / 2 ^ k % 2 : Nat) : Int) := by simp
  rw [e, Nat.testBit_eq_decide_div_mod_eq]
  by_cases h : g / 2 ^ k % 2 = 1
  · rw [h, decide_eq_true rfl]; rfl
  · rw [decide_eq_false h]
    exact beq_eq_false_iff_ne.2 (by omega)
set_option maxHeartbeats 3200000 in
set_option maxRecDepth 100000 in
theorem spec_StatesBehind (A : Option Addr) (ss : List ByteArray) (c : Nat) (s : ByteArray) (w : World) (h : Row w w.heap.size A (strs ss)) (hcap : ss.length ≤ c) (hl : ss.length ≤ 9223372036854775807) (hs : ∀ s ∈ ss, s.size ≤ 9223372036854775807) (hs2 : s.size ≤ 9223372036854775807) :
    Calls Tryz.prog 18 #[.slice A ss.length c, .string s] w (OkInts w (sbOf ss s) (gvOk ss s)) := by
  have hg := spec_syGiven A ss c s w h hcap hl hs hs2
  cases hq : gvOk ss s
  · rw [sbOf_no hq]
    rw [hq, gvT_no hq] at hg
    replace hg := Lib.hid hg
    clear h hs hq
    go_enter Tryz.func18, Tryz.ntmps18
    go_wp2_with fail
    refine hg.out.mono ?_
    rintro e w1 ⟨A1, c1, rfl, ho, hB⟩
    go_wp2_with fail
    go_ret2
    exact okInts_nil _ _ _ hB
  · rw [sbOf_yes hq]
    rw [hq, gvT_yes hq] at hg
    obtain ⟨hst, h60, hkd⟩ := gvOk_parts hq
    obtain ⟨hn0, hn11⟩ := st_bounds hst
    have hg2 := Lib.hid (given_tab hg)
    have Hbe := Lib.hid (fun (A1 : Option Addr) (c1 : Nat) (u : World) (g : RowTab u u.heap.size A1 ss) => spec_syBehind A1 ss c1 s u g hn0 hn11 hkd h60)
    generalize beh (tr ss) (inB ss).length s.data.toList = g at Hbe ⊢
    have Hms := Lib.hid (fun k => mems_succ k g)
    have Hml := Lib.hid (fun k => mems_len k g)
    obtain ⟨i0, hi, hz0, hz1, hz2⟩ := info_parts infoInt
    have HR := Lib.hid (And.intro hi (And.intro hz0 (And.intro hz1 hz2)))
    generalize (inB ss).length = n at *
    clear h hs hq hg hkd hi hz0 hz1 hz2
    go_enter Tryz.func18, Tryz.ntmps18
    go_wp2_with fail
    refine hg2.out.mono ?_
    rintro e w1 ⟨A1, c1, rfl, hT, hB⟩
    have HB := Lib.hid hB
    have hr1 := Lib.hid (Hbe.out A1 c1 w1 hT)
    clear hB hT
    go_wp2_with fail
    refine hr1.out.mono ?_
    rintro e w2 ⟨rfl, hB2⟩
    have HB2 := Lib.hid (HB.out.trans (hB2.mono HB.out.size))
    clear hB2
    go_wp2_with fail
    go_loopw [9, 24] (fun v i wr => ∃ (k : Nat) (acc : List Int), Hid (acc = (mems k g).map fun (j : Nat) => (j : Int)) ∧ k ≤ n ∧ i = .int .i64 k ∧ wr.ownsRow w2.heap.size 3 1 v acc.length (ints acc) ∧ Below w2.heap.size w2 wr) (fun _ i _ => n - (intOf i).toNat)
    case atStart => exact ⟨0, [], rfl, Nat.zero_le _, rfl, World.ownsRow_nil _ _ _ _, Below.refl _ _⟩
    case round =>
      obtain ⟨k, acc, hacc, hk, rfl, ho, hB⟩ := hrel
      obtain ⟨Av, cv, rfl⟩ := own_slice ho
      have hO := Lib.hid (And.intro ho hB)
      have hal : acc.length ≤ k := by rw [hacc.out, List.length_map]; exact Hml.out k
      clear ho hB
      by_cases hlt : k < n
      · have hlt' : (k : Int) < (n : Int) := by omega
        have hbs := bit_shift g k
        have hms := Hms.out k
        cases hd : g.testBit k
        · rw [hd] at hbs hms
          have hN : Hid (acc = (mems (k + 1) g).map fun (j : Nat) => (j : Int)) := by show _ = _; rw [hacc.out, hms]; simp
          clear hms hd
          go_wp2_with fail
          go_roundw
          case rel => exact ⟨k + 1, acc, hN, by omega, by go_num, hO.out.1, hO.out.2⟩
          case measure => simp [intOf]; omega
        · rw [hd] at hbs hms
          have hN : Hid (acc ++ [(k : Int)] = (mems (k + 1) g).map fun (j : Nat) => (j : Int)) := by show _ = _; rw [hacc.out, hms]; simp
          have hsz := hO.out.2.size
          have hlt4 := Lib.hid hO.out.1.lt
          clear hms hd
          go_wp2_with (at_builtin; refine wpList_append_own _ rfl _ _ 35 rfl w2.heap.size 3 i0 (.int .i64 0) 1 8 Tryz.underlying35 HR.out.1 HR.out.2.1 HR.out.2.2.1 HR.out.2.2.2 rfl (by decide) _ _ _ rfl (hO.out.1.alloc _) ⟨wr.heap.size, 0, none⟩ 1 1 [.int .i64 (k : Int)] rfl rfl (cell_one_new _ _ _) (one_cell _) (by unfold maxLen; omega) (by omega) (by simp; omega) ?_)
          intro v' w6 hown' hgrow _
          have hF6 := Lib.hid (And.intro hown' ((hO.out.2.alloc hsz _).grown hgrow (by simp; omega) (fun g hg => (hlt4.out g hg).1)))
          clear hown' hgrow hlt4
          go_wp2_with fail
          go_roundw
          case rel =>
            refine ⟨k + 1, acc ++ [(k : Int)], hN, by omega, by go_num, ?_, hF6.out.2⟩
            rw [ints_snoc, List.length_append]
            exact hF6.out.1
          case measure => simp [intOf]; omega
      · obtain rfl : k = n := by omega
        go_wp2_with fail
        go_ret2
        rw [← hacc.out]
        exact okInts_of (own_base hO.out.1 HB2.out.size) rfl (HB2.out.trans (hO.out.2.mono HB2.out.size))
end Go.Proofs.YtgnehobhbioehaaGreatDoor
