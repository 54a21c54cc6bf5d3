/-
  WHAT THIS FILE PROVES: all words of at most so many letters that a set writes: the specification's functions give the plain list, or fail if they are too many; asked: a slice of texts in memory, lengths and a number that an int holds.
-/
import Derived.Test.YtlmcemdbalhkiaaDoorWu
import Derived.Test.YtlmcemdbalhkiaaDoorMemS
import Derived.Test.YtlmcemdbalhkiaaDoorIsSet
import Derived.Test.YtlmcemdbalhkiaaDoorAppend
import Derived.Test.YtlmcemdbalhkiaaDoorInt
import Derived.Test.YtlmcemdbalhkiaaDoorPut
namespace Go.Proofs.YtlmcemdbalhkiaaDoor
open Go.RowKit Go.Shelf

/-- the call hands back a slice that reads as the list, and whether it is told -/
def GivesW (w0 : World) (L : List ByteArray) (ok : Bool) (e : Ending) (w' : World) : Prop :=
  ∃ A c, e = .returned (.tuple #[.slice A L.length c, .bool ok]) ∧ Row w' w'.heap.size A (strs L) ∧ Below w0.heap.size w0 w'
theorem givesW_nil (w0 w' : World) (ok : Bool) (hB : Below w0.heap.size w0 w') : GivesW w0 [] ok (.returned (.tuple #[.slice none 0 0, .bool ok])) w' :=
  ⟨none, 0, rfl, fun hp => absurd hp (by simp [strs]), hB⟩
noncomputable def wuN (ss : List ByteArray) (n : Nat) : Bool := decide ((wuL ss n).length ≤ 200)
noncomputable def wuR (ss : List ByteArray) (n : Nat) : List ByteArray := if wuN ss n then wuL ss n else []
theorem wuR_no {ss : List ByteArray} {n : Nat} (h : wuN ss n = false) : wuR ss n = [] := by unfold wuR; rw [h]; rfl
theorem wuR_yes {ss : List ByteArray} {n : Nat} (h : wuN ss n = true) : wuR ss n = wuL ss n := by unfold wuR; rw [h]; rfl

set_option maxHeartbeats 6400000 in
set_option maxRecDepth 100000 in
theorem spec_bsWritten (A : Option Addr) (ss : List ByteArray) (c : Nat) (n : Nat) (w : World) (h : Row w w.heap.size A (strs ss)) (hset : W.isSet ss = true) (hn8 : n ≤ 8) :
    Calls Tryd.prog 35 #[.slice A ss.length c, .int .i64 (n : Int)] w (GivesW w (wuR ss n) (wuN ss n)) := by
  have h12 := W.isSet_len ss hset
  obtain ⟨i0, hi, hz0, hz1, hz2⟩ := info_parts infoStr
  have HR := Lib.hid (And.intro hi (And.intro hz0 (And.intro hz1 hz2)))
  have Hset := Lib.hid hset
  obtain ⟨R, hR⟩ : ∃ R, R = wuR ss n := ⟨_, rfl⟩
  obtain ⟨ok, hok⟩ : ∃ ok, ok = wuN ss n := ⟨_, rfl⟩
  rw [← hR, ← hok]
  replace hR := Lib.hid hR
  replace hok := Lib.hid hok
  replace h := Lib.hid h
  have hst := Lib.hid (Sw.start ss n)
  have hown0 := Lib.hid (show (w.alloc (.cells #[.string ⟨#[]⟩] 9)).ownsRow w.heap.size 9 1 (.slice (some ⟨w.heap.size, 0, none⟩) 1 1) 1 (strs [⟨#[]⟩]) by
    have := World.ownsRow_lit (base := w.heap.size) (e := 9) (size := 1) w #[.string ⟨#[]⟩] 1 (Nat.le_refl _) (by unfold maxLen; omega) rfl
    simpa [strs] using this)
  clear hi hz0 hz1 hz2 hset
  go_enter Tryd.func35, Tryd.ntmps35
  go_wp2
  go_loopw [6, 7] (fun v i wr => ∃ (k : Nat) (L : List ByteArray), k ≤ L.length ∧ L.length ≤ 201 ∧ i = .int .i64 k ∧ Hid (Sw ss n k L) ∧ wr.ownsRow w.heap.size 9 1 v L.length (strs L) ∧ Below w.heap.size w wr)
    (fun _ i _ => 202 - (intOf i).toNat)
  case atStart => exact ⟨0, [⟨#[]⟩], Nat.zero_le _, by simp, rfl, hst.out, hown0.out, (Below.refl _ _).alloc (Nat.le_refl _) _⟩
  case round =>
    obtain ⟨k, L, hk, hL2, rfl, hS, ho, hB⟩ := hrel
    obtain ⟨Ar, cr, rfl⟩ := own_slice ho
    have hO := Lib.hid (And.intro ho hB)
    clear ho hB hown0 hst
    generalize wr = wk at hO ⊢
    by_cases hlt : k < L.length
    · have hlt' : (k : Int) < (L.length : Int) := by omega
      have hS0 : Hid (Sw ss n k L ∧ Swj ss n k 0 L) := ⟨hS.out, fun i hi => absurd hi (Nat.not_lt_zero _)⟩
      go_wp2_with fail
      go_loopw [6, 19] (fun v i wr => ∃ (j : Nat) (M : List ByteArray), j ≤ ss.length ∧ i = .int .i64 j ∧ Hid (Sw ss n k M ∧ Swj ss n k j M) ∧ k < M.length ∧ M.length ≤ 201 + j ∧ wr.ownsRow w.heap.size 9 1 v M.length (strs M) ∧ Below w.heap.size w wr)
        (fun _ i _ => ss.length - (intOf i).toNat)
      case atStart => exact ⟨0, L, Nat.zero_le _, rfl, hS0, hlt, hL2, hO.out⟩
      case round =>
        obtain ⟨j, M, hj, rfl, hM, hkM, hM2, hom, hBm⟩ := hrel
        obtain ⟨Am, cm, rfl⟩ := own_slice hom
        have HM := Lib.hid (And.intro hom hBm)
        clear hom hBm hS0 hO hS
        obtain ⟨g0, rfl, hg0, hg1⟩ := own_form HM.out.1 (by omega)
        have hkM' : (k : Int) < (M.length : Int) := by omega
        by_cases hltj : j < ss.length
        · obtain ⟨b, off, rfl, hb, hcc⟩ := h.out (by rw [strs_length]; omega)
          have hltj' : (j : Int) < (ss.length : Int) := by omega
          have c1 := (HM.out.2.cell (p := ⟨b, off + j, none⟩) hb).trans (hcc j _ (strs_nth ss j hltj))
          clear hcc
          have c2 := HM.out.1.cellAt k (by omega)
          rw [strs_at M k hkM, ← W.nth_lt M k hkM] at c2
          have hts := (W.short_size _ (W.isSet_short ss Hset.out j hltj)).2
          have hus := (hM.out.1.mem (W.nth M k) (by rw [W.nth_lt M k hkM]; exact List.getElem_mem hkM)).1
          have hsa := @ByteArray.size_append (W.nth M k) (W.nth ss j)
          by_cases hs : (W.nth M k).size + (W.nth ss j).size ≤ n
          · have hadd := Lib.hid (hM.out.1.add Hset.out hkM hM.out.2 hltj (by rw [hsa]; exact hs))
            have hpl := putB_len M (W.nth M k ++ W.nth ss j)
            have hput := Lib.hid (spec_wdPut w.heap.size (some ⟨g0, 0, none⟩) M cm (W.nth M k ++ W.nth ss j) wr HM.out.1 HM.out.2.size (by omega))
            clear hsa hM
            generalize W.nth M k = u at c2 hus hs hadd hpl hput
            generalize W.nth ss j = t at c1 hts hs hadd hpl hput
            have hs' : (u.size : Int) + (t.size : Int) ≤ (n : Int) := by omega
            generalize putB M (u ++ t) = M' at hadd hpl hput
            go_wp2_with fail
            refine hput.out.mono ?_
            rintro e w2 ⟨A2, c2, rfl, ho2, hB2⟩
            have H2 := Lib.hid (And.intro ho2 (HM.out.2.trans (hB2.mono HM.out.2.size)))
            clear ho2 hB2 hput
            go_wp2
            go_roundw
            case rel => exact ⟨j + 1, M', by omega, by go_num, ⟨hadd.out.1, hadd.out.2.1⟩, hadd.out.2.2.1, by omega, H2.out⟩
            case measure => simp [intOf]; omega
          · have hsk := Lib.hid (hM.out.2.skip (show ¬ (W.nth M k ++ W.nth ss j).size ≤ n by rw [hsa]; exact hs))
            clear hsa
            generalize W.nth M k = u at c2 hus hs
            generalize W.nth ss j = t at c1 hts hs
            have hs' : ¬ (u.size : Int) + (t.size : Int) ≤ (n : Int) := by omega
            go_wp2
            go_roundw
            case rel => exact ⟨j + 1, M, by omega, by go_num, ⟨hM.out.1, hsk.out⟩, hkM, by omega, HM.out⟩
            case measure => simp [intOf]; omega
        · have hje : j = ss.length := by omega
          subst hje
          have hnx := Lib.hid (hM.out.1.next hM.out.2)
          by_cases hbig : M.length ≤ 201
          · have hb1 : ¬ (201 : Int) < (M.length : Int) := by omega
            go_wp2
            go_roundw
            case rel => exact ⟨k + 1, M, by omega, hbig, by go_num, hnx.out, HM.out⟩
            case measure => simp [intOf]; omega
          · have hb1 : (201 : Int) < (M.length : Int) := by omega
            have hsub := hM.out.1.sub Hset.out
            have hno : wuN ss n = false := decide_eq_false (by omega)
            have e1 := Lib.hid (hok.out.trans hno)
            have e2 := Lib.hid (hR.out.trans (wuR_no hno))
            clear hsub hno
            go_wp2
            go_ret2
            rw [e1.out, e2.out]
            exact givesW_nil _ _ _ HM.out.2
    · have hke : k = L.length := by omega
      subst hke
      have htl := hS.out.tail
      have hwl := wuL_eq htl.2
      have hll : L.length = L.tail.length + 1 := by
        have := congrArg List.length htl.1
        rw [List.length_cons] at this
        exact this
      have hyes : wuN ss n = true := decide_eq_true (by rw [hwl]; omega)
      have e1 := Lib.hid (hok.out.trans hyes)
      have e2 := Lib.hid (hR.out.trans ((wuR_yes hyes).trans hwl))
      have hcp := own_cap hO.out.1
      obtain ⟨g0, rfl, hg0, hg1⟩ := own_form hO.out.1 (by omega)
      have hrow := (Row.of_own hO.out.1).back 1
      have hstl : (strs L).drop 1 = strs L.tail := by rw [← List.drop_one]; unfold strs; rw [List.map_drop]
      rw [hstl, Nat.zero_add] at hrow
      have Hrow := Lib.hid hrow
      have Hll := Lib.hid hll
      have hl1 : (1 : Int) ≤ (L.length : Int) := by omega
      have hlc : (1 : Int) ≤ (cr : Int) := by omega
      have hsub2 : L.length - 1 = L.tail.length := by omega
      replace hsub2 := Lib.hid hsub2
      clear htl hwl hyes hrow hstl hll
      by_cases hc1 : cr = 1
      · have hl0 : L.tail.length = 0 := by have := Hll.out; omega
        subst hc1
        go_wp2
        go_ret2
        rw [e1.out, e2.out]
        exact ⟨_, _, by rw [hl0]; have := Hll.out; rw [hl0] at this; rw [this]; rfl, fun hp => absurd hp (by rw [strs_length]; omega), hO.out.2⟩
      · go_wp2
        go_ret2
        rw [e1.out, e2.out]
        exact ⟨_, _, by rw [← hsub2.out]; rfl, Hrow.out, hO.out.2⟩

theorem wu_no {ss : List ByteArray} {n : Int} (h : wuAsk ss n = false) : wuOk ss n = false ∧ wuOf ss n = [] := by
  have : wuOk ss n = false := by unfold wuOk; rw [h]; rfl
  exact ⟨this, wuOf_no this⟩
theorem wu_yes {ss : List ByteArray} {n : Nat} (h : wuAsk ss n = true) : wuOk ss n = wuN ss n ∧ wuOf ss n = wuR ss n := by
  have h1 : wuOk ss n = wuN ss n := by unfold wuOk wuN; rw [h, Int.toNat_natCast, Bool.true_and]
  refine ⟨h1, ?_⟩
  unfold wuOf wuR
  rw [h1, Int.toNat_natCast]
theorem wuR_len (ss : List ByteArray) (n : Nat) : (wuR ss n).length ≤ 200 := by
  cases h : wuN ss n
  · rw [wuR_no h]; simp
  · rw [wuR_yes h]
    exact of_decide_eq_true h
theorem spec_bsLength (n : Int) (w : World) : Calls Tryd.prog 34 #[.int .i64 n] w fun e w' => e = .returned (.bool (decide (0 ≤ n ∧ n ≤ 8))) ∧ w = w' := by
  have hc := Lib.hid (fun W => spec_l1In n 0 8 W)
  generalize decide (0 ≤ n ∧ n ≤ 8) = q at hc ⊢
  go_enter Tryd.func34, Tryd.ntmps34
  go_wp2_with (go_at_call 54; refine (hc.out _).mono ?_; rintro e w1 ⟨rfl, rfl⟩)
  go_ret
  exact ⟨rfl, rfl⟩
set_option maxHeartbeats 3200000 in
theorem spec_WrittenUpTo (A : Option Addr) (ss : List ByteArray) (c : Nat) (n : Int) (w : World) (h : Row w w.heap.size A (strs ss)) (hl : ss.length ≤ 9223372036854775807) (hs : ∀ s ∈ ss, s.size ≤ 9223372036854775807) (hna : -9223372036854775808 ≤ n) (hnb : n ≤ 9223372036854775807) :
    Calls Tryd.prog 16 #[.slice A ss.length c, .int .i64 n] w (OkStrs w (wuOf ss n) (wuOk ss n)) := by
  have hc := spec_wdSet A ss c w h hl hs
  have hb := fun u => spec_bsLength n u
  cases hq : W.isSet ss
  · obtain ⟨e1, e2⟩ := wu_no (n := n) (show wuAsk ss n = false by unfold wuAsk; rw [hq]; rfl)
    rw [e2, e1]
    rw [hq] at hc
    replace hc := Lib.hid hc
    clear hq h hs hb e1 e2
    go_enter Tryd.func16, Tryd.ntmps16
    go_wp2_with (go_at_call 29; refine hc.out.mono ?_; rintro e w' ⟨rfl, rfl⟩)
    go_ret2
    exact okStrs_nil _ _ _ (Below.refl _ _)
  · rw [hq] at hc
    cases hn : decide (0 ≤ n ∧ n ≤ 8)
    · obtain ⟨e1, e2⟩ := wu_no (n := n) (show wuAsk ss n = false by unfold wuAsk; rw [hn]; simp)
      rw [e2, e1]
      rw [hn] at hb
      replace hc := Lib.hid hc
      replace hb := Lib.hid hb
      clear hq hn h hs e1 e2
      go_enter Tryd.func16, Tryd.ntmps16
      go_wp2_with fail
      refine hc.out.mono ?_
      rintro e w1 ⟨rfl, rfl⟩
      go_wp2_with fail
      refine (hb.out _).mono ?_
      rintro e w2 ⟨rfl, rfl⟩
      go_wp2
      go_ret2
      exact okStrs_nil _ _ _ (Below.refl _ _)
    · rw [hn] at hb
      have hn2 := of_decide_eq_true hn
      obtain ⟨m, rfl⟩ := Int.eq_ofNat_of_zero_le hn2.1
      obtain ⟨e1, e2⟩ := wu_yes (ss := ss) (n := m) (show wuAsk ss m = true by unfold wuAsk; rw [hq, hn]; rfl)
      rw [e2, e1]
      have hw := spec_bsWritten A ss c m w h hq (by omega)
      have hlen := wuR_len ss m
      have hno := @wuR_no ss m
      obtain ⟨i0, hi, hz0, hz1, hz2⟩ := info_parts infoStr
      have HR := Lib.hid (And.intro hi (And.intro hz0 (And.intro hz1 hz2)))
      replace hc := Lib.hid hc
      replace hb := Lib.hid hb
      clear hq hn h hs e1 e2 hi hz0 hz1 hz2 hn2
      generalize wuR ss m = R at hw hlen hno ⊢
      generalize wuN ss m = ok at hw hno ⊢
      replace hw := Lib.hid hw
      cases ok
      · have hR0 := Lib.hid (hno rfl)
        clear hno
        go_enter Tryd.func16, Tryd.ntmps16
        go_wp2_with fail
        refine hc.out.mono ?_
        rintro e w1 ⟨rfl, rfl⟩
        go_wp2_with fail
        refine (hb.out _).mono ?_
        rintro e w2 ⟨rfl, rfl⟩
        go_wp2_with fail
        refine hw.out.mono ?_
        rintro e w3 ⟨A3, c3, rfl, hr3, hB3⟩
        have HB := Lib.hid hB3
        clear hr3 hB3
        go_wp2
        go_ret2
        rw [hR0.out]
        exact okStrs_nil _ _ _ HB.out
      · clear hno
        go_enter Tryd.func16, Tryd.ntmps16
        go_wp2_with fail
        refine hc.out.mono ?_
        rintro e w1 ⟨rfl, rfl⟩
        go_wp2_with fail
        refine (hb.out _).mono ?_
        rintro e w2 ⟨rfl, rfl⟩
        go_wp2_with fail
        refine hw.out.mono ?_
        rintro e w3 ⟨A3, c3, rfl, hr3, hB3⟩
        have hown0 := Lib.hid (World.ownsRow_made (base := w3.heap.size) (e := 9) (size := 1) w3 #[] 0 (Nat.le_refl _) (Nat.zero_le _) rfl)
        have hBa := Lib.hid ((Below.refl w3.heap.size w3).alloc (Nat.le_refl _) (.cells #[] 9))
        have HB := Lib.hid (And.intro (hr3.below hBa.out) hB3)
        have hsz := hB3.size
        clear hr3 hB3
        go_wp2_with (at_builtin; refine wpList_append_row _ rfl _ _ 22 rfl w3.heap.size 9 i0 _ 16 Tryd.underlying22 HR.out.1 HR.out.2.1 HR.out.2.2.1 HR.out.2.2.2 rfl (.slice (some ⟨w3.heap.size, 0, none⟩) 0 0) 0 [] rfl hown0.out w3.heap.size A3 c3 (strs R) (by rw [strs_length]; rfl) HB.out.1 (strs_cells _) (by rw [strs_length]; unfold maxLen; omega) (by rw [strs_length]; omega) (by simp) ?_)
        intro v4 w4 ho4 hg4
        have hF := Lib.hid (And.intro (own_nx ho4 (m := R.length) (ys := strs R) (by simp [strs_length]) (by simp)) ((HB.out.2.trans (hBa.out.mono hsz)).grown hg4 (by simp; omega) (fun g hg => by have hg2 : some w3.heap.size = some g := hg; injection hg2 with hg2; omega)))
        clear ho4 hg4
        go_wp2
        go_ret2
        exact okStrs_of (own_base hF.out.1 hsz) rfl hF.out.2
end Go.Proofs.YtlmcemdbalhkiaaDoor
