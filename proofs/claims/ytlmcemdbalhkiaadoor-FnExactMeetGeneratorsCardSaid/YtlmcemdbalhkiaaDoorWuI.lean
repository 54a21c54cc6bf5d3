/-
  WHAT THIS FILE PROVES: all words of at most so many letters that a set writes: the program's function gives the plain list, or fails if they are too many; asked: a slice of texts in memory, lengths and a number that an int holds.
-/
import Derived.Test.YtlmcemdbalhkiaaDoorWuS
import Derived.Test.YtlmcemdbalhkiaaDoorWbl
import Derived.Test.YtlmcemdbalhkiaaDoorCatN
namespace Go.Proofs.YtlmcemdbalhkiaaDoor
open Go.RowKit Go.Shelf

theorem flat_few (m : Nat) : ∀ T : List (List ByteArray), (∀ L ∈ T, L.length ≤ m) → T.flatten.length ≤ T.length * m
  | [], _ => by simp
  | a :: r, h => by
    have h1 := flat_few m r (fun L hL => h L (List.mem_cons_of_mem _ hL))
    have h2 := h a (List.mem_cons_self ..)
    rw [List.flatten_cons, List.length_append, List.length_cons, Nat.succ_mul]
    omega
theorem tab_flat {ss : List ByteArray} (hset : W.isSet ss = true) {n : Nat} {T : List (List ByteArray)} (hT : Tab ss n T) (hn : n ≤ 8) : (T.drop 1).flatten.length ≤ 524288 := by
  have h1 := flat_few 19683 (T.drop 1) (fun L hL => by
    obtain ⟨i, hi, rfl⟩ := List.getElem_of_mem (List.mem_of_mem_drop hL)
    have := hT.few hset (by omega) i
    rw [List.getD_eq_getElem?_getD, List.getElem?_eq_getElem hi] at this
    exact this)
  have h2 : (T.drop 1).length ≤ 8 := by rw [List.length_drop, hT.len]; omega
  have h3 := Nat.mul_le_mul_right 19683 h2
  omega
theorem RowSS.back1 {w : World} {B b off : Nat} {xss : List (List Value)} (h : RowSS w B (some ⟨b, off, none⟩) xss) : RowSS w B (some ⟨b, off + 1, none⟩) (xss.drop 1) := by
  obtain ⟨vs, h1, h2, h3⟩ := h
  refine ⟨vs.drop 1, h1.back 1, by rw [List.length_drop, List.length_drop, h2], fun i xs hx => ?_⟩
  rw [List.getElem?_drop] at hx ⊢
  exact h3 _ xs hx
theorem rowSS_empty (w : World) (B : Nat) (A : Option Addr) : RowSS w B A [] := ⟨[], fun hp => absurd hp (by simp), rfl, fun i xs hx => by simp at hx⟩

set_option maxHeartbeats 3200000 in
theorem impl_WrittenUpTo (A : Option Addr) (ss : List ByteArray) (c : Nat) (n : Int) (w : World) (h : Row w w.heap.size A (strs ss)) (hl : ss.length ≤ 9223372036854775807) (hs : ∀ s ∈ ss, s.size ≤ 9223372036854775807) (hna : -9223372036854775808 ≤ n) (hnb : n ≤ 9223372036854775807) :
    Calls Tryd.prog 17 #[.slice A ss.length c, .int .i64 n] w (OkStrs w (wuOf ss n) (wuOk ss n)) := by
  have hc := impl_IsSet A ss c w h hl hs
  cases hq : W.isSet ss
  · obtain ⟨e1, e2⟩ := wu_no (n := n) (show wuAsk ss n = false by unfold wuAsk; rw [hq]; rfl)
    rw [e2, e1]
    rw [hq] at hc
    replace hc := Lib.hid hc
    clear hq h hs e1 e2
    go_enter Tryd.func17, Tryd.ntmps17
    go_wp2_with (go_at_call 31; refine hc.out.mono ?_; rintro e w' ⟨rfl, hB⟩)
    go_ret2
    exact okStrs_nil _ _ _ hB
  · rw [hq] at hc
    replace hc := Lib.hid hc
    cases hn : decide (0 ≤ n ∧ n ≤ 8)
    · obtain ⟨e1, e2⟩ := wu_no (n := n) (show wuAsk ss n = false by unfold wuAsk; rw [hn]; simp)
      rw [e2, e1]
      have hn2 := of_decide_eq_false hn
      clear hq hn h hs e1 e2
      by_cases h0 : n < 0
      · go_enter Tryd.func17, Tryd.ntmps17
        go_wp2_with (go_at_call 31; refine hc.out.mono ?_; rintro e w' ⟨rfl, hB⟩)
        go_ret2
        exact okStrs_nil _ _ _ hB
      · have h8 : 8 < n := by omega
        go_enter Tryd.func17, Tryd.ntmps17
        go_wp2_with (go_at_call 31; refine hc.out.mono ?_; rintro e w' ⟨rfl, hB⟩)
        go_ret2
        exact okStrs_nil _ _ _ hB
    · have hn2 := of_decide_eq_true hn
      obtain ⟨m, rfl⟩ := Int.eq_ofNat_of_zero_le hn2.1
      obtain ⟨e1, e2⟩ := wu_yes (ss := ss) (n := m) (show wuAsk ss m = true by unfold wuAsk; rw [hq, hn]; rfl)
      rw [e2, e1]
      have hm8 : m ≤ 8 := by omega
      have hwb := fun (u : World) (hB : Below w.heap.size w u) => impl_writtenByLength A ss c m u ((h.below hB).more hB.size) hq (by omega)
      have Hset := Lib.hid hq
      obtain ⟨R, hR⟩ : ∃ R, R = wuR ss m := ⟨_, rfl⟩
      obtain ⟨ok, hok⟩ : ∃ ok, ok = wuN ss m := ⟨_, rfl⟩
      rw [← hR, ← hok]
      replace hR := Lib.hid hR
      replace hok := Lib.hid hok
      replace hwb := Lib.hid hwb
      have hd1 : ¬ ((m : Int) < 0) := by omega
      have hd2 : ¬ (8 < (m : Int)) := by omega
      clear hq hn h hs e1 e2 hn2
      go_enter Tryd.func17, Tryd.ntmps17
      go_wp2_with fail
      refine hc.out.mono ?_
      rintro e w1 ⟨rfl, hB1⟩
      have hwb1 := Lib.hid (hwb.out w1 hB1)
      have HB1 := Lib.hid hB1
      clear hB1 hwb
      go_wp2_with fail
      refine hwb1.out.mono ?_
      rintro e w2 ⟨T, hT, hI, A2, c2, rfl, hss, hB2⟩
      have hcp : m + 1 ≤ c2 := by
        obtain ⟨vs, hv⟩ := hss
        have hh := hv.own
        rw [strss_length, hT.len] at hh
        exact own_cap hh
      have hform : ∃ g, A2 = some ⟨g, 0, none⟩ := by
        obtain ⟨vs, hv⟩ := hss
        have hh := hv.own
        rw [strss_length, hT.len] at hh
        obtain ⟨g, e, _, _⟩ := own_form hh (by omega)
        exact ⟨g, e⟩
      obtain ⟨g, rfl⟩ := hform
      have hrs := RowSS.of_own hss
      have hwu := wuL_eq (tab_wu hT hI)
      have hfl := tab_flat Hset.out hT hm8
      have hdl : (T.drop 1).length = m := by rw [List.length_drop, hT.len]; omega
      have hcat : Hid (∀ (A3 : Option Addr) (c3 : Nat), RowSS w2 w2.heap.size A3 (strss (T.drop 1)) → Calls Tryd.prog 36 #[.slice A3 m c3] w2 (GivesStrs w2 (wuL ss m))) := fun A3 c3 hr => by
        have := slices_ConcatN A3 (T.drop 1) c3 w2 hr (by omega) hfl
        rw [hdl, ← hwu] at this
        exact this
      have hb1 : RowSS w2 w2.heap.size (some ⟨g, 1, none⟩) (strss (T.drop 1)) := by
        have := hrs.back1
        rw [Nat.zero_add] at this
        unfold strss at this ⊢
        rw [List.map_drop]
        exact this
      have hb0 : m = 0 → RowSS w2 w2.heap.size (some ⟨g, 0, none⟩) (strss (T.drop 1)) := fun e0 => by
        have e9 : T.drop 1 = [] := List.eq_nil_of_length_eq_zero (by rw [hdl]; exact e0)
        rw [e9]
        exact rowSS_empty _ _ _
      have HB2 := Lib.hid (HB1.out.trans (hB2.mono HB1.out.size))
      have Hb := Lib.hid (And.intro hb1 hb0)
      have hlw : (wuL ss m).length ≤ 524288 := by rw [hwu]; exact hfl
      have hcc1 : (1 : Int) ≤ ((m : Int) + 1) := by omega
      have hcc2 : (1 : Int) ≤ (c2 : Int) := by omega
      have hyn : Hid (wuN ss m = decide ((wuL ss m).length ≤ 200)) := rfl
      have hRy := Lib.hid (@wuR_yes ss m)
      have hRn := Lib.hid (@wuR_no ss m)
      clear hT hI hss hB2 hrs hwu hfl hdl hb1 hb0 hwb1
      generalize wuL ss m = L at hcat hlw hyn hRy
      by_cases hc1 : c2 = 1
      case' pos =>
        have hm0 : m = 0 := by omega
        have hct := Lib.hid (hcat.out _ 0 (Hb.out.2 hm0))
        subst hm0
        subst hc1
        clear hcat Hb
      case' neg =>
        have hct := Lib.hid (hcat.out _ (c2 - 1) Hb.out.1)
        clear hcat Hb
      all_goals
        go_wp2_with fail
        refine hct.out.mono ?_
        rintro e w3 ⟨A3, c3, rfl, ho3, hB3⟩
        have H3 := Lib.hid (And.intro (own_base ho3 HB2.out.size) (HB2.out.trans (hB3.mono HB2.out.size)))
        clear ho3 hB3 hct
        by_cases hbig : L.length ≤ 200
        · have hbn : ¬ (200 : Int) < (L.length : Int) := by omega
          have h1 := hyn.out
          rw [decide_eq_true hbig] at h1
          have e1 := Lib.hid (hok.out.trans h1)
          have e2 := Lib.hid (hR.out.trans (hRy.out h1))
          clear h1
          go_wp2
          go_ret2
          rw [e1.out, e2.out]
          exact okStrs_of H3.out.1 rfl H3.out.2
        · have hbn : (200 : Int) < (L.length : Int) := by omega
          have h1 := hyn.out
          rw [decide_eq_false hbig] at h1
          have e1 := Lib.hid (hok.out.trans h1)
          have e2 := Lib.hid (hR.out.trans (hRn.out h1))
          clear h1
          go_wp2
          go_ret2
          rw [e1.out, e2.out]
          exact okStrs_nil _ _ _ H3.out.2
end Go.Proofs.YtlmcemdbalhkiaaDoor
