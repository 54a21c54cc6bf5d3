/-
  WHAT THIS FILE PROVES: the hull of a set and the steps to it: the specification's functions give the plain lists; asked: a slice of texts in memory, lengths that an int holds and no more than the capacity.
-/
import Derived.Test.YtlmcemdbalhkiaaDoorHlS
import Derived.Test.YtlmcemdbalhkiaaDoorHlM
import Derived.Deep.LoopGhost
namespace Go.Proofs.YtlmcemdbalhkiaaDoor
open Go.RowKit Go.Shelf

theorem stp_some {l : List ByteArray} (h : stpB l = true) : stpO l = some (stpL l) := by
  unfold stpB at h
  unfold stpL
  cases hs : stpO l with
  | none => rw [hs] at h; cases h
  | some m => rfl
theorem stp_no {l : List ByteArray} (h : stpB l = false) : stpO l = none := by
  unfold stpB at h
  cases hs : stpO l with
  | none => rfl
  | some m => rw [hs] at h; cases h

set_option maxHeartbeats 6400000 in
set_option maxRecDepth 100000 in
theorem spec_bsSteps (A : Option Addr) (ss : List ByteArray) (c : Nat) (w : World) (h : Row w w.heap.size A (strs ss)) (hset : W.isSet ss = true) (hcap : ss.length ≤ c) :
    Calls Tryd.prog 43 #[.slice A ss.length c] w (GivesSS 22 9 w (strss (hlB ss))) := by
  have hlg := Lib.hid (spec_bsLeast A ss c w h hset hcap)
  have hst := Lib.hid (hst_first hset)
  obtain ⟨R, hR⟩ : ∃ R, R = hlB ss := ⟨_, rfl⟩
  rw [← hR]
  replace hR := Lib.hid hR
  obtain ⟨i0, hi, hz0, hz1, hz2⟩ := info_parts infoSS
  have HR := Lib.hid (And.intro hi (And.intro hz0 (And.intro hz1 hz2)))
  clear h hset hi hz0 hz1 hz2
  go_enter Tryd.func43, Tryd.ntmps43
  go_wp2_with fail
  refine hlg.out.mono ?_
  rintro e w1 ⟨A1, c1, rfl, ho1, hB1⟩
  have hS1 := ss_one ho1 hB1.size
  have H1 := Lib.hid (And.intro hS1 (hB1.alloc hB1.size (.cells #[.slice A1 (lgB ss).length c1] 22)))
  clear ho1 hB1 hS1 hlg
  generalize lgB ss = l1 at H1 hst ⊢
  go_wp2_with fail
  go_loopg [3] 98 (fun gk v wr => ∃ (out : List (List ByteArray)) (l : List ByteArray) (f : Nat) (vs : List Value), Hid (f < gk) ∧ out.length + gk ≤ 98 ∧ Hid (Hst ss out l f) ∧ OwnAt wr w.heap.size 22 9 v vs (strss (out ++ [l])) ∧ Below w.heap.size w wr)
  case atStart => exact ⟨[], l1, 97, _, (by decide : 97 < 98), Nat.le_refl _, hst.out, H1.out.1, H1.out.2⟩
  case round =>
    obtain ⟨out, l, f, vs, hf, hok, hS, hV, hB⟩ := hrel
    obtain ⟨Av, cv, rfl⟩ := own_slice hV.own
    have hlen : (strss (out ++ [l])).length = out.length + 1 := by rw [strss_length, List.length_append]; rfl
    clear H1
    rw [hlen] at hV ⊢
    obtain ⟨Al, cl, hlast, hrow⟩ := ss_last hV
    obtain ⟨g0, rfl, hg0, hg1⟩ := own_form (show wr.ownsRow w.heap.size 22 1 (.slice Av (out.length + 1) cv) (out.length + 1) vs from by have := hV.own; rwa [hlen] at this) (by omega)
    have c1 := (show wr.ownsRow w.heap.size 22 1 (.slice (some ⟨g0, 0, none⟩) (out.length + 1) cv) (out.length + 1) vs from by have := hV.own; rwa [hlen] at this).cellAt out.length (by omega)
    rw [hlast] at c1
    have hbs := Lib.hid (spec_bsStep Al l cl wr (Row.of_own hrow) hS.out.2.1)
    have hO := Lib.hid (And.intro hV hB)
    have hsz := hB.size
    have hlh := Lib.hid hlen
    clear hV hB hrow hlast hlen
    have hsub : ((out.length : Int) + 1) - 1 = (out.length : Int) := by omega
    cases hq : stpB l
    · rw [hq] at hbs
      have hend := Lib.hid (hR.out.trans (hS.out.last (stp_no hq)))
      clear hq
      generalize stpL l = m at hbs
      go_wp2_with fail
      refine hbs.out.mono ?_
      rintro e w2 ⟨A2, c2, rfl, ho2, hB2⟩
      have hO2 := Lib.hid (And.intro (hO.out.1.below hB2) (hO.out.2.trans (hB2.mono hsz)))
      clear ho2 hB2 hbs
      go_wp2
      go_ret
      rw [hend.out]
      have hfin := hO2.out.1
      exact ⟨_, _, by rw [hlh.out]; rfl, ⟨vs, by rw [hlh.out]; exact hfin⟩, hO2.out.2⟩
    · rw [hq] at hbs
      obtain ⟨f2, hf2, hS2⟩ := hS.out.next (stp_some hq)
      have HS2 := Lib.hid hS2
      have hfk := hf.out
      clear hq hS2 hS
      generalize stpL l = m at hbs HS2
      go_wp2_with fail
      refine hbs.out.mono ?_
      rintro e w2 ⟨A2, c2, rfl, ho2, hB2⟩
      have hV2 := Lib.hid (show (w2.alloc (.cells #[.slice A2 m.length c2] 22)).ownsRow w.heap.size 22 1 (.slice (some ⟨g0, 0, none⟩) (out.length + 1) cv) (out.length + 1) vs from by
        have := ((hO.out.1.below hB2).below ((Below.refl w2.heap.size w2).alloc (Nat.le_refl _) (.cells #[.slice A2 m.length c2] 22))).own
        rwa [hlh.out] at this)
      have hB3 := Lib.hid ((hO.out.2.trans (hB2.mono hsz)).alloc (Nat.le_trans hsz hB2.size) (.cells #[.slice A2 m.length c2] 22))
      have H2 := Lib.hid (And.intro ho2 hB2)
      have hsz2 := hB2.size
      clear ho2 hB2 hbs
      go_wp2_with (at_builtin; refine wpList_append_own _ rfl _ _ 33 rfl w.heap.size 22 i0 (.slice none 0 0) 1 24 Tryd.underlying33 HR.out.1 HR.out.2.1 HR.out.2.2.1 HR.out.2.2.2 rfl (by decide) (.slice (some ⟨g0, 0, none⟩) (out.length + 1) cv) (out.length + 1) vs rfl hV2.out ⟨w2.heap.size, 0, none⟩ 1 1 [.slice A2 m.length c2] rfl rfl (cells_sl _ _ _) (one_sl _ _ _) (by unfold maxLen; omega) (by omega) (by simp; omega) ?_)
      intro v5 w5 ho5 hg5 _
      have hP5 := ss_push hO.out.1 hsz H2.out.2 H2.out.1 (by rw [← strss_length, hlh.out]; exact ho5) hg5
      have hB5 := hB3.out.grown hg5 (by simp; omega) (fun g hg => (hV2.out.lt g hg).1)
      have H5 := Lib.hid (And.intro hP5 hB5)
      clear hP5 hB5 ho5 hg5 hV2 hB3 H2 hO
      go_wp2
      go_roundg (gk - 1)
      case measure => omega
      case rel => exact ⟨out ++ [l], m, f2, _, by show f2 < gk - 1; omega, by rw [List.length_append, List.length_singleton]; omega, HS2.out, H5.out.1, H5.out.2⟩
/-- the last one -/
def lastL (L : List (List ByteArray)) : List ByteArray := L.getLastD []
theorem hlB_last (ss : List ByteArray) : ∃ out, hlB ss = out ++ [lastL (hlB ss)] := by
  have h := hlB_ne ss
  generalize hlB ss = L at h
  refine ⟨L.dropLast, ?_⟩
  unfold lastL
  rw [List.getLastD_eq_getLast?, List.getLast?_eq_some_getLast h]
  exact (List.dropLast_concat_getLast h).symm
/-- what FreeHull tells -/
noncomputable def fhOf (ss : List ByteArray) : List ByteArray := if W.isSet ss then lastL (hlB ss) else []
theorem fhOf_no {ss : List ByteArray} (h : W.isSet ss = false) : fhOf ss = [] := by unfold fhOf; rw [h]; rfl
theorem fhOf_yes {ss : List ByteArray} (h : W.isSet ss = true) : fhOf ss = lastL (hlB ss) := by unfold fhOf; rw [h]; rfl
theorem fhOf_len (ss : List ByteArray) : (fhOf ss).length ≤ 12 := by
  cases h : W.isSet ss
  · rw [fhOf_no h]; simp
  · rw [fhOf_yes h]
    obtain ⟨out, ho⟩ := hlB_last ss
    have hm : lastL (hlB ss) ∈ hlB ss := by
      generalize lastL (hlB ss) = l at ho ⊢
      rw [ho]
      exact List.mem_append_right _ (List.mem_singleton.2 rfl)
    exact W.isSet_len _ (hlL_sets 97 _ (lgB_set h) _ hm)

set_option maxHeartbeats 800000 in
theorem spec_HullSteps (A : Option Addr) (ss : List ByteArray) (c : Nat) (w : World) (h : Row w w.heap.size A (strs ss)) (hcap : ss.length ≤ c) (hl : ss.length ≤ 9223372036854775807) (hs : ∀ s ∈ ss, s.size ≤ 9223372036854775807) :
    Calls Tryd.prog 22 #[.slice A ss.length c] w (OkSS 22 9 w (strss (hsOf ss)) (W.isSet ss)) := by
  have hc := spec_wdSet A ss c w h hl hs
  cases hq : W.isSet ss
  · rw [hsOf_no hq]
    rw [hq] at hc
    replace hc := Lib.hid hc
    clear hq h hs
    go_enter Tryd.func22, Tryd.ntmps22
    go_wp2_with (go_at_call 29; refine hc.out.mono ?_; rintro e w' ⟨rfl, rfl⟩)
    go_ret2
    exact okSS_nil _ _ _ _ _ (Below.refl _ _)
  · rw [hsOf_yes hq]
    have hw := fun (u : World) (hB : Below w.heap.size w u) => spec_bsSteps A ss c u ((h.below hB).more hB.size) hq hcap
    rw [hq] at hc
    replace hc := Lib.hid hc
    clear hq h hs
    generalize hlB ss = R at hw ⊢
    replace hw := Lib.hid hw
    go_enter Tryd.func22, Tryd.ntmps22
    go_wp2_with fail
    refine hc.out.mono ?_
    rintro e w' ⟨rfl, rfl⟩
    have hB0 : Below w.heap.size w w := (Below.refl _ _)
    have HB0 := Lib.hid hB0
    have hw2 := Lib.hid (hw.out _ hB0)
    clear hB0
    go_wp2_with fail
    refine hw2.out.mono ?_
    rintro e w2 ⟨A1, c1, rfl, ho, hB2⟩
    have HO := Lib.hid (And.intro (ownSS_lower ho HB0.out.size) (HB0.out.trans (hB2.mono HB0.out.size)))
    clear ho hB2
    go_wp2
    go_ret2
    exact okSS_of HO.out.1 rfl HO.out.2
set_option maxHeartbeats 1600000 in
theorem spec_FreeHull (A : Option Addr) (ss : List ByteArray) (c : Nat) (w : World) (h : Row w w.heap.size A (strs ss)) (hcap : ss.length ≤ c) (hl : ss.length ≤ 9223372036854775807) (hs : ∀ s ∈ ss, s.size ≤ 9223372036854775807) :
    Calls Tryd.prog 20 #[.slice A ss.length c] w (OkStrs w (fhOf ss) (W.isSet ss)) := by
  have hc := spec_wdSet A ss c w h hl hs
  cases hq : W.isSet ss
  · rw [fhOf_no hq]
    rw [hq] at hc
    replace hc := Lib.hid hc
    clear hq h hs
    go_enter Tryd.func20, Tryd.ntmps20
    go_wp2_with (go_at_call 29; refine hc.out.mono ?_; rintro e w' ⟨rfl, rfl⟩)
    go_ret2
    exact okStrs_nil _ _ _ (Below.refl _ _)
  · rw [fhOf_yes hq]
    have hw := fun (u : World) (hB : Below w.heap.size w u) => spec_bsSteps A ss c u ((h.below hB).more hB.size) hq hcap
    obtain ⟨out, hout⟩ := hlB_last ss
    have hon : out.length ≤ 98 := by
      have := hlB_length ss
      rw [hout, List.length_append] at this
      omega
    rw [hq] at hc
    replace hc := Lib.hid hc
    clear hq h hs
    rw [hout] at hw
    generalize lastL (hlB ss) = l at hw ⊢
    have hlen := Lib.hid (show (strss (out ++ [l])).length = out.length + 1 by rw [strss_length, List.length_append]; rfl)
    replace hw := Lib.hid hw
    clear hout
    go_enter Tryd.func20, Tryd.ntmps20
    go_wp2_with fail
    refine hc.out.mono ?_
    rintro e w' ⟨rfl, rfl⟩
    have hB0 : Below w.heap.size w w := (Below.refl _ _)
    have HB0 := Lib.hid hB0
    have hw2 := Lib.hid (hw.out _ hB0)
    clear hB0
    go_wp2_with fail
    refine hw2.out.mono ?_
    rintro e w2 ⟨A1, c1, rfl, ⟨vs, hV⟩, hB2⟩
    obtain ⟨Al, cl, hlast, hrow⟩ := ss_last hV
    have hown := hV.own
    rw [hlen.out] at hown ⊢
    obtain ⟨g0, rfl, hg0, hg1⟩ := own_form hown (by omega)
    have c1 := hown.cellAt out.length (by omega)
    rw [hlast] at c1
    have HO := Lib.hid (And.intro (own_base hrow HB0.out.size) (HB0.out.trans (hB2.mono HB0.out.size)))
    clear hV hown hlast hrow hB2 hw2
    have hsub : ((out.length : Int) + 1) - 1 = (out.length : Int) := by omega
    go_wp2
    go_ret2
    exact okStrs_of HO.out.1 rfl HO.out.2
end Go.Proofs.YtlmcemdbalhkiaaDoor
