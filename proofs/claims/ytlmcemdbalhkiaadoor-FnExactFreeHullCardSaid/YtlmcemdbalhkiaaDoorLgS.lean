/-
  WHAT THIS FILE PROVES: the least generators of a set: the specification's functions give the plain list; asked: a slice of texts in memory, lengths that an int holds and no more than the capacity.
-/
import Derived.Test.YtlmcemdbalhkiaaDoorLg
import Derived.Test.YtlmcemdbalhkiaaDoorRdS
import Derived.Test.YtlmcemdbalhkiaaDoorMemS
import Derived.Test.YtlmcemdbalhkiaaDoorIsSet
import Derived.Test.YtlmcemdbalhkiaaDoorAppend
import Derived.Deep.RegionLaw
namespace Go.Proofs.YtlmcemdbalhkiaaDoor
open Go.RowKit Go.Shelf

theorem reads_none {ss : List ByteArray} {s : ByteArray} : (intss ((W.reads ss s.data.toList).take 1)).length = if W.ways ss s.data.toList = 0 then 0 else 1 := by
  have h := W.reads_length ss s.data.toList
  unfold intss
  rw [List.length_map, List.length_take, h]
  split <;> omega
theorem wo_strs (ss : List ByteArray) (k : Nat) (h : k < ss.length) : [] ++ strs (ss.take k) ++ strs (ss.drop (k + 1)) = strs (wo ss k) ∧ 0 + k + (ss.length - (k + 1)) = (wo ss k).length := by
  refine ⟨?_, ?_⟩
  · rw [List.nil_append, ← strs_append]
    rfl
  · rw [wo_length ss k h]
    omega

set_option maxHeartbeats 6400000 in
set_option maxRecDepth 100000 in
theorem spec_bsLeast (A : Option Addr) (ss : List ByteArray) (c : Nat) (w : World) (h : Row w w.heap.size A (strs ss)) (hset : W.isSet ss = true) (hcap : ss.length ≤ c) :
    Calls Tryd.prog 30 #[.slice A ss.length c] w (GivesStrs w (lgB ss)) := by
  have h12 := W.isSet_len ss hset
  obtain ⟨i0, hi, hz0, hz1, hz2⟩ := info_parts infoStr
  have HR := Lib.hid (And.intro hi (And.intro hz0 (And.intro hz1 hz2)))
  have Hset := Lib.hid hset
  have hall := Lib.hid (lgTo_all ss)
  replace h := Lib.hid h
  clear hi hz0 hz1 hz2 hset
  go_enter Tryd.func30, Tryd.ntmps30
  go_wp2
  go_loopw [3, 9] (fun v i wr => ∃ k : Nat, k ≤ ss.length ∧ i = .int .i64 k ∧ wr.ownsRow w.heap.size 9 1 v (lgTo ss k).length (strs (lgTo ss k)) ∧ Below w.heap.size w wr)
    (fun _ i _ => ss.length - (intOf i).toNat)
  case atStart => exact ⟨0, Nat.zero_le _, rfl, World.ownsRow_nil _ _ _ _, Below.refl _ _⟩
  case round =>
    obtain ⟨k, hk, rfl, ho, hB⟩ := hrel
    obtain ⟨Ar, cr, rfl⟩ := own_slice ho
    have hO := Lib.hid (And.intro ho hB)
    clear ho hB
    by_cases hlt : k < ss.length
    · obtain ⟨b, off, rfl, hb, hcc⟩ := h.out (by rw [strs_length]; omega)
      have hlt' : (k : Int) < (ss.length : Int) := by omega
      have c1 := (hO.out.2.cell (p := ⟨b, off + k, none⟩) hb).trans (hcc k _ (strs_nth ss k hlt))
      clear hcc
      have hsz := W.short_size _ (W.isSet_short ss Hset.out k hlt)
      have Hs := Lib.hid (lgTo_succ ss k hlt)
      have Hlg := Lib.hid (lg_wo Hset.out k hlt)
      have hln := lgTo_length ss k
      have hrn := Lib.hid (@reads_none (wo ss k) (W.nth ss k))
      have hdr := Lib.hid (fun A c u h => spec_dcReadings A (wo ss k) c (wo_set Hset.out k) _ (W.nth ss k) 1 u rfl h (by omega) (by omega) (by omega))
      generalize W.nth ss k = s at c1 hsz Hs Hlg hrn hdr
      have hrow := (h.out.below hO.out.2).more hO.out.2.size
      have hf := Lib.hid (hrow.front k)
      have hbk := Lib.hid (hrow.back (k + 1))
      have hown0 := Lib.hid (World.ownsRow_made (base := wr.heap.size) (e := 9) (size := 1) wr #[] 0 (Nat.le_refl _) (Nat.zero_le _) rfl)
      have hwr : IntKind.i64.wrap ((k : Int) + 1) = (k : Int) + 1 := IntWalk.i64_in _ (by omega)
      have hkn : ((k : Int) + 1).toNat = k + 1 := by omega
      have hk0 : (0 : Int) ≤ (k : Int) + 1 := by omega
      have hkc : (k : Int) + 1 ≤ (ss.length : Int) := by omega
      have hkc0 : (k : Int) ≤ (c : Int) := by omega
      have hlt0 := Lib.hid (show (strs (ss.take k)).length = k by rw [strs_length, List.length_take]; omega)
      have hld0 := Lib.hid (show (strs (ss.drop (k + 1))).length = ss.length - (k + 1) by rw [strs_length, List.length_drop])
      have hB0 := Lib.hid ((Below.refl wr.heap.size wr).alloc (Nat.le_refl _) (.cells #[] 9))
      have hR1 : Hid (Row ((wr.alloc (.cells #[] 9)).drew) wr.heap.size (some ⟨b, off, none⟩) (strs (ss.take k))) := by
        have := hf.out.below hB0.out
        rw [strs_take] at this
        exact this
      have hO1 : Hid (((wr.alloc (.cells #[] 9)).drew).ownsRow wr.heap.size 9 1 (.slice (some ⟨wr.heap.size, 0, none⟩) 0 0) 0 []) := hown0.out
      have hR2' : Hid (Row ((wr.alloc (.cells #[] 9)).drew) wr.heap.size (some ⟨b, off + (k + 1), none⟩) (strs (ss.drop (k + 1)))) := by
        have := hbk.out.below hB0.out
        rw [strs_drop] at this
        exact this
      have hws := Lib.hid (wo_strs ss k hlt)
      clear hrow
      by_cases hck : c = k + 1
      case' pos =>
        have hR2 : Hid (Row ((wr.alloc (.cells #[] 9)).drew) wr.heap.size (some ⟨b, off, none⟩) (strs (ss.drop (k + 1)))) := fun hp => by
          rw [hld0.out] at hp
          omega
        subst hck
        have hkk : (k : Int) ≤ (k : Int) + 1 := by omega
        go_wp2_with fail
        go_region_law (first | (refine step_append_row _ rfl (.tmp 14) (.tmp 17) 22 rfl wr.heap.size 9 i0 _ 16 Tryd.underlying22 HR.out.1 HR.out.2.1 HR.out.2.2.1 HR.out.2.2.2 rfl (.slice (some ⟨wr.heap.size, 0, none⟩) 0 0) 0 [] (by simp [Act.eval]) hO1.out wr.heap.size (some ⟨b, off, none⟩) (k + 1) (strs (ss.take k)) (by rw [hlt0.out]; simp [Act.eval]) hR1.out (strs_cells _) (by rw [hlt0.out]; unfold maxLen; omega) (by rw [hlt0.out]; omega) (by simp) (fun v1 w1 ho1 hg1 => ?_)) | (refine step_append_row _ rfl (.tmp 18) (.tmp 22) 22 rfl wr.heap.size 9 i0 _ 16 Tryd.underlying22 HR.out.1 HR.out.2.1 HR.out.2.2.1 HR.out.2.2.2 rfl v1 _ _ (by simp [Act.eval]) ho1 wr.heap.size (some ⟨b, off, none⟩) 0 (strs (ss.drop (k + 1))) (by rw [hld0.out, show ss.length - (k + 1) = 0 by omega]; simp [Act.eval]) (hR2.out.kept hg1 (by simp) (fun g hg => by have hg2 : some wr.heap.size = some g := hg; injection hg2 with hg2; omega)) (strs_cells _) (by rw [hlt0.out, hld0.out]; unfold maxLen; omega) (by rw [hlt0.out, hld0.out]; omega) (by have := hg1.size; simp at this; omega) (fun v2 w2 ho2 hg2 => ?_)))
      case' neg =>
        have hR2 := hR2'
        go_wp2_with fail
        go_region_law (first | (refine step_append_row _ rfl (.tmp 14) (.tmp 17) 22 rfl wr.heap.size 9 i0 _ 16 Tryd.underlying22 HR.out.1 HR.out.2.1 HR.out.2.2.1 HR.out.2.2.2 rfl (.slice (some ⟨wr.heap.size, 0, none⟩) 0 0) 0 [] (by simp [Act.eval]) hO1.out wr.heap.size (some ⟨b, off, none⟩) c (strs (ss.take k)) (by rw [hlt0.out]; simp [Act.eval]) hR1.out (strs_cells _) (by rw [hlt0.out]; unfold maxLen; omega) (by rw [hlt0.out]; omega) (by simp) (fun v1 w1 ho1 hg1 => ?_)) | (refine step_append_row _ rfl (.tmp 18) (.tmp 22) 22 rfl wr.heap.size 9 i0 _ 16 Tryd.underlying22 HR.out.1 HR.out.2.1 HR.out.2.2.1 HR.out.2.2.2 rfl v1 _ _ (by simp [Act.eval]) ho1 wr.heap.size (some ⟨b, off + (k + 1), none⟩) (c - (k + 1)) (strs (ss.drop (k + 1))) (by rw [hld0.out]; simp [Act.eval]) (hR2.out.kept hg1 (by simp) (fun g hg => by have hg2 : some wr.heap.size = some g := hg; injection hg2 with hg2; omega)) (strs_cells _) (by rw [hlt0.out, hld0.out]; unfold maxLen; omega) (by rw [hlt0.out, hld0.out]; omega) (by have := hg1.size; simp at this; omega) (fun v2 w2 ho2 hg2 => ?_)))
      all_goals
        have hF : Hid (w2.ownsRow wr.heap.size 9 1 v2 (wo ss k).length (strs (wo ss k)) ∧ Below wr.heap.size wr w2) := by
          refine ⟨?_, ?_⟩
          · have h1 := ho2
            rw [hlt0.out, hld0.out] at h1
            rw [hws.out.1] at h1
            rw [hws.out.2] at h1
            exact h1
          · have b1 : Below wr.heap.size wr ((wr.alloc (.cells #[] 9)).drew) := hB0.out.drew
            have b2 := b1.grown hg1 (by simp) (fun g hg => by have hg2 : some wr.heap.size = some g := hg; injection hg2 with hg2; omega)
            exact b2.grown hg2 (by have := hg1.size; simp at this; omega) (fun g hg => (ho1.lt g hg).1)
        clear ho1 hg1 ho2 hg2 hR1 hO1 hR2' hR2 hB0 hown0 hf hbk hlt0 hld0 hws
        obtain ⟨A2, c2, rfl⟩ := own_slice hF.out.1
        have hdr2 := Lib.hid (hdr.out A2 c2 w2 (Row.of_own hF.out.1))
        clear hdr
        generalize hwk : wo ss k = os at hF hdr2 Hlg hrn
        replace hwk := Lib.hid hwk
        go_wp2_with fail
        refine hdr2.out.mono ?_
        rintro e w3 ⟨A3, c3, rfl, ho3, hB3⟩
        have hO3 := Lib.hid (And.intro (own_below (own_below hO.out.1 hF.out.2) hB3) ((hO.out.2.trans (hF.out.2.mono hO.out.2.size)).trans (hB3.mono (Nat.le_trans hO.out.2.size hF.out.2.size))))
        clear ho3 hB3 hdr2 hF
        generalize hr3 : (intss ((W.reads os s.data.toList).take 1)).length = n3 at hrn ⊢
        clear hr3
        have hn3 := hrn.out
        by_cases hw0 : W.ways os s.data.toList = 0
        · rw [if_pos hw0] at hn3
          have Hq : Hid (lg ss s = true) := by
            show lg ss s = true
            rw [Hlg.out, decide_eq_true hw0]
          clear hw0 Hlg
          subst hn3
          go_wp2_with (at_builtin; refine wpList_append_own _ rfl _ _ 22 rfl w.heap.size 9 i0 (.string ByteArray.empty) 1 16 Tryd.underlying22 HR.out.1 HR.out.2.1 HR.out.2.2.1 HR.out.2.2.2 rfl (by decide) _ _ _ rfl (hO3.out.1.alloc _) ⟨w3.heap.size, 0, none⟩ 1 1 [.string s] rfl rfl ?c1 ?c2 ?c3 ?c4 ?c5 ?_)
          case c1 => exact cell_one_new _ _ _
          case c2 => exact one_text _
          case c3 => unfold maxLen; omega
          case c4 => omega
          case c5 => have := hO3.out.2.size; simp; omega
          intro v' w4 hown' hgrow _
          have hlt4 := hO3.out.1.lt
          have hO4 := Lib.hid (And.intro hown' ((hO3.out.2.alloc hO3.out.2.size _).grown hgrow (by have := hO3.out.2.size; simp; omega) (fun g hg => (hlt4 g hg).1)))
          clear hown' hgrow hlt4
          go_wp2
          go_roundw
          case rel =>
            have e1 : lgTo ss (k + 1) = lgTo ss k ++ [s] := by rw [Hs.out, if_pos Hq.out]
            refine ⟨k + 1, by omega, by go_num, own_nx hO4.out.1 ?_ ?_, hO4.out.2⟩
            · rw [e1, List.length_append]
              rfl
            · rw [e1, strs_snoc]
          case measure => simp [intOf]; omega
        · rw [if_neg hw0] at hn3
          have Hq : Hid (lg ss s = false) := by
            show lg ss s = false
            rw [Hlg.out, decide_eq_false hw0]
          clear hw0 Hlg
          subst hn3
          go_wp2
          go_roundw
          case rel =>
            refine ⟨k + 1, by omega, by go_num, ?_, hO3.out.2⟩
            rw [Hs.out, Hq.out]
            simpa using hO3.out.1
          case measure => simp [intOf]; omega
    · have hke : k = ss.length := by omega
      subst hke
      have hO2 := hO.out
      rw [hall.out] at hO2
      have HO := Lib.hid hO2
      clear hO2 hO
      rw [hall.out]
      generalize lgTo ss ss.length = acc at *
      go_wp2
      go_ret
      exact ⟨_, _, rfl, HO.out.1, HO.out.2⟩

set_option maxHeartbeats 800000 in
theorem spec_LeastGenerators (A : Option Addr) (ss : List ByteArray) (c : Nat) (w : World) (h : Row w w.heap.size A (strs ss)) (hcap : ss.length ≤ c) (hl : ss.length ≤ 9223372036854775807) (hs : ∀ s ∈ ss, s.size ≤ 9223372036854775807) :
    Calls Tryd.prog 10 #[.slice A ss.length c] w (OkStrs w (lgOf ss) (W.isSet ss)) := by
  have hc := spec_wdSet A ss c w h hl hs
  cases hq : W.isSet ss
  · rw [lgOf_no hq]
    rw [hq] at hc
    replace hc := Lib.hid hc
    clear hq h hs
    go_enter Tryd.func10, Tryd.ntmps10
    go_wp2_with (go_at_call 29; refine hc.out.mono ?_; rintro e w' ⟨rfl, rfl⟩)
    go_ret2
    exact okStrs_nil _ _ _ (Below.refl _ _)
  · rw [lgOf_yes hq]
    have hw := Lib.hid (spec_bsLeast A ss c w h hq hcap)
    rw [hq] at hc
    replace hc := Lib.hid hc
    clear hq h hs
    generalize lgB ss = acc at hw ⊢
    go_enter Tryd.func10, Tryd.ntmps10
    go_wp2_with fail
    refine hc.out.mono ?_
    rintro e w' ⟨rfl, rfl⟩
    go_wp2_with fail
    refine hw.out.mono ?_
    rintro e w1 ⟨A1, c1, rfl, ho, hB⟩
    have HO := Lib.hid (And.intro ho hB)
    clear ho hB
    go_wp2
    go_ret2
    exact okStrs_of HO.out.1 rfl HO.out.2
end Go.Proofs.YtlmcemdbalhkiaaDoor
