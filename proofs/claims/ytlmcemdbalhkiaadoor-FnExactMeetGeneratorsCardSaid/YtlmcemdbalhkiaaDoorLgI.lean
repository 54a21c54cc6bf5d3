/-
  WHAT THIS FILE PROVES: the least generators of a set: the program's functions give the plain list; asked: a slice of texts in memory, lengths that an int holds.
-/
import Derived.Test.YtlmcemdbalhkiaaDoorLg
import Derived.Test.YtlmcemdbalhkiaaDoorCntI
import Derived.Test.YtlmcemdbalhkiaaDoorMemS
import Derived.Test.YtlmcemdbalhkiaaDoorIsSet
namespace Go.Proofs.YtlmcemdbalhkiaaDoor
open Go.RowKit Go.Shelf

theorem lg_number (A : Option Addr) (ss : List ByteArray) (c : Nat) (s : ByteArray) (g base : Nat) (w : World) (ho : w.ownsRow base 3 1 (.slice (some ⟨g, 0, none⟩) (s.size + 1) (s.size + 1)) (s.size + 1) (ints (W.tfull 0 (W.tab ss s.data.toList)))) :
    Calls Tryd.prog 53 #[.agg #[.slice A ss.length c, .string s, .slice (some ⟨g, 0, none⟩) (s.size + 1) (s.size + 1)]] w fun e w' => e = .returned (.int .i64 ((W.ways ss s.data.toList : Nat) : Int)) ∧ Below w.heap.size w w' := by
  have hg := (ho.lt g rfl).2
  have c1 := ho.cellAt 0 (by omega)
  have Hh := W.tfull_head ss s.data.toList
  rw [List.drop_zero] at Hh
  rw [ints_get _ _ _ Hh] at c1
  clear Hh ho
  go_enter Tryd.func53, Tryd.ntmps53
  go_wp2
  go_ret
  exact ⟨rfl, (Below.refl _ _).alloc (Nat.le_refl _) _⟩

set_option maxHeartbeats 3200000 in
set_option maxRecDepth 100000 in
theorem impl_generatorsIn (A : Option Addr) (ss : List ByteArray) (c : Nat) (w : World) (h : Row w w.heap.size A (strs ss)) (hset : W.isSet ss = true) :
    Calls Tryd.prog 32 #[.slice A ss.length c] w (GivesStrs w (lgB ss)) := by
  have h12 := W.isSet_len ss hset
  obtain ⟨i0, hi, hz0, hz1, hz2⟩ := info_parts infoStr
  have HR := Lib.hid (And.intro hi (And.intro hz0 (And.intro hz1 hz2)))
  have Hset := Lib.hid hset
  have hall := Lib.hid (lgTo_all ss)
  replace h := Lib.hid h
  clear hi hz0 hz1 hz2 hset
  go_enter Tryd.func32, Tryd.ntmps32
  go_wp2
  go_loopw [3, 8] (fun v i wr => ∃ k : Nat, k ≤ ss.length ∧ i = .int .i64 k ∧ wr.ownsRow w.heap.size 9 1 v (lgTo ss k).length (strs (lgTo ss k)) ∧ Below w.heap.size w wr)
    (fun _ i _ => ss.length - (intOf i).toNat)
  case atStart => exact ⟨0, Nat.zero_le _, rfl, World.ownsRow_nil _ _ _ _, Below.refl _ _⟩
  case round =>
    obtain ⟨k, hk, rfl, ho, hB⟩ := hrel
    obtain ⟨Ar, cr, rfl⟩ := own_slice ho
    have hO := Lib.hid (And.intro ho hB)
    clear ho hB
    by_cases hlt : k < ss.length
    · obtain ⟨b, off, rfl, hb, hcc⟩ := h.out (by rw [strs_length]; omega)
      have hlt' : (k : Int) < (ss.length : Int) := by omega
      have c1 := (hO.out.2.cell (p := ⟨b, off + k, none⟩) hb).trans (hcc k _ (strs_nth ss k hlt))
      clear hcc
      have hsz := W.short_size _ (W.isSet_short ss Hset.out k hlt)
      have Hs := Lib.hid (lgTo_succ ss k hlt)
      have hln := lgTo_length ss k
      have hrow := (h.out.below hO.out.2).more hO.out.2.size
      have hrd := Lib.hid (impl_readingsOf (some ⟨b, off, none⟩) ss c (W.nth ss k) wr hrow Hset.out (by omega))
      have hnm := Lib.hid (fun g base u ho => lg_number (some ⟨b, off, none⟩) ss c (W.nth ss k) g base u ho)
      have hlg : Hid (lg ss (W.nth ss k) = decide (W.ways ss (W.nth ss k).data.toList = 1)) := rfl
      generalize W.nth ss k = s at c1 hsz Hs hrd hnm hlg
      clear hrow
      go_wp2_with fail
      refine hrd.out.mono ?_
      rintro e w2 ⟨g, rfl, ho2, hB2⟩
      have hO2 := Lib.hid (And.intro ho2 (And.intro (own_below hO.out.1 hB2) (hO.out.2.trans (hB2.mono hO.out.2.size))))
      clear ho2 hB2 hrd
      go_wp2_with fail
      refine (hnm.out _ _ _ hO2.out.1).mono ?_
      rintro e w3 ⟨rfl, hB3⟩
      have hO3 := Lib.hid (And.intro (own_below hO2.out.2.1 hB3) (hO2.out.2.2.trans (hB3.mono hO2.out.2.2.size)))
      clear hB3 hO2 hnm
      generalize W.ways ss s.data.toList = n at hlg ⊢
      by_cases hn : n = 1
      · have Hq : Hid (lg ss s = true) := by
          show lg ss s = true
          rw [hlg.out, decide_eq_true hn]
        subst hn
        have e1 := Lib.hid (show lgTo ss (k + 1) = lgTo ss k ++ [s] by rw [Hs.out, if_pos Hq.out])
        clear hlg Hq Hs
        go_wp2_with (at_builtin; refine wpList_append_own _ rfl _ _ 22 rfl w.heap.size 9 i0 (.string ByteArray.empty) 1 16 Tryd.underlying22 HR.out.1 HR.out.2.1 HR.out.2.2.1 HR.out.2.2.2 rfl (by decide) _ _ _ rfl (hO3.out.1.alloc _) ⟨w3.heap.size, 0, none⟩ 1 1 [.string s] rfl rfl ?c1 ?c2 ?c3 ?c4 ?c5 ?_)
        case c1 => exact cell_one_new _ _ _
        case c2 => exact one_text _
        case c3 => unfold maxLen; omega
        case c4 => omega
        case c5 => have := hO3.out.2.size; simp; omega
        intro v' w4 hown' hgrow _
        have hlt4 := hO3.out.1.lt
        have hO4 := Lib.hid (And.intro hown' ((hO3.out.2.alloc hO3.out.2.size _).grown hgrow (by have := hO3.out.2.size; simp; omega) (fun g hg => (hlt4 g hg).1)))
        clear hown' hgrow hlt4
        go_wp2
        go_roundw
        case rel =>
          refine ⟨k + 1, by omega, by go_num, own_nx hO4.out.1 ?_ ?_, hO4.out.2⟩
          · rw [e1.out, List.length_append]
            rfl
          · rw [e1.out, strs_snoc]
        case measure => simp [intOf]; omega
      · have e1 := Lib.hid (show lgTo ss (k + 1) = lgTo ss k by
          rw [Hs.out, hlg.out, decide_eq_false hn]
          simp)
        have hn' : ¬ (n : Int) = 1 := by omega
        clear hlg Hs hn
        go_wp2
        go_roundw
        case rel =>
          refine ⟨k + 1, by omega, by go_num, own_nx hO3.out.1 ?_ ?_, hO3.out.2⟩
          · rw [e1.out]
          · rw [e1.out]
        case measure => simp [intOf]; omega
    · have hke : k = ss.length := by omega
      subst hke
      have hO2 := hO.out
      rw [hall.out] at hO2
      have HO := Lib.hid hO2
      clear hO2 hO
      rw [hall.out]
      generalize lgTo ss ss.length = acc at *
      go_wp2
      go_ret
      exact ⟨_, _, rfl, HO.out.1, HO.out.2⟩

set_option maxHeartbeats 800000 in
theorem impl_LeastGenerators (A : Option Addr) (ss : List ByteArray) (c : Nat) (w : World) (h : Row w w.heap.size A (strs ss)) (_hcap : ss.length ≤ c) (hl : ss.length ≤ 9223372036854775807) (hs : ∀ s ∈ ss, s.size ≤ 9223372036854775807) :
    Calls Tryd.prog 12 #[.slice A ss.length c] w (OkStrs w (lgOf ss) (W.isSet ss)) := by
  have hc := impl_IsSet A ss c w h hl hs
  cases hq : W.isSet ss
  · rw [lgOf_no hq]
    rw [hq] at hc
    replace hc := Lib.hid hc
    clear hq h hs
    go_enter Tryd.func12, Tryd.ntmps12
    go_wp2_with (go_at_call 31; refine hc.out.mono ?_; rintro e w' ⟨rfl, hB⟩)
    go_ret2
    exact okStrs_nil _ _ _ hB
  · rw [lgOf_yes hq]
    have hw := Lib.hid (fun u g => impl_generatorsIn A ss c u g hq)
    rw [hq] at hc
    replace hc := Lib.hid hc
    replace h := Lib.hid h
    clear hq hs
    generalize lgB ss = acc at hw ⊢
    go_enter Tryd.func12, Tryd.ntmps12
    go_wp2_with fail
    refine hc.out.mono ?_
    rintro e w1 ⟨rfl, hB1⟩
    have HB := Lib.hid hB1
    clear hB1
    go_wp2_with fail
    refine (hw.out w1 ((h.out.below HB.out).more HB.out.size)).mono ?_
    rintro e w2 ⟨A1, c1, rfl, ho, hB⟩
    have HO := Lib.hid (And.intro (own_base ho HB.out.size) (HB.out.trans (hB.mono HB.out.size)))
    clear ho hB
    go_wp2
    go_ret2
    exact okStrs_of HO.out.1 rfl HO.out.2
end Go.Proofs.YtlmcemdbalhkiaaDoor
