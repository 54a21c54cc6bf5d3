/-
  WHAT THIS FILE PROVES: a set with other letters by the program's function: it hands back a slice of its own that reads as told; asked: rows that lie in memory, lengths that an int holds.
-/
import Derived.Test.YtbepplkpnhfifaaDoorRenamed
import Derived.Maps.AppendAt
namespace Go.Proofs.YtbepplkpnhfifaaDoor
open Go.RowKit Go.Shelf

/-- three names that lie in memory -/
structure NamesAt (w : World) (B b' off' : Nat) (zs : List Int) : Prop where
  lt : b' < B
  cell : ∀ k, k < 3 → w.cell? ⟨b', off' + k, none⟩ = some (.int .i64 (zs.getD k 0))
theorem NamesAt.below {w w' : World} {B b' off' : Nat} {zs : List Int} (h : NamesAt w B b' off' zs) (hB : Below B w w') : NamesAt w' B b' off' zs := ⟨h.lt, fun k hk => (hB.cell (p := ⟨b', off' + k, none⟩) h.lt).trans (h.cell k hk)⟩
theorem NamesAt.more {w : World} {B B' b' off' : Nat} {zs : List Int} (h : NamesAt w B b' off' zs) (hB : B ≤ B') : NamesAt w B' b' off' zs := ⟨Nat.lt_of_lt_of_le h.lt hB, h.cell⟩

theorem impl_clos (s : ByteArray) (bx b' off' : Nat) (zs : List Int) (c' : Nat) (w : World) (hx : w.cell? ⟨bx, 0, none⟩ = some (.slice (some ⟨b', off', none⟩) 3 c')) (hn : NamesAt w w.heap.size b' off' zs) (hin : ∀ k, k < 3 → 0 ≤ zs.getD k 0 ∧ zs.getD k 0 ≤ 2) (hsh : W.short s = true) :
    Calls Tryd.prog 45 #[.string s, .pointer (some ⟨bx, 0, none⟩)] w fun e w' => e = .returned (.string (rnB zs s)) ∧ Below w.heap.size w w' := by
  have hc := Lib.hid (impl_renamed s b' off' zs c' w hn.lt hn.cell hin hsh)
  clear hn hin hsh
  go_enter Tryd.func45, Tryd.ntmps45
  go_wp2_with (go_at_call 46; refine hc.out.mono ?_; rintro e w' ⟨rfl, hB⟩)
  go_ret
  exact ⟨rfl, hB⟩

set_option maxHeartbeats 1600000 in
theorem listOf_renamed (A : Option Addr) (ss : List ByteArray) (c : Nat) (bx b' off' : Nat) (zs : List Int) (c' : Nat) (w : World) (h : Row w w.heap.size A (strs ss)) (hq : W.isSet ss = true)
    (hbx : bx < w.heap.size) (hx : w.cell? ⟨bx, 0, none⟩ = some (.slice (some ⟨b', off', none⟩) 3 c')) (hnm : NamesAt w w.heap.size b' off' zs) (hin : ∀ k, k < 3 → 0 ≤ zs.getD k 0 ∧ zs.getD k 0 ≤ 2) :
    Calls Tryd.prog 36 #[.slice A ss.length c, .func (.func 45) #[] #[.pointer (some ⟨bx, 0, none⟩)]] w (GivesStrs w (rns zs ss)) := by
  obtain ⟨i0, hi, hz0, hz1, hz2⟩ := info_parts infoStr
  have HR := Lib.hid (And.intro hi (And.intro hz0 (And.intro hz1 hz2)))
  have h12 := W.isSet_len ss hq
  have Hsh := Lib.hid (fun k hk => W.isSet_short ss hq k hk)
  have HX := Lib.hid hx
  have HN := Lib.hid hnm
  have HI := Lib.hid hin
  clear hi hz0 hz1 hz2 hq hx hnm hin
  replace h := Lib.hid h
  go_enter Tryd.func36, Tryd.ntmps36
  go_wp2_with (at_make; refine wpList_make_own _ rfl _ _ 22 rfl w.heap.size 9 i0 (.string ByteArray.empty) 1 Tryd.underlying22 HR.out.1 HR.out.2.1 HR.out.2.2.1 _ _ _ ss.length rfl rfl rfl ?b1 ?b2 ?b3 ?_)
  case b1 => rw [HR.out.2.2.2]; omega
  case b2 => unfold maxLen; omega
  case b3 => exact Nat.le_refl _
  intro w1 hown1 hgrow1
  have hB1 : Below w.heap.size w w1 := (Below.refl _ w).grown hgrow1 (Nat.le_refl _) (fun g hg => by cases hg)
  replace hown1 := Lib.hid (And.intro hown1 hB1)
  clear hgrow1 hB1
  go_wp2
  go_loopw [5, 13] (fun v i wr => ∃ k : Nat, k ≤ ss.length ∧ i = .int .i64 k ∧ wr.ownsRow w.heap.size 9 1 v k (strs (rns zs (ss.take k))) ∧ Below w.heap.size w wr)
    (fun _ i _ => ss.length - (intOf i).toNat)
  case atStart => exact ⟨0, Nat.zero_le _, rfl, hown1.out.1, hown1.out.2⟩
  case round =>
    obtain ⟨k, hk, rfl, ho, hB⟩ := hrel
    have hO := Lib.hid (And.intro ho hB)
    clear ho hB
    by_cases hlt : k < ss.length
    · obtain ⟨b, off, rfl, hb, hcc⟩ := h.out (by rw [strs_length]; omega)
      have hlt' : (k : Int) < (ss.length : Int) := by omega
      have c1 := (hO.out.2.cell (p := ⟨b, off + k, none⟩) hb).trans (hcc k _ (strs_nth ss k hlt))
      clear hcc
      have Hs := Lib.hid (rns_succ zs ss k hlt)
      have hbk := Lib.hid (impl_clos (W.nth ss k) bx b' off' zs c' wr ((hO.out.2.cell (p := ⟨bx, 0, none⟩) hbx).trans HX.out) ((HN.out.below hO.out.2).more hO.out.2.size) HI.out (Hsh.out k hlt))
      generalize rnB zs (W.nth ss k) = y at Hs hbk
      generalize W.nth ss k = x at c1 hbk
      go_wp2_with fail
      refine hbk.out.mono ?_
      rintro e w2 ⟨rfl, hB2⟩
      have hO1 := Lib.hid (And.intro (own_below hO.out.1 hB2) (hO.out.2.trans (hB2.mono hO.out.2.size)))
      clear hB2 hO c1
      go_wp2_with (at_builtin; refine wpList_append_own _ rfl _ _ 22 rfl w.heap.size 9 i0 (.string ByteArray.empty) 1 16 Tryd.underlying22 HR.out.1 HR.out.2.1 HR.out.2.2.1 HR.out.2.2.2 rfl (by decide) _ _ _ rfl (hO1.out.1.alloc _) ⟨w2.heap.size, 0, none⟩ 1 1 [.string y] rfl rfl ?c1 ?c2 ?c3 ?c4 ?c5 ?_)
      case c1 => exact cell_one_new _ _ _
      case c2 => exact one_text _
      case c3 => unfold maxLen; omega
      case c4 => omega
      case c5 => have := hO1.out.2.size; simp; omega
      intro v' w3 hown' hgrow _
      have hO2 := Lib.hid (And.intro hown' hgrow)
      clear hown' hgrow
      go_wp2
      go_roundw
      case rel =>
        refine ⟨k + 1, by omega, by go_num, ?_, ?_⟩
        · rw [Hs.out, strs_snoc]
          exact hO2.out.1
        · have hlt := hO1.out.1.lt
          exact (hO1.out.2.alloc hO1.out.2.size _).grown hO2.out.2 (by have := hO1.out.2.size; simp; omega) (fun g hg => (hlt g hg).1)
      case measure => simp [intOf]; omega
    · obtain rfl : k = ss.length := by omega
      go_wp2
      go_ret
      have hfin := hO.out.1
      rw [List.take_length] at hfin
      exact givesStrs_of (by rw [rns_length]; exact hfin) rfl hO.out.2

theorem nm_facts {zs : List Int} (h : nmOk zs = true) : zs.length = 3 ∧ ∀ k, k < 3 → 0 ≤ zs.getD k 0 ∧ zs.getD k 0 ≤ 2 := by
  unfold nmOk at h
  simp only [Bool.and_eq_true, decide_eq_true_eq] at h
  refine ⟨h.1, fun k hk => ?_⟩
  have := List.all_eq_true.1 h.2.1 (zs[k]'(by omega)) (List.getElem_mem _)
  rw [List.getD_eq_getElem?_getD, List.getElem?_eq_getElem (by omega)]
  exact of_decide_eq_true this

set_option maxHeartbeats 1600000 in
theorem impl_RenameSet (A : Option Addr) (ss : List ByteArray) (c : Nat) (A' : Option Addr) (zs : List Int) (c' : Nat) (w : World) (h : Row w w.heap.size A (strs ss)) (hl : ss.length ≤ 9223372036854775807) (hs : ∀ s ∈ ss, s.size ≤ 9223372036854775807)
    (h' : Row w w.heap.size A' (ints zs)) (_hcap' : zs.length ≤ c') (hl' : zs.length ≤ 9223372036854775807) :
    Calls Tryd.prog 23 #[.slice A ss.length c, .slice A' zs.length c'] w (OkStrs w (reOf ss zs) (reOk ss zs)) := by
  have hn := fun (n : Nat) => Lib.hid ((Below.refl w.heap.size w).alloc (Nat.le_refl _) (.cells #[.slice A' n c'] 30))
  have hz1 := fun (n : Nat) => (show (w.alloc (.cells #[.slice A' n c'] 30)).heap.size = w.heap.size + 1 from Array.size_push ..)
  have hc := fun (n : Nat) => impl_IsSet A ss c (w.alloc (.cells #[.slice A' n c'] 30)) ((h.below (hn n).out).more (hn n).out.size) hl hs
  have hxc := fun (n : Nat) => (show (w.alloc (.cells #[.slice A' n c'] 30)).cell? ⟨w.heap.size, 0, none⟩ = some (.slice A' n c') by
    rw [World.cell?_alloc_at _ _ _ _ rfl]
    rfl)
  have hc' := fun (W : World) (hr : Row W W.heap.size A' (ints zs)) => impl_areNames A' zs c' W hr hl'
  cases hq : W.isSet ss
  · have hno : reOk ss zs = false := by unfold reOk; rw [hq]; rfl
    rw [hno, reOf_no hno]
    rw [hq] at hc
    have HC := Lib.hid (hc zs.length)
    have HN := hn zs.length
    clear hc hc' hno hq h hs h' hn hxc hz1
    go_enter Tryd.func23, Tryd.ntmps23
    go_wp2_with (go_at_call 35; refine HC.out.mono ?_; rintro e w1 ⟨rfl, hB⟩)
    go_ret2
    exact okStrs_nil _ _ _ (HN.out.trans (hB.mono HN.out.size))
  · rw [hq] at hc
    cases hm : nmOk zs
    · have hno : reOk ss zs = false := by unfold reOk; rw [hm]; simp
      rw [hno, reOf_no hno]
      rw [hm] at hc'
      have HC := Lib.hid (hc zs.length)
      have HN := hn zs.length
      have HX := Lib.hid (hxc zs.length)
      have HZ := Lib.hid (hz1 zs.length)
      replace hc' := Lib.hid hc'
      replace h' := Lib.hid h'
      clear hc hno hq hm h hs hn hxc hz1
      go_enter Tryd.func23, Tryd.ntmps23
      go_wp2_with fail
      refine HC.out.mono ?_
      rintro e w1 ⟨rfl, hB⟩
      have HB := Lib.hid (HN.out.trans (hB.mono HN.out.size))
      have cx := (hB.cell (p := ⟨w.heap.size, 0, none⟩) (by rw [HZ.out]; show w.heap.size < _; omega)).trans HX.out
      have HC2 := Lib.hid (hc'.out w1 ((h'.out.below HB.out).more HB.out.size))
      clear hB
      go_wp2_with fail
      refine HC2.out.mono ?_
      rintro e w2 ⟨rfl, rfl⟩
      go_wp2
      go_ret2
      exact okStrs_nil _ _ _ HB.out
    · have hok : reOk ss zs = true := by unfold reOk; rw [hq, hm]; rfl
      obtain ⟨h3, hin⟩ := nm_facts hm
      rw [hok, reOf_yes hok]
      have h12 := W.isSet_len ss hq
      obtain ⟨f1, f2⟩ := fit_rns zs h12
      rw [← f1, ← f2]
      have hrl := rns_length zs ss
      have HSET := Lib.hid (fun A' c' W1 (g : Row W1 W1.heap.size A' (strs (rns zs ss))) => impl_setOfFitting A' (rns zs ss) c' W1 g (by omega))
      obtain ⟨b', off', rfl, hb', hcn⟩ := Row.ints_at h' (by omega)
      have hnm : NamesAt w w.heap.size b' off' zs := ⟨hb', fun k hk => by
        rw [List.getD_eq_getElem?_getD, List.getElem?_eq_getElem (by omega)]
        exact hcn k (by omega)⟩
      have HNM := Lib.hid hnm
      have HLS := Lib.hid (fun (W1 : World) (g : Row W1 W1.heap.size A (strs ss)) (hbx : w.heap.size < W1.heap.size) (hx : W1.cell? ⟨w.heap.size, 0, none⟩ = some (.slice (some ⟨b', off', none⟩) 3 c')) (hnm : NamesAt W1 W1.heap.size b' off' zs) => listOf_renamed A ss c w.heap.size b' off' zs c' W1 g hq hbx hx hnm hin)
      rw [hm, h3] at hc'
      rw [h3]
      have HC := Lib.hid (hc 3)
      have HN := hn 3
      have HX := Lib.hid (hxc 3)
      have HZ := Lib.hid (hz1 3)
      replace hc' := Lib.hid hc'
      replace h' := Lib.hid h'
      replace h := Lib.hid h
      generalize rns zs ss = bs at HSET HLS ⊢
      clear hc hok hq hm hs hn hxc hz1 f1 f2 hrl hcn hnm hin h3 _hcap' hl'
      go_enter Tryd.func23, Tryd.ntmps23
      go_wp2_with fail
      refine HC.out.mono ?_
      rintro e w1 ⟨rfl, hB⟩
      have HB := Lib.hid (HN.out.trans (hB.mono HN.out.size))
      have cx := (hB.cell (p := ⟨w.heap.size, 0, none⟩) (by rw [HZ.out]; show w.heap.size < _; omega)).trans HX.out
      have HL := Lib.hid (show w.heap.size < w1.heap.size by have := hB.size; rw [HZ.out] at this; omega)
      have HC2 := Lib.hid (hc'.out w1 ((h'.out.below HB.out).more HB.out.size))
      clear hB
      go_wp2_with fail
      refine HC2.out.mono ?_
      rintro e w2 ⟨rfl, rfl⟩
      have HCX := Lib.hid cx
      go_wp2_with fail
      refine (HLS.out w1 ((h.out.below HB.out).more HB.out.size) HL.out HCX.out ((HNM.out.below HB.out).more HB.out.size)).mono ?_
      rintro e w2 ⟨A2, c2, rfl, ho2, hB2⟩
      have HB2 := Lib.hid (And.intro (Row.of_own ho2) (HB.out.trans (hB2.mono HB.out.size)))
      clear ho2 hB2
      go_wp2_with fail
      refine (HSET.out A2 c2 w2 HB2.out.1).mono ?_
      rintro e w3 ⟨A3, c3, rfl, ho3, hB3⟩
      have HO := Lib.hid (And.intro (own_base ho3 HB2.out.2.size) (HB2.out.2.trans (hB3.mono HB2.out.2.size)))
      clear ho3 hB3
      go_wp2
      go_ret2
      exact okStrs_of HO.out.1 rfl HO.out.2

end Go.Proofs.YtbepplkpnhfifaaDoor
