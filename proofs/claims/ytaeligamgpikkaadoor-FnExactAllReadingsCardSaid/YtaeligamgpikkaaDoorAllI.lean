/-
  WHAT THIS FILE PROVES: all readings of a word: the program's function hands back a slice of slices of its own that reads as the plain list; asked: a slice of texts in memory, lengths that an int holds.
-/
import Derived.Test.YtaeligamgpikkaaDoorRead
namespace Go.Proofs.YtaeligamgpikkaaDoor
open Go.RowKit Go.Shelf

set_option maxHeartbeats 1600000 in
theorem impl_AllReadings (A : Option Addr) (ss : List ByteArray) (c : Nat) (s : ByteArray) (w : World) (h : Row w w.heap.size A (strs ss)) (hl : ss.length ≤ 9223372036854775807) (hs : ∀ s ∈ ss, s.size ≤ 9223372036854775807) (ht : s.size ≤ 9223372036854775807) :
    Calls Tryd.prog 26 #[.slice A ss.length c, .string s] w (OkSS 31 3 w (intss (allOf ss s)) (allOk ss s)) := by
  have hc := impl_IsSet A ss c w h hl hs
  have hg := fun w => impl_IsWord s w ht
  cases hq : W.isSet ss
  · have hno : allOk ss s = false := by unfold allOk askOk; rw [hq]; rfl
    rw [allOf_no hno, hno]
    rw [hq] at hc
    replace hc := Lib.hid hc
    clear h hs hq hno hg
    go_enter Tryd.func26, Tryd.ntmps26
    go_wp2_with (go_at_call 37; refine hc.out.mono ?_; rintro e w1 ⟨rfl, hB⟩)
    go_ret2
    exact okSS_nil _ _ _ _ _ hB
  · cases hw : W.good s.data.toList
    · have hno : allOk ss s = false := by unfold allOk askOk; rw [hw]; simp
      rw [allOf_no hno, hno]
      rw [hq] at hc
      rw [hw] at hg
      replace hc := Lib.hid hc
      replace hg := Lib.hid hg
      clear h hs hq hno hw
      go_enter Tryd.func26, Tryd.ntmps26
      go_wp2_with (first | (go_at_call 37; refine hc.out.mono ?_; rintro e w1 ⟨rfl, hB⟩) | (go_at_call 38; refine (hg.out _).mono ?_; rintro e w2 ⟨rfl, hB2⟩))
      go_ret2
      exact okSS_nil _ _ _ _ _ (hB.trans (hB2.mono hB.size))
    · have hask : askOk ss s = true := by unfold askOk; rw [hq, hw]; rfl
      have h60 := good_60 hw
      have hro := Lib.hid (fun W hr => impl_readingsOf A ss c s W hr hq h60)
      have hbd := W.ways_bound hq s.data.toList (by rw [← Lib.size_eq]; exact h60)
      have Hrd := Lib.hid (fun g k0 r W hr htb hk => impl_reading A ss c s g k0 r W hr hq h60 htb hk)
      have Hrl := Lib.hid (W.reads_len (set := ss) (fun k hk => W.set_pos hq k hk) s.data.toList.length s.data.toList rfl)
      have Hrn := Lib.hid (W.reads_length ss s.data.toList)
      rw [hq] at hc
      rw [hw] at hg
      replace hc := Lib.hid hc
      replace hg := Lib.hid hg
      replace h := Lib.hid h
      replace hask := Lib.hid hask
      obtain ⟨i0, hi, hz0, hz1, hz2⟩ := info_parts infoInts
      have HR := Lib.hid (And.intro hi (And.intro hz0 (And.intro hz1 hz2)))
      clear hs hq hw hi hz0 hz1 hz2
      go_enter Tryd.func26, Tryd.ntmps26
      go_wp2_with fail
      refine hc.out.mono ?_
      rintro e w1 ⟨rfl, hB⟩
      have HB := Lib.hid hB
      clear hB
      go_wp2_with fail
      refine (hg.out _).mono ?_
      rintro e w2 ⟨rfl, hB⟩
      have HB2 := Lib.hid (HB.out.trans (hB.mono HB.out.size))
      clear hB HB
      go_wp2_with fail
      refine (hro.out _ ((h.out.below HB2.out).more HB2.out.size)).mono ?_
      rintro e w3 ⟨g, rfl, ho, hB⟩
      have HB3 := Lib.hid (HB2.out.trans (hB.mono HB2.out.size))
      obtain ⟨w0, hw0⟩ : ∃ w0, w0 = w3.alloc (.cells #[.slice A ss.length c, .string s, .slice (some ⟨g, 0, none⟩) (s.size + 1) (s.size + 1)] 51) := ⟨_, rfl⟩
      have HO := Lib.hid (show w0.ownsRow _ _ _ _ _ _ from by rw [hw0]; exact ho.alloc _)
      have hz0 : w0.heap.size = w3.heap.size + 1 := by rw [hw0]; simp
      have HB0 := Lib.hid (show Below w.heap.size w w0 by rw [hw0]; exact HB3.out.alloc HB3.out.size _)
      have hblk : w0.heap[w3.heap.size]? = some (.cells #[.slice A ss.length c, .string s, .slice (some ⟨g, 0, none⟩) (s.size + 1) (s.size + 1)] 51 (0, 0)) := by rw [hw0]; exact heap_alloc_new w3 _
      have k0c : w0.cell? ⟨w3.heap.size, 0, none⟩ = some (.slice A ss.length c) := cell_of_row w0 _ 0 _ _ _ hblk
      have k1c : w0.cell? ⟨w3.heap.size, 1, none⟩ = some (.string s) := cell_of_row w0 _ 1 _ _ _ hblk
      have k2c : w0.cell? ⟨w3.heap.size, 2, none⟩ = some (.slice (some ⟨g, 0, none⟩) (s.size + 1) (s.size + 1)) := cell_of_row w0 _ 2 _ _ _ hblk
      have K := Lib.hid (And.intro k0c (And.intro k1c k2c))
      have htbl := Lib.hid (TblAt.of_own HO.out)
      have hrow := Lib.hid ((h.out.below HB0.out).more HB0.out.size)
      have hn := Lib.hid (impl_number A ss c s g _ w0 HO.out)
      replace hw0 := Lib.hid hw0
      replace hz0 := Lib.hid hz0
      clear hB ho hblk HB2
      go_wp2_with fail
      rw [← hw0.out]
      refine hn.out.mono ?_
      rintro e w4 ⟨rfl, hB4⟩
      have HB4 := Lib.hid (HB0.out.trans (hB4.mono HB0.out.size))
      have hzz := hz0.out
      have e0 := (hB4.cell (p := ⟨w3.heap.size, 0, none⟩) (by show w3.heap.size < w0.heap.size; omega)).trans K.out.1
      have e1 := (hB4.cell (p := ⟨w3.heap.size, 1, none⟩) (by show w3.heap.size < w0.heap.size; omega)).trans K.out.2.1
      have e2 := (hB4.cell (p := ⟨w3.heap.size, 2, none⟩) (by show w3.heap.size < w0.heap.size; omega)).trans K.out.2.2
      have Hn2 := Lib.hid (impl_number A ss c s g _ w4 (own_below HO.out hB4))
      replace hzz := Lib.hid hzz
      have HB04 := Lib.hid hB4
      clear hB4 hn HO k0c k1c k2c
      by_cases h100 : W.ways ss s.data.toList ≤ 100
      · have hok : allOk ss s = true := by unfold allOk; rw [hask.out, decide_eq_true h100]; rfl
        replace hok := Lib.hid hok
        have hwi : ((W.ways ss s.data.toList : Nat) : Int) ≤ 100 := by omega
        go_wp2_with fail
        refine Hn2.out.mono ?_
        rintro e w5 ⟨rfl, hB5⟩
        have HB05 := Lib.hid (HB04.out.trans (hB5.mono HB04.out.size))
        clear hB5 e0 e1 e2 HB04 HB4
        have hnl : ((W.ways ss s.data.toList : Nat) : Int) = ((W.reads ss s.data.toList).length : Int) := by rw [Hrn.out]
        replace hnl := Lib.hid hnl
        have hr100 : (W.reads ss s.data.toList).length ≤ 100 := by rw [Hrn.out]; exact h100
        have hlw : Hid (∀ k, k < (W.reads ss s.data.toList).length → k < W.ways ss s.data.toList) := fun k hk => by rw [← Hrn.out]; exact hk
        generalize hall : W.reads ss s.data.toList = rs at Hrl hnl hr100 hlw Hrd
        replace hall := Lib.hid hall
        generalize ((W.ways ss s.data.toList : Nat) : Int) = wn at hwi hnl
        obtain rfl := hnl.out
        clear hnl
        go_wp2_with fail
        go_loopw [7, 25] (fun v i wr => ∃ k : Nat, k ≤ rs.length ∧ i = .int .i64 k ∧ OwnSS wr w0.heap.size 31 3 v (intss (rs.take k)) ∧ Below w0.heap.size w0 wr) (fun _ i _ => rs.length - (intOf i).toNat)
        case atStart => exact ⟨0, Nat.zero_le _, rfl, ⟨[], ownAt_nil _ _ _ _⟩, HB05.out⟩
        case round =>
          clear HB05
          obtain ⟨k, hk, rfl, ho, hB⟩ := hrel
          obtain ⟨Av, cv, rfl⟩ := ownSS_slice ho
          have hlk : Hid ((rs.take k).length = k) := by show _ = _; rw [List.length_take]; omega
          rw [intss_length, hlk.out] at ho ⊢
          have hzz' := hzz.out
          have e0 := (hB.cell (p := ⟨w3.heap.size, 0, none⟩) (by show w3.heap.size < w0.heap.size; omega)).trans K.out.1
          have e1 := (hB.cell (p := ⟨w3.heap.size, 1, none⟩) (by show w3.heap.size < w0.heap.size; omega)).trans K.out.2.1
          have e2 := (hB.cell (p := ⟨w3.heap.size, 2, none⟩) (by show w3.heap.size < w0.heap.size; omega)).trans K.out.2.2
          clear hzz'
          have hO := Lib.hid (And.intro ho hB)
          have hsz := hB.size
          clear ho hB
          by_cases hlt : k < rs.length
          · have hlt' : (k : Int) < (rs.length : Int) := by omega
            have hrk := Lib.hid (List.getElem?_eq_getElem hlt)
            have hsuc := Lib.hid (show intss (rs.take (k + 1)) = intss (rs.take k) ++ [ints rs[k]] by rw [List.take_succ_eq_append_getElem hlt, intss_snoc])
            have hl60 : (rs[k]).length ≤ 60 := by
              have := Hrl.out rs[k] (List.getElem_mem hlt)
              rw [← Lib.size_eq] at this
              omega
            generalize rs[k] = r at hrk hsuc hl60
            have hc1 := Lib.hid (Hrd.out g k r wr ((hrow.out.below hO.out.2).more hsz) ((htbl.out.below hO.out.2).more hsz) (hlw.out k hlt) hrk.out)
            go_wp2_with fail
            refine hc1.out.mono ?_
            rintro e w6 ⟨A6, c6, rfl, ho6, hB6⟩
            obtain ⟨vs, hV⟩ := hO.out.1
            have hsep := Lib.hid (show ∀ u ∈ vs, u.ownBlock = none ∨ u.ownBlock ≠ (Value.slice A6 (ints r).length c6).ownBlock from fun u hu => by
              rw [ints_length]
              cases hb : u.ownBlock with
              | none => exact .inl rfl
              | some g =>
                right
                intro e
                have h1 := (hV.lt u hu g hb).2
                have h2 := (ho6.lt g e.symm).1
                omega)
            have hsz6 := hB6.size
            have hV3 := (hV.below hB6).below ((Below.refl w6.heap.size w6).alloc (Nat.le_refl _) (.cells #[.slice A6 r.length c6] 31))
            have hX3 := own_base (own_below ho6 ((Below.refl w6.heap.size w6).alloc (Nat.le_refl _) (.cells #[.slice A6 r.length c6] 31))) hsz
            have hB4 := (hO.out.2.trans (hB6.mono hsz)).alloc (by omega) (.cells #[.slice A6 r.length c6] 31)
            have hown4 := hV3.own
            rw [intss_length, hlk.out] at hown4
            have H4 := Lib.hid (And.intro hV3 (And.intro hX3 hB4))
            have HW4 := Lib.hid hown4
            clear hV3 hX3 hB4 hown4 ho6 hV hB6
            go_wp2_with (at_builtin; refine wpList_append_own _ rfl _ _ 36 rfl w0.heap.size 31 i0 (.slice none 0 0) 1 24 Tryd.underlying36 HR.out.1 HR.out.2.1 HR.out.2.2.1 HR.out.2.2.2 rfl (by decide) (.slice Av k cv) k vs rfl HW4.out ⟨w6.heap.size, 0, none⟩ 1 1 [.slice A6 r.length c6] rfl rfl (cells_one _ _ _) (one_slice _ _ _) (by unfold maxLen; omega) (by omega) (by simp; omega) ?_)
            intro v5 w5 ho5 hg5 _
            have hP5 := OwnAt.push (by decide) H4.out.1 (v' := v5) (by rw [ints_length]; exact H4.out.2.1) hsep.out (by rw [intss_length, hlk.out, ints_length]; exact ho5) hg5
            have hB5 := H4.out.2.2.grown hg5 (by simp; omega) (fun g hg => (HW4.out.lt g hg).1)
            have hF5 := Lib.hid (And.intro hP5 hB5)
            clear hP5 hB5 ho5 hg5
            go_wp2
            go_roundw
            case rel => exact ⟨k + 1, by omega, by go_num, by rw [hsuc.out]; exact ⟨_, hF5.out.1⟩, hF5.out.2⟩
            case measure => simp [intOf]; omega
          · obtain rfl : k = rs.length := by omega
            go_wp2
            go_ret2
            rw [allOf_yes hok.out, hok.out, hall.out]
            have := hO.out.1
            rw [List.take_length] at this
            exact okSS_of (ownSS_lower this HB0.out.size) rfl (HB0.out.trans (hO.out.2.mono HB0.out.size))
      · have hno : allOk ss s = false := by unfold allOk; rw [decide_eq_false h100]; simp
        replace hno := Lib.hid hno
        have hwi : (100 : Int) < ((W.ways ss s.data.toList : Nat) : Int) := by omega
        go_wp2
        go_ret2
        rw [allOf_no hno.out, hno.out]
        exact okSS_nil _ _ _ _ _ HB4.out

end Go.Proofs.YtaeligamgpikkaaDoor
