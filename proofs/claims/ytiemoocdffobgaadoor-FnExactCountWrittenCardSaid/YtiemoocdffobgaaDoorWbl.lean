/-
  WHAT THIS FILE PROVES: the texts that a set writes, by their lengths: the program's function hands back a slice of slices of its own with them, each row in order; asked: a slice of texts in memory that is a set, a number of at most 9.
-/
import Derived.Test.YtiemoocdffobgaaDoorWrtL
import Derived.Test.YtiemoocdffobgaaDoorInOrder
import Derived.Test.YtiemoocdffobgaaDoorHlM
import Derived.Test.YtiemoocdffobgaaDoorBefore
import Derived.Test.YtiemoocdffobgaaDoorAppend
namespace Go.Proofs.YtiemoocdffobgaaDoor
open Go.RowKit Go.Shelf

theorem wbl_before (s : ByteArray) (bx : Nat) (t : ByteArray) (w : World) (hx : w.cell? ⟨bx, 0, none⟩ = some (.string t)) (hs : s.size ≤ 1000) (ht : t.size ≤ 1000) :
    Calls Tryd.prog 52 #[.string s, .pointer (some ⟨bx, 0, none⟩)] w fun e w' => e = .returned (.string (t ++ s)) ∧ Below w.heap.size w w' := by
  have h1 : (t.size : Int) ≤ 8388608 := by omega
  have h2 : (s.size : Int) ≤ 8388608 := by omega
  go_enter Tryd.func52, Tryd.ntmps52
  go_wp2
  go_ret
  exact ⟨rfl, Below.refl _ _⟩

set_option maxHeartbeats 1600000 in
theorem wbl_listOf (A : Option Addr) (ss : List ByteArray) (c : Nat) (bx : Nat) (t : ByteArray) (w : World) (h : Row w w.heap.size A (strs ss)) (h12 : ss.length ≤ 262144) (hsz : ∀ s ∈ ss, s.size ≤ 1000) (ht : t.size ≤ 1000)
    (hbx : bx < w.heap.size) (hx : w.cell? ⟨bx, 0, none⟩ = some (.string t)) :
    Calls Tryd.prog 51 #[.slice A ss.length c, .func (.func 52) #[] #[.pointer (some ⟨bx, 0, none⟩)]] w (GivesStrs w (befs t ss)) := by
  obtain ⟨i0, hi, hz0, hz1, hz2⟩ := info_parts infoStr
  have HR := Lib.hid (And.intro hi (And.intro hz0 (And.intro hz1 hz2)))
  have Hsz := Lib.hid hsz
  have HX := Lib.hid hx
  clear hi hz0 hz1 hz2 hx hsz
  replace h := Lib.hid h
  go_enter Tryd.func51, Tryd.ntmps51
  go_wp2_with (at_make; refine wpList_make_own _ rfl _ _ 22 rfl w.heap.size 9 i0 (.string ByteArray.empty) 1 Tryd.underlying22 HR.out.1 HR.out.2.1 HR.out.2.2.1 _ _ _ ss.length rfl rfl rfl ?b1 ?b2 ?b3 ?_)
  case b1 => rw [HR.out.2.2.2]; omega
  case b2 => unfold maxLen; omega
  case b3 => exact Nat.le_refl _
  intro w1 hown1 hgrow1
  have hB1 : Below w.heap.size w w1 := (Below.refl _ w).grown hgrow1 (Nat.le_refl _) (fun g hg => by cases hg)
  replace hown1 := Lib.hid (And.intro hown1 hB1)
  clear hgrow1 hB1
  go_wp2
  go_loopw [5, 13] (fun v i wr => ∃ k : Nat, k ≤ ss.length ∧ i = .int .i64 k ∧ wr.ownsRow w.heap.size 9 1 v k (strs (befs t (ss.take k))) ∧ Below w.heap.size w wr)
    (fun _ i _ => ss.length - (intOf i).toNat)
  case atStart => exact ⟨0, Nat.zero_le _, rfl, hown1.out.1, hown1.out.2⟩
  case round =>
    obtain ⟨k, hk, rfl, ho, hB⟩ := hrel
    have hO := Lib.hid (And.intro ho hB)
    clear ho hB
    by_cases hlt : k < ss.length
    · obtain ⟨b, off, rfl, hb, hcc⟩ := h.out (by rw [strs_length]; omega)
      have hlt' : (k : Int) < (ss.length : Int) := by omega
      have c1 := (hO.out.2.cell (p := ⟨b, off + k, none⟩) hb).trans (hcc k _ (strs_nth ss k hlt))
      clear hcc
      have Hs := Lib.hid (befs_succ t ss k hlt)
      have hbk := Lib.hid (wbl_before (W.nth ss k) bx t wr ((hO.out.2.cell (p := ⟨bx, 0, none⟩) hbx).trans HX.out) (Hsz.out _ (by rw [W.nth_lt ss k hlt]; exact List.getElem_mem hlt)) ht)
      generalize t ++ W.nth ss k = y at Hs hbk
      generalize W.nth ss k = x at c1 hbk
      go_wp2_with fail
      refine hbk.out.mono ?_
      rintro e w2 ⟨rfl, hB2⟩
      have hO1 := Lib.hid (And.intro (own_below hO.out.1 hB2) (hO.out.2.trans (hB2.mono hO.out.2.size)))
      clear hB2 hO c1
      go_wp2_with (at_builtin; refine wpList_append_own _ rfl _ _ 22 rfl w.heap.size 9 i0 (.string ByteArray.empty) 1 16 Tryd.underlying22 HR.out.1 HR.out.2.1 HR.out.2.2.1 HR.out.2.2.2 rfl (by decide) _ _ _ rfl (hO1.out.1.alloc _) ⟨w2.heap.size, 0, none⟩ 1 1 [.string y] rfl rfl ?c1 ?c2 ?c3 ?c4 ?c5 ?_)
      case c1 => exact cell_one_new _ _ _
      case c2 => exact one_text _
      case c3 => unfold maxLen; omega
      case c4 => omega
      case c5 => have := hO1.out.2.size; simp; omega
      intro v' w3 hown' hgrow _
      have hO2 := Lib.hid (And.intro hown' hgrow)
      clear hown' hgrow
      go_wp2
      go_roundw
      case rel =>
        refine ⟨k + 1, by omega, by go_num, ?_, ?_⟩
        · rw [Hs.out, strs_snoc]
          exact hO2.out.1
        · have hlt := hO1.out.1.lt
          exact (hO1.out.2.alloc hO1.out.2.size _).grown hO2.out.2 (by have := hO1.out.2.size; simp; omega) (fun g hg => (hlt g hg).1)
      case measure => simp [intOf]; omega
    · obtain rfl : k = ss.length := by omega
      go_wp2
      go_ret
      have hfin := hO.out.1
      rw [List.take_length] at hfin
      exact givesStrs_of (by rw [befs_length]; exact hfin) rfl hO.out.2

theorem tab_start2 (w : World) (B : Nat) (hB : B ≤ w.heap.size) :
    OwnAt ((w.alloc (.cells #[.string ByteArray.empty] 9)).alloc (.cells #[.slice (some ⟨w.heap.size, 0, none⟩) 1 1] 22)) B 22 9 (.slice (some ⟨w.heap.size + 1, 0, none⟩) 1 1) [.slice (some ⟨w.heap.size, 0, none⟩) 1 1] (strss [[⟨#[]⟩]]) := by
  have h1 : (w.alloc (.cells #[.string ByteArray.empty] 9)).ownsRow B 9 1 (.slice (some ⟨w.heap.size, 0, none⟩) 1 1) 1 (strs [⟨#[]⟩]) :=
    World.ownsRow_lit (base := B) (e := 9) (size := 1) w #[.string ByteArray.empty] 1 hB (by unfold maxLen; omega) rfl
  have hs : (w.alloc (.cells #[.string ByteArray.empty] 9)).heap.size = w.heap.size + 1 := by simp
  have h2 := World.ownsRow_lit (base := B) (e := 22) (size := 1) (w.alloc (.cells #[.string ByteArray.empty] 9)) #[.slice (some ⟨w.heap.size, 0, none⟩) 1 1] 1 (by rw [hs]; omega) (by unfold maxLen; omega) rfl
  rw [hs] at h2
  refine ⟨h2, fun i xs hx => ?_, fun i j u u' hij hu hu' => ?_⟩
  · have hi := (List.getElem?_eq_some_iff.1 hx).1
    obtain rfl : i = 0 := by simpa [strss] using hi
    obtain rfl : strs [⟨#[]⟩] = xs := by simpa [strss] using hx
    exact ⟨some ⟨w.heap.size, 0, none⟩, 1, rfl, h1.alloc _⟩
  · have hi := (List.getElem?_eq_some_iff.1 hu).1
    have hj := (List.getElem?_eq_some_iff.1 hu').1
    simp at hi hj
    omega
def GivesTab (w0 : World) (ss : List ByteArray) (m : Nat) (e : Ending) (w' : World) : Prop :=
  ∃ T : List (List ByteArray), Tab ss m T ∧ (∀ L ∈ T, W.Inc (raw L)) ∧ ∃ A c, e = .returned (.slice A (m + 1) c) ∧ OwnSS w' w0.heap.size 22 9 (.slice A (m + 1) c) (strss T) ∧ Below w0.heap.size w0 w'
theorem inc_start : Hid (∀ L ∈ [[(⟨#[]⟩ : ByteArray)]], W.Inc (raw L)) := fun L hL => by
  rw [List.mem_singleton] at hL
  rw [hL]
  exact List.pairwise_singleton _ _
set_option maxHeartbeats 3200000 in
theorem impl_writtenByLength (A : Option Addr) (ss : List ByteArray) (c : Nat) (m : Nat) (w : World) (h : Row w w.heap.size A (strs ss)) (hq : W.isSet ss = true) (hm9 : m ≤ 9) :
    Calls Tryd.prog 35 #[.slice A ss.length c, .int .i64 (m : Int)] w (GivesTab w ss m) := by
  have h12 := W.isSet_len ss hq
  have Hset := Lib.hid hq
  have Hrow := Lib.hid h
  obtain ⟨i0, hi, hz0, hz1, hz2⟩ := info_parts infoSS
  have HR := Lib.hid (And.intro hi (And.intro hz0 (And.intro hz1 hz2)))
  obtain ⟨i1, hi', hz0', hz1', hz2'⟩ := info_parts infoStr
  have HI := Lib.hid (And.intro hi' (And.intro hz0' (And.intro hz1' hz2')))
  have hst := Lib.hid (tab_start2 w w.heap.size (Nat.le_refl _))
  clear h hq hi' hz0' hz1' hz2' hi hz0 hz1 hz2
  go_enter Tryd.func35, Tryd.ntmps35
  go_wp2_with fail
  go_loopw [5, 6] (fun v kv wr => ∃ (j : Nat) (T : List (List ByteArray)) (vs : List Value), j ≤ m ∧ kv = .int .i64 ((j : Int) + 1) ∧ Tab ss j T ∧ Hid (∀ L ∈ T, W.Inc (raw L)) ∧ OwnAt wr w.heap.size 22 9 v vs (strss T) ∧ Below w.heap.size w wr) (fun _ kv _ => (m + 2 - (intOf kv).toNat))
  case atStart => exact ⟨0, _, _, Nat.zero_le _, rfl, Tab.zero, inc_start, hst.out, ((Below.refl _ _).alloc (Nat.le_refl _) _).alloc (by simp) _⟩
  case round =>
    clear hst
    obtain ⟨j, T, vs, hj, rfl, hT, hInc, hV, hB⟩ := hrel
    generalize wr = wq at *
    obtain ⟨Av, cv, rfl⟩ := own_slice hV.own
    have hlen0 : (strss T).length = j + 1 := by rw [strss_length, hT.len]
    rw [hlen0] at hV ⊢
    have hO := Lib.hid (And.intro hV hB)
    have HT := Lib.hid hT
    have hsz := hB.size
    replace hlen0 := Lib.hid hlen0
    clear hV hB hT
    obtain ⟨gv, rfl, hbg, hlg⟩ := own_form (by have := hO.out.1.own; rw [hlen0.out] at this; exact this) (show 0 < j + 1 by omega)
    by_cases hlt : j < m
    · have hlt' : (j : Int) + 1 ≤ (m : Int) := by omega
      have hj9 : (j : Int) < 9 := by omega
      have Hfew := Lib.hid (fun t => before_few Hset.out HT.out (show j ≤ 9 by omega) (j + 1) t)
      go_wp2_with fail
      go_loopw [7, 19] (fun nv i wk => ∃ (k : Nat), k ≤ ss.length ∧ i = .int .i64 k ∧ wk.ownsRow wq.heap.size 9 1 nv (nowTo (before T (j + 1)) ss k).length (strs (nowTo (before T (j + 1)) ss k)) ∧ Below wq.heap.size wq wk) (fun _ i _ => ss.length - (intOf i).toNat)
      case atStart => exact ⟨0, Nat.zero_le _, rfl, World.ownsRow_nil _ _ _ _, Below.refl _ _⟩
      case round =>
        obtain ⟨k, hk, rfl, hN, hB⟩ := hrel
        generalize wr = wk at *
        obtain ⟨An, cn, rfl⟩ := own_slice hN
        have hK := Lib.hid (And.intro hN hB)
        have hszk := hB.size
        have hNl := nowTo_length _ 19683 Hfew.out ss k hk
        clear hN hB
        by_cases hlk : k < ss.length
        · obtain ⟨b, off, rfl, hb, hcc⟩ := Hrow.out (by rw [strs_length]; omega)
          have hlk' : (k : Int) < (ss.length : Int) := by omega
          have c1 := ((hO.out.2.trans (hK.out.2.mono hsz)).cell (p := ⟨b, off + k, none⟩) hb).trans (hcc k _ (strs_nth ss k hlk))
          clear hcc
          have hs := Lib.hid (nowTo_succ (before T (j + 1)) ss k hlk)
          have hsz8 := (W.short_size _ (W.isSet_short ss Hset.out k hlk)).2
          have hpos := W.set_pos Hset.out k hlk
          generalize W.nth ss k = t at c1 hs hsz8 hpos
          by_cases hts : t.size ≤ j + 1
          · have hbt := before_yes T (j + 1) t hts
            obtain ⟨Aj, cj, hv, hrj⟩ := hO.out.1.inner (j + 1 - t.size) _ (HT.out.at (j + 1 - t.size) (by omega))
            rw [strs_length] at hv hrj
            have hown := hO.out.1.own
            rw [hlen0.out] at hown
            have c2 : wk.cell? ⟨gv, j + 1 - t.size, none⟩ = some (.slice Aj (T.getD (j + 1 - t.size) []).length cj) := (hK.out.2.cell (p := ⟨gv, j + 1 - t.size, none⟩) hlg).trans (by rw [hown.cellAt _ (by omega), hv])
            have hRj := Lib.hid (Row.of_own hrj)
            have hfewL := HT.out.few Hset.out (show j ≤ 9 by omega) (j + 1 - t.size)
            have hwl := Lib.hid (HT.out.word (j + 1 - t.size))
            rw [hbt] at hs
            clear hv hrj hown hbt
            generalize T.getD (j + 1 - t.size) [] = L at *
            have hsub : ((j : Int) + 1 - (t.size : Int)) = ((j + 1 - t.size : Nat) : Int) := by omega
            have hts' : (t.size : Int) ≤ (j : Int) + 1 := by omega
            have hn2 : (j : Int) + 1 - (t.size : Int) < (j : Int) + 1 := by omega
            have ht1 : (t.size : Int) ≤ 8388608 := by omega
            replace hsub := Lib.hid hsub
            generalize nowTo (before T (j + 1)) ss k = N at *
            have hlg2 : gv < wk.heap.size := by omega
            have hBa := Lib.hid ((Below.refl wk.heap.size wk).alloc (Nat.le_refl _) (.cells #[.string t] 9))
            have hsza := hBa.out.size
            have hbf := Lib.hid (wbl_listOf Aj L cj wk.heap.size t (wk.alloc (.cells #[.string t] 9)) (((hRj.out.below hK.out.2).below (hBa.out.mono hszk)).more (by omega)) (by omega) (fun s hs => by have := hwl.out s hs; omega) (by omega) (by rw [show (wk.alloc (.cells #[.string t] 9)).heap.size = wk.heap.size + 1 from Array.size_push ..]; omega) (by rw [World.cell?_alloc_at _ _ _ _ rfl]; rfl))
            have hbl : (befs t L).length ≤ 19683 := by rw [befs_length]; exact hfewL
            have hs2 : Hid (nowTo (before T (j + 1)) ss (k + 1) = N ++ befs t L) := by show _ = _; rw [hs.out]; rfl
            clear hs
            generalize befs t L = F at hbf hbl hs2
            go_wp2_with fail
            refine hbf.out.mono ?_
            rintro e w2 ⟨AF, cF, rfl, hoF, hBF⟩
            have hB2 := Lib.hid (hBa.out.trans (hBF.mono hsza))
            have hN2 := Lib.hid (own_below hK.out.1 hB2.out)
            have hF2 := Lib.hid (Row.of_own hoF)
            have hsz2 := hB2.out.size
            have hltN := Lib.hid hN2.out.lt
            clear hoF hBF
            go_wp2_with (at_builtin; refine wpList_append_row _ rfl _ _ 22 rfl wq.heap.size 9 i1 _ 16 Tryd.underlying22 HI.out.1 HI.out.2.1 HI.out.2.2.1 HI.out.2.2.2 rfl (.slice An N.length cn) N.length (strs N) rfl hN2.out w2.heap.size AF cF (strs F) (by rw [strs_length]; rfl) hF2.out (strs_cells _) (by rw [strs_length]; unfold maxLen; omega) (by rw [strs_length]; omega) (by omega) ?_)
            intro v3 w3 ho3 hg3
            rw [strs_length] at ho3
            have hG := Lib.hid (And.intro ho3 ((hK.out.2.trans (hB2.out.mono hszk)).grown hg3 (by omega) (fun g hg => (hltN.out g hg).1)))
            clear ho3 hg3
            go_wp2
            go_roundw
            case rel => exact ⟨k + 1, by omega, by go_num, by rw [hs2.out, strs_append, List.length_append]; exact hG.out.1, hG.out.2⟩
            case measure => simp [intOf]; omega
          · have hbt := before_no T (j + 1) t hts
            rw [hbt, List.append_nil] at hs
            have hts' : ¬ ((t.size : Int) ≤ (j : Int) + 1) := by omega
            go_wp2
            go_roundw
            case rel => exact ⟨k + 1, by omega, by go_num, by rw [hs.out]; exact own_below hK.out.1 ((Below.refl _ _).alloc (Nat.le_refl _) _), hK.out.2.alloc hszk _⟩
            case measure => simp [intOf]; omega
        · obtain rfl : k = ss.length := by omega
          have hNx := Lib.hid (fun m' (h1 : m'.Nodup) h2 => HT.out.nextB (m := m') Hset.out h1 h2)
          generalize nowTo (before T (j + 1)) ss ss.length = N at *
          have hN4 : N.length ≤ 262144 := by omega
          have hq := Lib.hid (impl_inOrder An N cn wk (Row.of_own hK.out.1) hN4)
          have hT2 := Lib.hid (hNx.out (ordB N) (inc_nodup (inc_ord N)) (mem_ord N))
          have hInc2 : Hid (∀ L ∈ T ++ [ordB N], W.Inc (raw L)) := fun L hL => by
            rcases List.mem_append.1 hL with hL | hL
            · exact hInc.out L hL
            · rw [List.mem_singleton] at hL; rw [hL]; exact inc_ord N
          generalize ordB N = M at hq hT2 hInc2
          go_wp2_with fail
          refine hq.out.mono ?_
          rintro e w2 ⟨A', c', rfl, hM, hB2⟩
          have hM2 := own_base hM hszk
          have hB3 := hK.out.2.trans (hB2.mono hszk)
          have hsz2 := hB3.size
          have hV2 := hO.out.1.below hB3
          have hlt2 := hM2.lt
          have hsep2 : ∀ u ∈ vs, u.ownBlock = none ∨ u.ownBlock ≠ (Value.slice A' M.length c').ownBlock := fun u hu => by
            cases hb : u.ownBlock with
            | none => exact .inl rfl
            | some g =>
              right
              intro e
              have h1 := (hO.out.1.lt u hu g hb).2
              have h2 := (hlt2 g e.symm).1
              omega
          have hV4 := hV2.below ((Below.refl w2.heap.size w2).alloc (Nat.le_refl _) (.cells #[.slice A' M.length c'] 22))
          have hM4 := own_below (own_base hM2 hsz) ((Below.refl w2.heap.size w2).alloc (Nat.le_refl _) (.cells #[.slice A' M.length c'] 22))
          have hB4 := (hO.out.2.trans (hB3.mono hsz)).alloc (by omega) (.cells #[.slice A' M.length c'] 22)
          have hown4 := hV4.own
          rw [hlen0.out] at hown4
          have H4 := Lib.hid (And.intro hV4 (And.intro hM4 hB4))
          have HW4 := Lib.hid hown4
          have hSep := Lib.hid hsep2
          have hszw := hsz
          clear hV4 hM4 hB4 hown4 hsep2 hlt2 hV2 hM2 hB3 hB2 hM hq hNx hK
          go_wp2_with (at_builtin; refine wpList_append_own _ rfl _ _ 43 rfl w.heap.size 22 i0 (.slice none 0 0) 1 24 Tryd.underlying43 HR.out.1 HR.out.2.1 HR.out.2.2.1 HR.out.2.2.2 rfl (by decide) (.slice (some ⟨gv, 0, none⟩) (j + 1) cv) (j + 1) vs rfl HW4.out ⟨w2.heap.size, 0, none⟩ 1 1 [.slice A' M.length c'] rfl rfl (cells_sl _ _ _) (one_sl _ _ _) (by unfold maxLen; omega) (by omega) (by simp; omega) ?_)
          intro v5 w5 ho5 hg5 _
          have hP5 := OwnAt.push (by decide) H4.out.1 (v' := v5) (by rw [strs_length]; exact H4.out.2.1) (by rw [strs_length]; exact hSep.out) (by rw [hlen0.out, strs_length]; exact ho5) hg5
          rw [strs_length] at hP5
          have hB5 := H4.out.2.2.grown hg5 (by simp; omega) (fun g hg => (HW4.out.lt g hg).1)
          have hst : Hid (strss T ++ [strs M] = strss (T ++ [M])) := by
            show _ = _
            rw [strss_snoc]
          rw [hst.out] at hP5
          have H5 := Lib.hid (And.intro hP5 hB5)
          clear hP5 hB5 ho5 hg5 H4 HW4 hSep
          go_wp2
          go_roundw
          case rel => exact ⟨j + 1, _, _, by omega, by go_num, hT2.out, hInc2, H5.out.1, H5.out.2⟩
          case measure => simp [intOf]; omega
    · obtain rfl : j = m := by omega
      have hlt' : ¬ ((j : Int) + 1 ≤ (j : Int)) := by omega
      go_wp2
      go_ret
      have hfin := hO.out.1
      have hee := hlen0.out
      exact ⟨T, HT.out, hInc.out, _, _, rfl, ⟨vs, hfin⟩, hO.out.2⟩
end Go.Proofs.YtiemoocdffobgaaDoor
