/-
  WHAT THIS FILE PROVES: how many different texts of so many letters are written: the specification's function gives the number of the table's last row; asked: a slice of texts in memory, lengths and a number that an int holds.
-/
import Derived.Test.YtiemoocdffobgaaDoorWrtL
import Derived.Test.YtiemoocdffobgaaDoorSorted
import Derived.Test.YtiemoocdffobgaaDoorDangS
namespace Go.Proofs.YtiemoocdffobgaaDoor
open Go.RowKit Go.Shelf

theorem tab_start (w : World) (B : Nat) (hB : B ≤ w.heap.size) :
    OwnAt ((w.alloc (.cells #[.string ByteArray.empty] 9)).alloc (.cells #[.slice (some ⟨w.heap.size, 0, none⟩) 1 1] 22)) B 22 9 (.slice (some ⟨w.heap.size + 1, 0, none⟩) 1 1) [.slice (some ⟨w.heap.size, 0, none⟩) 1 1] (strss [[⟨#[]⟩]]) := by
  have h1 : (w.alloc (.cells #[.string ByteArray.empty] 9)).ownsRow B 9 1 (.slice (some ⟨w.heap.size, 0, none⟩) 1 1) 1 (strs [⟨#[]⟩]) :=
    World.ownsRow_lit (base := B) (e := 9) (size := 1) w #[.string ByteArray.empty] 1 hB (by unfold maxLen; omega) rfl
  have hs : (w.alloc (.cells #[.string ByteArray.empty] 9)).heap.size = w.heap.size + 1 := by simp
  have h2 := World.ownsRow_lit (base := B) (e := 22) (size := 1) (w.alloc (.cells #[.string ByteArray.empty] 9)) #[.slice (some ⟨w.heap.size, 0, none⟩) 1 1] 1 (by rw [hs]; omega) (by unfold maxLen; omega) rfl
  rw [hs] at h2
  refine ⟨h2, fun i xs hx => ?_, fun i j u u' hij hu hu' => ?_⟩
  · have hi := (List.getElem?_eq_some_iff.1 hx).1
    obtain rfl : i = 0 := by simpa [strss] using hi
    obtain rfl : strs [⟨#[]⟩] = xs := by simpa [strss] using hx
    exact ⟨some ⟨w.heap.size, 0, none⟩, 1, rfl, h1.alloc _⟩
  · have hi := (List.getElem?_eq_some_iff.1 hu).1
    have hj := (List.getElem?_eq_some_iff.1 hu').1
    simp at hi hj
    omega

theorem own_capW {w : World} {base e n c m : Nat} {A : Option Addr} {vs : List Value} (h : w.ownsRow base e m (.slice A n c) n vs) : n ≤ c := by
  rcases h.2 with ⟨hv, h0⟩ | ⟨g, cap, cur, hv, hg, hh, hn, _⟩
  · omega
  · simp only [Value.slice.injEq] at hv
    omega

set_option maxHeartbeats 3200000 in
theorem spec_CountWritten (A : Option Addr) (ss : List ByteArray) (c : Nat) (n : Int) (w : World) (h : Row w w.heap.size A (strs ss)) (hl : ss.length ≤ 9223372036854775807) (hs : ∀ s ∈ ss, s.size ≤ 9223372036854775807) (hna : -9223372036854775808 ≤ n) (hnb : n ≤ 9223372036854775807) :
    Calls Tryd.prog 14 #[.slice A ss.length c, .int .i64 n] w fun e w' => e = .returned (.tuple #[.int .i64 ((cwOf ss n : Nat) : Int), .bool (cwOk ss n)]) ∧ Below w.heap.size w w' := by
  have hc := spec_wdSet A ss c w h hl hs
  cases hq : W.isSet ss
  · have hno : cwOk ss n = false := by unfold cwOk; rw [hq]; rfl
    rw [cwOf_no hno, hno]
    rw [hq] at hc
    replace hc := Lib.hid hc
    clear h hs hq hno
    go_enter Tryd.func14, Tryd.ntmps14
    go_wp2_with (go_at_call 29; refine hc.out.mono ?_; rintro e w' ⟨rfl, rfl⟩)
    go_ret2
    exact ⟨rfl, Below.refl _ _⟩
  · rw [hq] at hc
    replace hc := Lib.hid hc
    have h12 := W.isSet_len ss hq
    have hin := fun W => spec_l1In n 0 9 W
    by_cases hr : 0 ≤ n ∧ n ≤ 9
    · rw [decide_eq_true hr] at hin
      replace hin := Lib.hid hin
      have hok : cwOk ss n = true := by unfold cwOk; rw [hq, decide_eq_true hr]; rfl
      rw [cwOf_yes hok, hok]
      obtain ⟨m, rfl⟩ := Int.eq_ofNat_of_zero_le hr.1
      have hm9 : m ≤ 9 := by omega
      rw [Int.toNat_natCast]
      have Hset := Lib.hid hq
      have Hrow := Lib.hid h
      obtain ⟨i0, hi, hz0, hz1, hz2⟩ := info_parts infoStrs
      have HR := Lib.hid (And.intro hi (And.intro hz0 (And.intro hz1 hz2)))
      obtain ⟨i1, hi', hz0', hz1', hz2'⟩ := info_parts infoStr
      have HI := Lib.hid (And.intro hi' (And.intro hz0' (And.intro hz1' hz2')))
      clear h hs hq hok hr hi' hz0' hz1' hz2' hi hz0 hz1 hz2
      go_enter Tryd.func14, Tryd.ntmps14
      go_wp2_with (first | (go_at_call 29; refine hc.out.mono ?_; rintro e w' ⟨rfl, rfl⟩) | (go_at_call 33; refine (hin.out _).mono ?_; rintro e w' ⟨rfl, rfl⟩))
      have hst := Lib.hid (tab_start w w.heap.size (Nat.le_refl _))
      go_loopw [6, 7] (fun v kv wr => ∃ (j : Nat) (T : List (List ByteArray)) (vs : List Value), j ≤ m ∧ kv = .int .i64 ((j : Int) + 1) ∧ Tab ss j T ∧ OwnAt wr w.heap.size 22 9 v vs (strss T) ∧ Below w.heap.size w wr) (fun _ kv _ => (m + 2 - (intOf kv).toNat))
      case atStart => exact ⟨0, _, _, Nat.zero_le _, rfl, Tab.zero, hst.out, ((Below.refl _ _).alloc (Nat.le_refl _) _).alloc (by simp) _⟩
      case round =>
        clear hst
        obtain ⟨j, T, vs, hj, rfl, hT, hV, hB⟩ := hrel
        generalize wr = wq at *
        obtain ⟨Av, cv, rfl⟩ := own_slice hV.own
        have hlen0 : (strss T).length = j + 1 := by rw [strss_length, hT.len]
        rw [hlen0] at hV ⊢
        have hO := Lib.hid (And.intro hV hB)
        have HT := Lib.hid hT
        have hsz := hB.size
        replace hlen0 := Lib.hid hlen0
        clear hV hB hT
        by_cases hlt : j < m
        · have hlt' : (j : Int) + 1 ≤ (m : Int) := by omega
          have hj9 : (j : Int) < 9 := by omega
          obtain ⟨gv, rfl, hbg, hlg⟩ := own_form (by have := hO.out.1.own; rw [hlen0.out] at this; exact this) (show 0 < j + 1 by omega)
          have Hfew := Lib.hid (fun t => behind_few Hset.out HT.out (show j ≤ 9 by omega) (j + 1) t)
          go_wp2_with fail
          go_loopw [8, 30] (fun nv i wk => ∃ (k : Nat), k ≤ ss.length ∧ i = .int .i64 k ∧ wk.ownsRow wq.heap.size 9 1 nv (nowTo (behind T (j + 1)) ss k).length (strs (nowTo (behind T (j + 1)) ss k)) ∧ Below wq.heap.size wq wk) (fun _ i _ => ss.length - (intOf i).toNat)
          case atStart => exact ⟨0, Nat.zero_le _, rfl, World.ownsRow_nil _ _ _ _, Below.refl _ _⟩
          case round =>
            obtain ⟨k, hk, rfl, hN, hB⟩ := hrel
            generalize wr = wk at *
            obtain ⟨An, cn, rfl⟩ := own_slice hN
            have hK := Lib.hid (And.intro hN hB)
            have hszk := hB.size
            have hNl := nowTo_length _ 19683 Hfew.out ss k hk
            clear hN hB
            by_cases hlk : k < ss.length
            · obtain ⟨b, off, rfl, hb, hcc⟩ := Hrow.out (by rw [strs_length]; omega)
              have hlk' : (k : Int) < (ss.length : Int) := by omega
              have c1 := ((hO.out.2.trans (hK.out.2.mono hsz)).cell (p := ⟨b, off + k, none⟩) hb).trans (hcc k _ (strs_nth ss k hlk))
              clear hcc
              have hs := Lib.hid (nowTo_succ (behind T (j + 1)) ss k hlk)
              have hsz8 := (W.short_size _ (W.isSet_short ss Hset.out k hlk)).2
              have hpos := W.set_pos Hset.out k hlk
              generalize W.nth ss k = t at c1 hs hsz8 hpos
              by_cases hts : t.size ≤ j + 1
              · have hbt := behind_yes T (j + 1) t hts
                obtain ⟨Aj, cj, hv, hrj⟩ := hO.out.1.inner (j + 1 - t.size) _ (HT.out.at (j + 1 - t.size) (by omega))
                rw [strs_length] at hv hrj
                have hown := hO.out.1.own
                rw [hlen0.out] at hown
                have c2 : wk.cell? ⟨gv, j + 1 - t.size, none⟩ = some (.slice Aj (T.getD (j + 1 - t.size) []).length cj) := (hK.out.2.cell (p := ⟨gv, j + 1 - t.size, none⟩) hlg).trans (by rw [hown.cellAt _ (by omega), hv])
                have hRj := Lib.hid (Row.of_own hrj)
                have hfewL := HT.out.few Hset.out (show j ≤ 9 by omega) (j + 1 - t.size)
                have hwl := Lib.hid (HT.out.word (j + 1 - t.size))
                rw [hbt] at hs
                clear hv hrj hown hbt
                generalize T.getD (j + 1 - t.size) [] = L at *
                have hsub : ((j : Int) + 1 - (t.size : Int)) = ((j + 1 - t.size : Nat) : Int) := by omega
                have hts' : ¬ ((j : Int) + 1 < (t.size : Int)) := by omega
                have hn2 : (j : Int) + 1 - (t.size : Int) < (j : Int) + 1 := by omega
                have ht1 : (t.size : Int) ≤ 8388608 := by omega
                replace hsub := Lib.hid hsub
                generalize nowTo (behind T (j + 1)) ss k = N at *
                go_wp2_with fail
                go_loopw [8, 46] (fun nv i wi => ∃ (r : Nat), r ≤ L.length ∧ i = .int .i64 r ∧ wi.ownsRow wq.heap.size 9 1 nv (N ++ rowTo L t r).length (strs (N ++ rowTo L t r)) ∧ Below wq.heap.size wq wi) (fun _ i _ => L.length - (intOf i).toNat)
                case atStart => exact ⟨0, Nat.zero_le _, rfl, by rw [rowTo_zero, List.append_nil]; exact hK.out.1, hK.out.2⟩
                case round =>
                  obtain ⟨r, hr1, rfl, hN, hB⟩ := hrel
                  generalize wr = wi at *
                  obtain ⟨An2, cn2, rfl⟩ := own_slice hN
                  have hI := Lib.hid (And.intro hN hB)
                  have hszi := hB.size
                  have hrl : (N ++ rowTo L t r).length ≤ 262144 := by rw [List.length_append, rowTo_length L t r hr1]; omega
                  clear hN hB
                  by_cases hlr : r < L.length
                  · obtain ⟨bj, offj, rfl, hbj, hccj⟩ := hRj.out (by rw [strs_length]; omega)
                    have hlr' : (r : Int) < (L.length : Int) := by omega
                    have c3 := (hI.out.2.cell (p := ⟨bj, offj + r, none⟩) hbj).trans (hccj r _ (strs_nth L r hlr))
                    clear hccj
                    have hs2 := Lib.hid (rowTo_succ L t r hlr)
                    have hsw := hwl.out (W.nth L r) (by rw [W.nth_lt L r hlr]; exact List.getElem_mem hlr)
                    generalize W.nth L r = x at c3 hs2 hsw
                    have hx1 : (x.size : Int) ≤ 8388608 := by omega
                    generalize rowTo L t r = M at *
                    go_wp2_with (at_builtin; refine wpList_append_own _ rfl _ _ 22 rfl wq.heap.size 9 i1 (.string ByteArray.empty) 1 16 Tryd.underlying22 HI.out.1 HI.out.2.1 HI.out.2.2.1 HI.out.2.2.2 rfl (by decide) _ _ _ rfl (hI.out.1.alloc _) ⟨wi.heap.size, 0, none⟩ 1 1 [.string (x ++ t)] rfl rfl (cell_one_new _ _ _) (one_text _) (by unfold maxLen; omega) (by omega) (by simp; omega) ?_)
                    intro v' w3 hown' hgrow _
                    have hlt4 := hI.out.1.lt
                    rw [List.length_append] at hlt4
                    have hF := Lib.hid (And.intro hown' ((hI.out.2.alloc hszi _).grown hgrow (by simp; omega) (fun g hg => (hlt4 g hg).1)))
                    clear hown' hgrow hlt4
                    go_wp2
                    go_roundw
                    case rel =>
                      refine ⟨r + 1, by omega, by go_num, ?_, hF.out.2⟩
                      rw [hs2.out, ← List.append_assoc, strs_snoc, List.length_append, List.length_append]
                      exact hF.out.1
                    case measure => simp [intOf]; omega
                  · obtain rfl : r = L.length := by omega
                    go_wp2
                    go_roundw
                    case rel => exact ⟨k + 1, by omega, by go_num, by rw [hs.out]; exact hI.out.1, hI.out.2⟩
                    case measure => simp [intOf]; omega
              · have hbt := behind_no T (j + 1) t hts
                rw [hbt, List.append_nil] at hs
                have hts' : (j : Int) + 1 < (t.size : Int) := by omega
                go_wp2
                go_roundw
                case rel => exact ⟨k + 1, by omega, by go_num, by rw [hs.out]; exact hK.out.1, hK.out.2⟩
                case measure => simp [intOf]; omega
            · obtain rfl : k = ss.length := by omega
              have hNx := Lib.hid (fun m' (h1 : m'.Nodup) h2 => HT.out.next (m := m') Hset.out h1 h2)
              generalize nowTo (behind T (j + 1)) ss ss.length = N at *
              have hN4 : N.length ≤ 262144 := by omega
              have hq := Lib.hid (spec_dcSorted N.length An N cn wk rfl (own_capW hK.out.1) (Row.of_own hK.out.1) hN4)
              go_wp2_with fail
              refine hq.out.mono ?_
              rintro e w2 ⟨M, A', c', hsr, rfl, hor, hML, hB2⟩
              have hM2 : w2.ownsRow wq.heap.size 9 1 (.slice A' M.length c') M.length (strs M) := by
                rcases hor with ⟨rfl, rfl, rfl⟩ | ho
                · exact own_below hK.out.1 hB2
                · exact own_base ho hszk
              have hT2 := Lib.hid (hNx.out M hsr.1.nodup hsr.2)
              have hB3 := hK.out.2.trans (hB2.mono hszk)
              have hsz2 := hB3.size
              have hV2 := hO.out.1.below hB3
              have hlt2 := hM2.lt
              have hsep2 : ∀ u ∈ vs, u.ownBlock = none ∨ u.ownBlock ≠ (Value.slice A' M.length c').ownBlock := fun u hu => by
                cases hb : u.ownBlock with
                | none => exact .inl rfl
                | some g =>
                  right
                  intro e
                  have h1 := (hO.out.1.lt u hu g hb).2
                  have h2 := (hlt2 g e.symm).1
                  omega
              have hV4 := hV2.below ((Below.refl w2.heap.size w2).alloc (Nat.le_refl _) (.cells #[.slice A' M.length c'] 22))
              have hM4 := own_below (own_base hM2 hsz) ((Below.refl w2.heap.size w2).alloc (Nat.le_refl _) (.cells #[.slice A' M.length c'] 22))
              have hB4 := (hO.out.2.trans (hB3.mono hsz)).alloc (by omega) (.cells #[.slice A' M.length c'] 22)
              have hown4 := hV4.own
              rw [hlen0.out] at hown4
              have H4 := Lib.hid (And.intro hV4 (And.intro hM4 hB4))
              have HW4 := Lib.hid hown4
              have hSep := Lib.hid hsep2
              have hszw := hsz
              clear hV4 hM4 hB4 hown4 hsep2 hlt2 hV2 hM2 hB3 hB2 hor hsr hq hNx hK
              go_wp2_with (at_builtin; refine wpList_append_own _ rfl _ _ 43 rfl w.heap.size 22 i0 (.slice none 0 0) 1 24 Tryd.underlying43 HR.out.1 HR.out.2.1 HR.out.2.2.1 HR.out.2.2.2 rfl (by decide) (.slice (some ⟨gv, 0, none⟩) (j + 1) cv) (j + 1) vs rfl HW4.out ⟨w2.heap.size, 0, none⟩ 1 1 [.slice A' M.length c'] rfl rfl (cells_oneS _ _ _) (one_sliceS _ _ _) (by unfold maxLen; omega) (by omega) (by simp; omega) ?_)
              intro v5 w5 ho5 hg5 _
              have hP5 := OwnAt.push (by decide) H4.out.1 (v' := v5) (by rw [strs_length]; exact H4.out.2.1) (by rw [strs_length]; exact hSep.out) (by rw [hlen0.out, strs_length]; exact ho5) hg5
              rw [strs_length] at hP5
              have hB5 := H4.out.2.2.grown hg5 (by simp; omega) (fun g hg => (HW4.out.lt g hg).1)
              have hst : Hid (strss T ++ [strs M] = strss (T ++ [M])) := by
                show _ = _
                rw [strss_snoc]
              rw [hst.out] at hP5
              have H5 := Lib.hid (And.intro hP5 hB5)
              clear hP5 hB5 ho5 hg5 H4 HW4 hSep
              go_wp2
              go_roundw
              case rel => exact ⟨j + 1, _, _, by omega, by go_num, hT2.out, H5.out.1, H5.out.2⟩
              case measure => simp [intOf]; omega
        · obtain rfl : j = m := by omega
          obtain ⟨gv, rfl, hbg, hlg⟩ := own_form (by have := hO.out.1.own; rw [hlen0.out] at this; exact this) (show 0 < j + 1 by omega)
          obtain ⟨Aj, cj, hv, hrj⟩ := hO.out.1.inner j _ (HT.out.at j (Nat.le_refl _))
          rw [strs_length] at hv
          have hown := hO.out.1.own
          rw [hlen0.out] at hown
          have c2 : wq.cell? ⟨gv, j, none⟩ = some (.slice Aj (T.getD j []).length cj) := by rw [hown.cellAt _ (by omega), hv]
          have hlt' : ¬ ((j : Int) + 1 ≤ (j : Int)) := by omega
          have hjj : (j : Int) < (j : Int) + 1 := by omega
          have hcw := Lib.hid (cwN_eq HT.out)
          clear hv hrj hown
          go_wp2
          go_ret2
          refine ⟨?_, hO.out.2⟩
          rw [hcw.out]
          simp
    · rw [decide_eq_false hr] at hin
      replace hin := Lib.hid hin
      have hno : cwOk ss n = false := by unfold cwOk; rw [decide_eq_false hr]; simp
      rw [cwOf_no hno, hno]
      clear h hs hq hno hr
      go_enter Tryd.func14, Tryd.ntmps14
      go_wp2_with (first | (go_at_call 29; refine hc.out.mono ?_; rintro e w' ⟨rfl, rfl⟩) | (go_at_call 33; refine (hin.out _).mono ?_; rintro e w' ⟨rfl, rfl⟩))
      go_ret2
      exact ⟨rfl, Below.refl _ _⟩

end Go.Proofs.YtiemoocdffobgaaDoor
