/-
  WHAT THIS FILE PROVES: the set that is made of all words of n letters, each taken if the set is comma free with it: the program's functions give the plain one; nothing is asked of the memory.
-/
import Derived.Test.YtdmbfmpagcjdpaaFcf
import Derived.Test.YtdmbfmpagcjdpaaInsI
import Derived.Test.YtdmbfmpagcjdpaaKidI
import Derived.Test.YtdmbfmpagcjdpaaKrI
import Derived.Test.YtdmbfmpagcjdpaaKeep
namespace Go.Proofs.Ytdmbfmpagcjdpaa
open Go.RowKit Go.Shelf

set_option maxHeartbeats 3200000 in
set_option maxRecDepth 100000 in
theorem impl_wordsOfLength (L n : Nat) (w : World) (hL : L = 2 ∨ L = 3) (h4 : n ≤ 4) :
    Calls Try.prog 18 #[.int .i64 L, .int .i64 n] w (GivesStrs w (wlen L n)) := by
  have Hnth := Lib.hid (fun j (hj : j ≤ n) i hi => wlen_nth hL (Nat.le_trans hj h4) i hi)
  have Hpl := Lib.hid (fun j (hj : j ≤ n) => pow_le81 hL (Nat.le_trans hj h4))
  have Hlen := Lib.hid (wlen_len L)
  have hL3 : L ≤ 3 := by omega
  obtain ⟨i0, hi, hz0, hz1, hz2⟩ := info_parts infoStr
  have HR := Lib.hid (And.intro hi (And.intro hz0 (And.intro hz1 hz2)))
  clear hi hz0 hz1 hz2
  have h1 : Hid ((w.alloc (.cells #[.string ⟨#[]⟩] 9)).ownsRow w.heap.size 9 1 (.slice (some ⟨w.heap.size, 0, none⟩) 1 1) 1 (strs [⟨#[]⟩])) := by
    have := World.ownsRow_lit (base := w.heap.size) (e := 9) (size := 1) w #[.string ⟨#[]⟩] 1 (Nat.le_refl _) (by unfold maxLen; omega) rfl
    exact this
  go_enter Try.func18, Try.ntmps18
  go_wp2_with fail
  go_loopw [5, 11] (fun v i wr => ∃ j : Nat, j ≤ n ∧ i = .int .i64 j ∧ wr.ownsRow w.heap.size 9 1 v (wlen L j).length (strs (wlen L j)) ∧ Below w.heap.size w wr) (fun _ i _ => n - (intOf i).toNat)
  case atStart => exact ⟨0, Nat.zero_le _, rfl, h1.out, (Below.refl _ _).alloc (Nat.le_refl _) _⟩
  case round =>
    obtain ⟨j, hj, rfl, ho, hB⟩ := hrel
    generalize wr = wk at *
    obtain ⟨Av, cv, rfl⟩ := own_slice ho
    have hO := Lib.hid (And.intro ho hB)
    have hszk := hB.size
    clear ho hB h1
    by_cases hlt : j < n
    · have hlt' : (j : Int) < (n : Int) := by omega
      have hRow := Lib.hid (Row.of_own hO.out.1)
      have hn81 := Hpl.out j hj
      rw [← Hlen.out j] at hn81
      have Hn := Lib.hid (fun i (hi : i < (wlen L j).length) => Hnth.out j hj i (by rw [← Hlen.out j]; exact hi))
      have Hs := Lib.hid (fun k hk => wlTo_succ L j k hk)
      have Hl := Lib.hid (fun k hk => wlTo_len L j k hk)
      have Ha := Lib.hid (wlTo_all L j)
      go_wp2_with fail
      go_loopw [6, 15] (fun v i wr => ∃ (k : Nat) (acc : List ByteArray), acc = wlTo L j k ∧ k ≤ (wlen L j).length ∧ i = .int .i64 k ∧ wr.ownsRow wk.heap.size 9 1 v acc.length (strs acc) ∧ Below wk.heap.size wk wr) (fun _ i _ => (wlen L j).length - (intOf i).toNat)
      case atStart => exact ⟨0, [], rfl, Nat.zero_le _, rfl, World.ownsRow_nil _ _ _ _, Below.refl _ _⟩
      case round =>
        obtain ⟨k, acc, hacc, hk, rfl, ho2, hB2⟩ := hrel
        obtain ⟨Ar, cr, rfl⟩ := own_slice ho2
        have hO2 := Lib.hid (And.intro ho2 hB2)
        clear ho2 hB2
        by_cases hlk : k < (wlen L j).length
        · have hlk' : (k : Int) < ((wlen L j).length : Int) := by omega
          obtain ⟨b, off, rfl, hb, hcc⟩ := hRow.out (by rw [strs_length]; omega)
          have c1 := (hO2.out.2.cell (p := ⟨b, off + k, none⟩) hb).trans (hcc k _ (strs_nth (wlen L j) k hlk))
          clear hcc
          have hal : acc.length = k * L := by rw [hacc]; exact Hl.out k hk
          have hal2 : acc.length ≤ 243 := by
            rw [hal]
            exact Nat.le_trans (Nat.mul_le_mul (show k ≤ 81 by omega) hL3) (by decide)
          have hs := Hs.out k hlk
          have hsz : (W.nth (wlen L j) k).size ≤ 60 := by rw [Hn.out k hlk, txtB_size]; omega
          generalize W.nth (wlen L j) k = s at c1 hs hsz
          have he := Lib.hid (show acc ++ kids s L = wlTo L j (k + 1) by rw [hs, hacc])
          have hkl := kids_len s L
          have hcall := Lib.hid (impl_oneLonger s L wr hsz hL3)
          clear hs hal hacc
          go_wp2_with fail
          refine hcall.out.mono ?_
          rintro e w2 ⟨A2, c2, rfl, ho3, hB3⟩
          have hz2 := hB3.size
          have hO3 := Lib.hid (And.intro ho3 (And.intro (own_below hO2.out.1 hB3) (hO2.out.2.trans (hB3.mono hO2.out.2.size))))
          clear ho3 hB3
          have hksl : (strs (kids s L)).length = L := by rw [strs_length, hkl]
          rw [hkl] at hO3 ⊢
          generalize kids s L = ks at hO3 he hkl hksl
          go_wp2_with (at_builtin; refine wpList_append_row _ rfl _ _ 22 rfl wk.heap.size 9 i0 _ 16 Try.underlying22 HR.out.1 HR.out.2.1 HR.out.2.2.1 HR.out.2.2.2 rfl (.slice Ar acc.length cr) acc.length (strs acc) rfl hO3.out.2.1 w2.heap.size A2 c2 (strs ks) (by rw [hksl]; rfl) (Row.of_own hO3.out.1) (strs_cells _) (by rw [hksl]; unfold maxLen; omega) (by rw [hksl]; omega) (by have := hO3.out.2.2.size; omega) ?_)
          intro v1 w3 ho4 hg4
          try rw [hksl] at ho4
          have hF := Lib.hid (And.intro ho4 (hO3.out.2.2.grown hg4 hO3.out.2.2.size (fun g hg => (hO3.out.2.1.lt g hg).1)))
          clear ho4 hg4
          go_wp2_with fail
          go_roundw
          case rel =>
            refine ⟨k + 1, acc ++ ks, he.out, by omega, by go_num, ?_, hF.out.2⟩
            have h := hF.out.1
            rw [show strs acc ++ strs ks = strs (acc ++ ks) by simp [strs]] at h
            rw [List.length_append, hkl]
            exact h
          case measure => simp [intOf]; omega
        · obtain rfl : k = (wlen L j).length := by omega
          have hw : acc = wlen L (j + 1) := hacc.trans Ha.out
          subst hw
          go_wp2_with fail
          go_roundw
          case rel => exact ⟨j + 1, by omega, by go_num, own_base hO2.out.1 hszk, hO.out.2.trans (hO2.out.2.mono hszk)⟩
          case measure => simp [intOf]; omega
    · obtain rfl : j = n := by omega
      go_wp2_with fail
      go_ret
      exact givesStrs_of hO.out.1 rfl hO.out.2
set_option maxHeartbeats 3200000 in
set_option maxRecDepth 100000 in
theorem impl_FirstCommaFree (L n : Int) (w : World) :
    Calls Try.prog 6 #[.int .i64 L, .int .i64 n] w (OkStrs w (fcfOf L n) (fcfOk L n)) := by
  have hk := impl_areLetters L w
  cases hq : W.krLet L
  · have hno : fcfOk L n = false := by unfold fcfOk; rw [hq]; rfl
    rw [fcfOf_no hno, hno]
    rw [hq] at hk
    replace hk := Lib.hid hk
    clear hno hq
    go_enter Try.func6, Try.ntmps6
    go_wp2_with fail
    refine hk.out.mono ?_
    rintro e w1 ⟨rfl, rfl⟩
    go_wp2_with fail
    go_ret2
    exact okStrs_nil _ _ _ (Below.refl _ _)
  · rw [hq] at hk
    replace hk := Lib.hid hk
    by_cases hr : 1 ≤ n ∧ n ≤ 4
    · obtain ⟨j, rfl⟩ := Int.eq_ofNat_of_zero_le (show (0 : Int) ≤ n by omega)
      have hLc : L = ((L.toNat : Nat) : Int) ∧ (L.toNat = 2 ∨ L.toNat = 3) := by
        rcases W.krLet_cases hq with rfl | rfl <;> simp
      generalize L.toNat = l at hLc
      obtain ⟨rfl, hl⟩ := hLc
      have hok : fcfOk (l : Int) (j : Int) = true := by unfold fcfOk; rw [hq, decide_eq_true hr]; rfl
      rw [fcfOf_yes hok, hok]
      have hj4 : j ≤ 4 := by omega
      have hj1 : 1 ≤ j := by omega
      have Hwl := Lib.hid (fun u => impl_wordsOfLength l j u hl hj4)
      have Hn := Lib.hid (fun i hi => wlen_nth hl hj4 i hi)
      have hp81 := pow_le81 hl hj4
      have Hlen := Lib.hid (wlen_len l j)
      have h1 : ¬ (j : Int) < 1 := by omega
      have h2 : ¬ (4 : Int) < (j : Int) := by omega
      obtain ⟨i0, hi, hz0, hz1, hz2⟩ := info_parts infoStr
      have HR := Lib.hid (And.intro hi (And.intro hz0 (And.intro hz1 hz2)))
      generalize hP : l ^ j = P at Hn hp81 Hlen ⊢
      clear hi hz0 hz1 hz2 hok hq hr hP
      go_enter Try.func6, Try.ntmps6
      go_wp2_with fail
      refine hk.out.mono ?_
      rintro e w1 ⟨rfl, rfl⟩
      go_wp2_with fail
      refine (Hwl.out _).mono ?_
      rintro e w2 ⟨Aw, cw, rfl, how, hBw⟩
      have hRow := Lib.hid (Row.of_own how)
      have HBw := Lib.hid hBw
      rw [Hlen.out]
      clear how hBw
      go_wp2_with fail
      go_loopw [6, 25] (fun v i wr => ∃ k : Nat, k ≤ P ∧ i = .int .i64 k ∧ wr.ownsRow w2.heap.size 9 1 v (fcTo l j k).length (strs (fcTo l j k)) ∧ Below w2.heap.size w2 wr) (fun _ i _ => P - (intOf i).toNat)
      case atStart => exact ⟨0, Nat.zero_le _, rfl, World.ownsRow_nil _ _ _ _, Below.refl _ _⟩
      case round =>
        obtain ⟨k, hk, rfl, ho, hB⟩ := hrel
        obtain ⟨Av, cv, rfl⟩ := own_slice ho
        have hO := Lib.hid (And.intro ho hB)
        have hlen := fcTo_len l j k
        clear ho hB
        by_cases hlt : k < P
        · obtain ⟨b, off, rfl, hb, hcc⟩ := hRow.out (by rw [strs_length, Hlen.out]; omega)
          have hlt' : (k : Int) < (P : Int) := by omega
          have c1 := (hO.out.2.cell (p := ⟨b, off + k, none⟩) hb).trans (hcc k _ (strs_nth _ k (by rw [Hlen.out]; exact hlt)))
          rw [Hn.out k hlt] at c1
          have Hyes := Lib.hid (fun h1 h2 => fcTo_yes (L := l) (n := j) (k := k) h1 h2)
          have Hno := Lib.hid (fun h => fcTo_no (L := l) (n := j) (k := k) h)
          have Hfull := Lib.hid (fun h => fcTo_full (L := l) (n := j) (k := k) h)
          have Hsz := Lib.hid (fcNext_size l j k)
          clear hcc
          generalize txtB l k j = s at c1 Hyes Hno Hsz
          have hBa := Lib.hid (hO.out.2.alloc hO.out.2.size (.cells #[.string s] 9))
          have hOa := Lib.hid (hO.out.1.alloc (.cells #[.string s] 9))
          have hsl : (strs (fcTo l j k)).length = (fcTo l j k).length := strs_length _
          go_wp2_with (at_builtin; refine wpList_append_keep _ rfl _ _ 22 rfl w2.heap.size 9 i0 _ 16 Try.underlying22 HR.out.1 HR.out.2.1 HR.out.2.2.1 HR.out.2.2.2 rfl (.slice Av (fcTo l j k).length cv) (fcTo l j k).length (strs (fcTo l j k)) rfl hOa.out ⟨wr.heap.size, 0, none⟩ 1 (.string s) rfl (cell_one_new _ _ _) rfl (by unfold maxLen; omega) (by omega) hBa.out.size ?_)
          intro v2 w3 ho2 ho3 hg2
          obtain ⟨A2, c2, rfl⟩ := own_slice ho2
          have hB2 := hBa.out.grown hg2 hBa.out.size (fun g hg => (hOa.out.lt g hg).1)
          rw [show strs (fcTo l j k) ++ [Value.string s] = strs (fcTo l j k ++ [s]) from (strs_snoc _ _).symm] at ho2
          have hnl : (fcTo l j k ++ [s]).length = (fcTo l j k).length + 1 := by simp
          have H2 := Lib.hid (And.intro ho2 (And.intro ho3 hB2))
          have hz2 := hB2.size
          by_cases h12 : (fcTo l j k).length < 12
          · have h12' : ((fcTo l j k).length : Int) < 12 := by omega
            have hcall := impl_isCommaFree A2 (fcTo l j k ++ [s]) c2 w3 (Row.of_own ho2) (by rw [hnl]; omega) (fun i hi => by rw [Hsz.out i hi]; omega)
            rw [hnl] at hcall
            clear ho2 ho3 hg2 hB2 hBa hOa hsl
            cases hic : (inS (fcTo l j k ++ [s])).isSome
            · rw [hic] at hcall
              replace hcall := Lib.hid hcall
              have hk2 := Lib.hid (Hyes.out h12 hic)
              replace hnl := Lib.hid hnl
              clear hic
              go_wp2_with fail
              refine hcall.out.mono ?_
              rintro e w4 ⟨rfl, hB3⟩
              have H3 := Lib.hid (And.intro (own_below H2.out.1 hB3) (H2.out.2.2.trans (hB3.mono hz2)))
              clear hB3
              go_wp2
              go_roundw
              case rel => exact ⟨k + 1, by omega, by go_num, by rw [hk2.out, hnl.out]; exact H3.out.1, H3.out.2⟩
              case measure => simp [intOf]; omega
            · rw [hic] at hcall
              replace hcall := Lib.hid hcall
              have hk2 := Lib.hid (Hno.out hic)
              clear hic hnl
              go_wp2_with fail
              refine hcall.out.mono ?_
              rintro e w4 ⟨rfl, hB3⟩
              have H3 := Lib.hid (And.intro (own_below H2.out.2.1 hB3) (H2.out.2.2.trans (hB3.mono hz2)))
              clear hB3
              go_wp2
              go_roundw
              case rel => exact ⟨k + 1, by omega, by go_num, by rw [hk2.out]; exact H3.out.1, H3.out.2⟩
              case measure => simp [intOf]; omega
          · have h12' : ¬ ((fcTo l j k).length : Int) < 12 := by omega
            have hk2 := Lib.hid (Hfull.out h12)
            clear ho2 ho3 hg2 hB2 hBa hOa hsl hnl
            go_wp2_with fail
            go_roundw
            case rel => exact ⟨k + 1, by omega, by go_num, by rw [hk2.out]; exact H2.out.2.1, H2.out.2.2⟩
            case measure => simp [intOf]; omega
        · have hke : k = P := by omega
          subst hke
          go_wp2_with fail
          go_ret2
          exact okStrs_of (own_base hO.out.1 HBw.out.size) rfl (HBw.out.trans (hO.out.2.mono HBw.out.size))
    · have hno : fcfOk L n = false := by unfold fcfOk; rw [decide_eq_false hr]; simp
      rw [fcfOf_no hno, hno]
      clear hno hq
      by_cases h1 : n < 1
      · go_enter Try.func6, Try.ntmps6
        go_wp2_with fail
        refine hk.out.mono ?_
        rintro e w1 ⟨rfl, rfl⟩
        go_wp2_with fail
        go_ret2
        exact okStrs_nil _ _ _ (Below.refl _ _)
      · have h2 : 4 < n := by omega
        go_enter Try.func6, Try.ntmps6
        go_wp2_with fail
        refine hk.out.mono ?_
        rintro e w1 ⟨rfl, rfl⟩
        go_wp2_with fail
        go_ret2
        exact okStrs_nil _ _ _ (Below.refl _ _)
end Go.Proofs.Ytdmbfmpagcjdpaa
