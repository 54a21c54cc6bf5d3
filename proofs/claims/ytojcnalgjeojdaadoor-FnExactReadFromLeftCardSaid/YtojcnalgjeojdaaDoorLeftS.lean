/-
  WHAT THIS FILE PROVES: reading a word from the left: the specification's functions give the plain reading; asked: a slice of texts in memory, lengths that an int holds.
-/
import Derived.Test.YtojcnalgjeojdaaDoorLeft
import Derived.Test.YtojcnalgjeojdaaDoorIsPfx
import Derived.Test.YtojcnalgjeojdaaDoorStep
import Derived.Test.YtojcnalgjeojdaaDoorAppend
import Derived.OwnWalk
import Derived.BigQuiet
namespace Go.Proofs.YtojcnalgjeojdaaDoor
open Go.RowKit Go.Shelf

set_option maxHeartbeats 3200000 in
theorem spec_pfRead (A : Option Addr) (ss : List ByteArray) (c : Nat) (s : ByteArray) (w : World) (h : Row w w.heap.size A (strs ss)) (hq : W.isSet ss = true) (hp : pfxB ss = true) (hs : s.size ≤ 60) :
    Calls Tryd.prog 58 #[.slice A ss.length c, .string s] w fun e w' => ∃ A' c', e = .returned (.tuple #[.slice A' (lfs ss s s.size).1.length c', .string (lfs ss s s.size).2]) ∧ w'.ownsRow w.heap.size 3 1 (.slice A' (lfs ss s s.size).1.length c') (lfs ss s s.size).1.length (ints (lfs ss s s.size).1) ∧ Below w.heap.size w w' := by
  have h12 := W.isSet_len ss hq
  have Hone := Lib.hid (fun (l : ByteArray) (i : Nat) hi hb => beg_one hq hp (s := l) (i := i) hi hb)
  have Hq := Lib.hid hq
  replace h := Lib.hid h
  obtain ⟨i0, hi, hz0, hz1, hz2⟩ := info_parts infoInt
  have HR := Lib.hid (And.intro hi (And.intro hz0 (And.intro hz1 hz2)))
  clear hq hp hi hz0 hz1 hz2
  go_enter Tryd.func58, Tryd.ntmps58
  go_wp2_with fail
  go_loopw [1, 6] (fun sv v wr => ∃ (k : Nat) (acc : List Int) (l : ByteArray), Hid (LfAt ss s k acc l) ∧ k + l.size ≤ 60 ∧ acc.length = k ∧ sv = .string l ∧ wr.ownsRow w.heap.size 3 1 v acc.length (ints acc) ∧ Below w.heap.size w wr)
    (fun sv _ _ => sizeV sv)
  case atStart => exact ⟨0, [], s, lfAt_zero ss s, by omega, rfl, rfl, World.ownsRow_nil _ _ _ _, Below.refl _ _⟩
  case round =>
    obtain ⟨k, acc, l, hL, hkl, hal, rfl, ho, hB⟩ := hrel
    generalize wr = wk at *
    obtain ⟨Ar, cr, rfl⟩ := own_slice ho
    have hO := Lib.hid (And.intro ho hB)
    have hszk := hB.size
    have hac : acc.length ≤ 60 := by omega
    replace hal := Lib.hid hal
    clear ho hB
    go_wp2_with fail
    go_loop [7, 12] (fun a i => ∃ n : Nat, n ≤ ss.length ∧ i = .int .i64 n ∧ ((a = .int .i64 (-1) ∧ Hid (∀ j, j < n → bgs (W.nth ss j) l = false)) ∨ ∃ q : Nat, a = .int .i64 q ∧ q < ss.length ∧ Hid (bgs (W.nth ss q) l = true ∧ beg ss l = q))) (fun _ i => ss.length - (intOf i).toNat)
    case atStart => exact ⟨0, Nat.zero_le _, rfl, .inl ⟨rfl, fun j hj => absurd hj (Nat.not_lt_zero _)⟩⟩
    case round =>
      obtain ⟨n, hn, rfl, hrel⟩ := hrel
      by_cases hlt : n < ss.length
      · obtain ⟨b, off, rfl, hb, hcc⟩ := h.out (by rw [strs_length]; omega)
        have hlt' : (n : Int) < (ss.length : Int) := by omega
        have c1 := (hO.out.2.cell (p := ⟨b, off + n, none⟩) hb).trans (hcc n _ (strs_nth ss n hlt))
        clear hcc
        have hw := spec_wdBegins l (W.nth ss n) wk
        rw [show Lib.hasPrefix l.data.toList (W.nth ss n).data.toList = bgs (W.nth ss n) l from rfl] at hw
        have H1 := Lib.hid (Hone.out l n hlt)
        have Hnx := Lib.hid (show bgs (W.nth ss n) l = false → (∀ j, j < n → bgs (W.nth ss j) l = false) → ∀ j, j < n + 1 → bgs (W.nth ss j) l = false from fun e1 e2 j hj => by
          by_cases e : j = n
          · subst e; exact e1
          · exact e2 j (by omega))
        have Hyy := Lib.hid (show bgs (W.nth ss n) l = true → bgs (W.nth ss n) l = true from id)
        cases hd : bgs (W.nth ss n) l
        · have Hn2 := Lib.hid (Hnx.out hd)
          rw [hd] at hw
          replace hw := Lib.hid hw
          generalize W.nth ss n = t at c1 hw
          clear hd H1 Hnx Hyy
          rcases hrel with ⟨rfl, hno⟩ | ⟨q, rfl, hq1, hq2⟩
          · have Hn3 := Lib.hid (Hn2.out hno.out)
            go_wp2_with fail
            refine hw.out.mono ?_
            rintro e w' ⟨rfl, rfl⟩
            go_wp2_with fail
            go_round
            case rel => exact ⟨n + 1, by omega, by go_num, .inl ⟨rfl, Hn3.out⟩⟩
            case measure => simp [intOf]; omega
          · go_wp2_with fail
            refine hw.out.mono ?_
            rintro e w' ⟨rfl, rfl⟩
            go_wp2_with fail
            go_round
            case rel => exact ⟨n + 1, by omega, by go_num, .inr ⟨q, rfl, hq1, hq2.out⟩⟩
            case measure => simp [intOf]; omega
        · have H2 := Lib.hid (And.intro hd (H1.out hd))
          rw [hd] at hw
          replace hw := Lib.hid hw
          generalize hg : W.nth ss n = t at c1 hw
          clear hd H1 Hnx Hyy hg hrel
          go_wp2_with fail
          refine hw.out.mono ?_
          rintro e w' ⟨rfl, rfl⟩
          go_wp2_with fail
          go_round
          case rel => exact ⟨n + 1, by omega, by go_num, .inr ⟨n, rfl, hlt, H2.out⟩⟩
          case measure => simp [intOf]; omega
      · obtain rfl : n = ss.length := by omega
        rcases hrel with ⟨rfl, hno⟩ | ⟨q, rfl, hq1, hq2⟩
        · have HD := Lib.hid (hL.out.done (beg_none hno.out))
          go_wp2_with fail
          go_ret2
          rw [HD.out]
          exact ⟨Ar, cr, rfl, hO.out.1, hO.out.2⟩
        · obtain ⟨b, off, rfl, hb, hcc⟩ := h.out (by rw [strs_length]; omega)
          have hq1' : (q : Int) < (ss.length : Int) := by omega
          have c1 := (hO.out.2.cell (p := ⟨b, off + q, none⟩) hb).trans (hcc q _ (strs_nth ss q hq1))
          have HN := Lib.hid (hL.out.next Hq.out hq2.out.2 hq1 hq2.out.1)
          have hsz := bgs_size hq2.out.1
          have hsz1 := (W.short_size _ (W.isSet_short ss Hq.out q hq1)).1
          have hO1 := Lib.hid (hO.out.1.alloc (.cells #[.int .i64 (q : Int)] 3))
          have hlt4 := Lib.hid hO.out.1.lt
          clear hcc
          generalize W.nth ss q = t at c1 HN hsz hsz1
          have hsz' : (t.size : Int) ≤ (l.size : Int) := by omega
          have hqn : ¬ ((q : Int) < 0) := by omega
          go_wp2_with (at_builtin; refine wpList_append_own _ rfl _ _ 38 rfl w.heap.size 3 i0 (.int .i64 0) 1 8 Tryd.underlying38 HR.out.1 HR.out.2.1 HR.out.2.2.1 HR.out.2.2.2 rfl (by decide) _ _ _ rfl hO1.out ⟨wk.heap.size, 0, none⟩ 1 1 [.int .i64 (q : Int)] rfl rfl (cell_one_new _ _ _) (one_cell _) (by unfold maxLen; omega) (by omega) (by simp; omega) ?_)
          intro v' w6 hown' hgrow _
          have hB6 := (hO.out.2.alloc hszk (.cells #[.int .i64 (q : Int)] 3)).grown hgrow (by simp; omega) (fun g hg => (hlt4.out g hg).1)
          have c2 := (hB6.cell (p := ⟨b, off + q, none⟩) hb).trans ((hO.out.2.cell (p := ⟨b, off + q, none⟩) hb).symm.trans c1)
          have HF := Lib.hid (And.intro hown' hB6)
          clear hown' hgrow hB6 c1
          go_wp2
          go_roundw
          case rel =>
            refine ⟨k + 1, acc ++ [(q : Int)], l.extract t.size l.size, HN.out, ?_, HN.out.len, rfl, ?_, HF.out.2⟩
            · rw [ByteArray.size_extract]; omega
            · rw [ints_snoc, List.length_append]
              exact HF.out.1
          case measure => simp [sizeV]; omega

theorem spec_ReadFromLeft (A : Option Addr) (ss : List ByteArray) (c : Nat) (s : ByteArray) (w : World) (h : Row w w.heap.size A (strs ss)) (hcap : ss.length ≤ c) (hl : ss.length ≤ 9223372036854775807) (hs : ∀ s ∈ ss, s.size ≤ 9223372036854775807) (ht : s.size ≤ 9223372036854775807) :
    Calls Tryd.prog 27 #[.slice A ss.length c, .string s] w (OkIntsT w (rlOf ss s) (rlTx ss s) (rlAsk ss s)) := by
  have hc := spec_wdSet A ss c w h hl hs
  cases hq : W.isSet ss
  · have hno : rlAsk ss s = false := by unfold rlAsk; rw [hq]; rfl
    rw [(rl_no hno).1, (rl_no hno).2, hno]
    rw [hq] at hc
    replace hc := Lib.hid hc
    clear h hs hq hno
    go_enter Tryd.func27, Tryd.ntmps27
    go_wp2_with fail
    refine hc.out.mono ?_
    rintro e w1 ⟨rfl, rfl⟩
    go_wp2_with fail
    go_ret3
    exact okIntsT_nil _ _ (Below.refl _ _) _
  · rw [hq] at hc
    replace hc := Lib.hid hc
    have hk := spec_krPrefix A ss c w h hq hcap
    cases hp : pfxB ss
    · have hno : rlAsk ss s = false := by unfold rlAsk; rw [hp]; simp
      rw [(rl_no hno).1, (rl_no hno).2, hno]
      rw [hp] at hk
      replace hk := Lib.hid hk
      clear h hs hq hno hp
      go_enter Tryd.func27, Tryd.ntmps27
      go_wp2_with fail
      refine hc.out.mono ?_
      rintro e w1 ⟨rfl, rfl⟩
      go_wp2_with fail
      refine hk.out.mono ?_
      rintro e w1 ⟨rfl, rfl⟩
      go_wp2_with fail
      go_ret3
      exact okIntsT_nil _ _ (Below.refl _ _) _
    · rw [hp] at hk
      replace hk := Lib.hid hk
      have hg := spec_wdGood s w ht
      cases hgd : W.good s.data.toList
      · have hno : rlAsk ss s = false := by unfold rlAsk; rw [hgd]; simp
        rw [(rl_no hno).1, (rl_no hno).2, hno]
        rw [hgd] at hg
        replace hg := Lib.hid hg
        clear h hs hq hno hp hgd
        go_enter Tryd.func27, Tryd.ntmps27
        go_wp2_with fail
        refine hc.out.mono ?_
        rintro e w1 ⟨rfl, rfl⟩
        go_wp2_with fail
        refine hk.out.mono ?_
        rintro e w1 ⟨rfl, rfl⟩
        go_wp2_with fail
        refine hg.out.mono ?_
        rintro e w1 ⟨rfl, rfl⟩
        go_wp2_with fail
        go_ret3
        exact okIntsT_nil _ _ (Below.refl _ _) _
      · have hok : rlAsk ss s = true := by unfold rlAsk; rw [hq, hp, hgd]; rfl
        have h60 : s.size ≤ 60 := by
          have h2 := hgd
          unfold W.good at h2
          simp only [Bool.and_eq_true, decide_eq_true_eq] at h2
          rw [Lib.size_eq]
          exact h2.1
        rw [(rl_yes hok).1, (rl_yes hok).2, hok]
        rw [hgd] at hg
        replace hg := Lib.hid hg
        have hr := Lib.hid (spec_pfRead A ss c s w h hq hp h60)
        generalize lfs ss s s.size = R at hr ⊢
        clear h hs hq hok hp hgd
        go_enter Tryd.func27, Tryd.ntmps27
        go_wp2_with fail
        refine hc.out.mono ?_
        rintro e w1 ⟨rfl, rfl⟩
        go_wp2_with fail
        refine hk.out.mono ?_
        rintro e w1 ⟨rfl, rfl⟩
        go_wp2_with fail
        refine hg.out.mono ?_
        rintro e w1 ⟨rfl, rfl⟩
        go_wp2_with fail
        refine hr.out.mono ?_
        rintro e w2 ⟨A', c', rfl, ho, hB⟩
        go_wp2_with fail
        go_ret3
        exact okIntsT_of ho rfl hB
end Go.Proofs.YtojcnalgjeojdaaDoor
