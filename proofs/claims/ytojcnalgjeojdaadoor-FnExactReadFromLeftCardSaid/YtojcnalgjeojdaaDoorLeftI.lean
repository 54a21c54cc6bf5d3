/-
  WHAT THIS FILE PROVES: reading a word from the left: the program's function, which keeps what is left in a box that a closure reads, gives the plain reading; asked: a slice of texts in memory, lengths that an int holds.
-/
import Derived.Test.YtojcnalgjeojdaaDoorLeft
import Derived.Test.YtojcnalgjeojdaaDoorIsPfx
import Derived.Test.YtojcnalgjeojdaaDoorStep
import Derived.Test.YtojcnalgjeojdaaDoorAppend
import Derived.Test.YtojcnalgjeojdaaDoorSSMem
import Derived.Test.YtojcnalgjeojdaaDoorShelf
import Derived.Deep.LoopGhost
import Derived.OwnWalk
import Derived.BigQuiet
namespace Go.Proofs.YtojcnalgjeojdaaDoor
open Go.RowKit Go.Shelf

theorem left_box (t : ByteArray) (bx : Nat) (l : ByteArray) (w : World) (hx : w.cell? ⟨bx, 0, none⟩ = some (.string l)) :
    Calls Tryd.prog 60 #[.string t, .pointer (some ⟨bx, 0, none⟩)] w fun e w' => e = .returned (.bool (bgs t l)) ∧ Below w.heap.size w w' := by
  have hc := fun w => Tryd.strings_HasPrefix l t w
  rw [show Lib.hasPrefix l.data.toList t.data.toList = bgs t l from rfl] at hc
  generalize bgs t l = r at hc ⊢
  replace hc := Lib.hid hc
  go_enter Tryd.func60, Tryd.ntmps60
  go_wp2_with (go_at_call 61; refine (hc.out _).mono ?_; rintro e w' ⟨rfl, rfl⟩)
  go_ret
  exact ⟨rfl, Below.refl _ _⟩
theorem index_left (A : Option Addr) (ss : List ByteArray) (c : Nat) (bx : Nat) (l : ByteArray) (w : World) (h : Row w w.heap.size A (strs ss)) (hl : ss.length ≤ 12) (hx : w.cell? ⟨bx, 0, none⟩ = some (.string l)) :
    Calls Tryd.prog 62 #[.slice A ss.length c, .func (.func 60) #[] #[.pointer (some ⟨bx, 0, none⟩)]] w fun e w' => e = .returned (.int .i64 (beg ss l)) ∧ Below w.heap.size w w' :=
  index_func 60 #[.pointer (some ⟨bx, 0, none⟩)] (enters_of Tryd.func60 (by kernel_rfl) rfl) (fun t => bgs t l) A ss c w h (by omega)
    (fun k u _ hB => left_box (W.nth ss k) bx l u ((hB.cell (p := ⟨bx, 0, none⟩) (World.block_lt_of_cell? _ _ hx)).trans hx))

set_option maxHeartbeats 6400000 in
theorem impl_ReadFromLeft (A : Option Addr) (ss : List ByteArray) (c : Nat) (s : ByteArray) (w : World) (h : Row w w.heap.size A (strs ss)) (_hcap : ss.length ≤ c) (hl : ss.length ≤ 9223372036854775807) (hs : ∀ s ∈ ss, s.size ≤ 9223372036854775807) (ht : s.size ≤ 9223372036854775807) :
    Calls Tryd.prog 28 #[.slice A ss.length c, .string s] w (OkIntsT w (rlOf ss s) (rlTx ss s) (rlAsk ss s)) := by
  have hc := impl_IsSet A ss c w h hl hs
  cases hq : W.isSet ss
  · have hno : rlAsk ss s = false := by unfold rlAsk; rw [hq]; rfl
    rw [(rl_no hno).1, (rl_no hno).2, hno]
    rw [hq] at hc
    replace hc := Lib.hid hc
    clear h hs hq hno
    go_enter Tryd.func28, Tryd.ntmps28
    go_wp2_with fail
    refine hc.out.mono ?_
    rintro e w1 ⟨rfl, hB1⟩
    go_wp2_with fail
    go_ret3
    exact okIntsT_nil _ _ hB1 _
  · rw [hq] at hc
    replace hc := Lib.hid hc
    have h12 := W.isSet_len ss hq
    have hk := fun (u : World) (hB : Below w.heap.size w u) => impl_isPrefixSet A ss c u ((h.below hB).more hB.size) (by omega)
    cases hp : pfxB ss
    · have hno : rlAsk ss s = false := by unfold rlAsk; rw [hp]; simp
      rw [(rl_no hno).1, (rl_no hno).2, hno]
      rw [hp] at hk
      replace hk := Lib.hid hk
      clear h hs hq hno hp
      go_enter Tryd.func28, Tryd.ntmps28
      go_wp2_with fail
      refine hc.out.mono ?_
      rintro e w1 ⟨rfl, hB1⟩
      have hk1 := Lib.hid (hk.out _ hB1)
      go_wp2_with fail
      refine hk1.out.mono ?_
      rintro e w2 ⟨rfl, hB2⟩
      replace hB2 := hB1.trans (hB2.mono hB1.size)
      go_wp2_with fail
      go_ret3
      exact okIntsT_nil _ _ hB2 _
    · rw [hp] at hk
      replace hk := Lib.hid hk
      have hg := fun u => impl_IsWord s u ht
      cases hgd : W.good s.data.toList
      · have hno : rlAsk ss s = false := by unfold rlAsk; rw [hgd]; simp
        rw [(rl_no hno).1, (rl_no hno).2, hno]
        rw [hgd] at hg
        replace hg := Lib.hid hg
        clear h hs hq hno hp hgd
        go_enter Tryd.func28, Tryd.ntmps28
        go_wp2_with fail
        refine hc.out.mono ?_
        rintro e w1 ⟨rfl, hB1⟩
        have hk1 := Lib.hid (hk.out _ hB1)
        go_wp2_with fail
        refine hk1.out.mono ?_
        rintro e w2 ⟨rfl, hB2⟩
        replace hB2 := hB1.trans (hB2.mono hB1.size)
        go_wp2_with fail
        refine (hg.out _).mono ?_
        rintro e w3 ⟨rfl, hB3⟩
        replace hB3 := hB2.trans (hB3.mono hB2.size)
        go_wp2_with fail
        go_ret3
        exact okIntsT_nil _ _ hB3 _
      · have hok : rlAsk ss s = true := by unfold rlAsk; rw [hq, hp, hgd]; rfl
        have h60 : s.size ≤ 60 := by
          have h2 := hgd
          unfold W.good at h2
          simp only [Bool.and_eq_true, decide_eq_true_eq] at h2
          rw [Lib.size_eq]
          exact h2.1
        rw [(rl_yes hok).1, (rl_yes hok).2, hok]
        rw [hgd] at hg
        replace hg := Lib.hid hg
        have Hq := Lib.hid hq
        have Hrow := Lib.hid h
        obtain ⟨i0, hi, hz0, hz1, hz2⟩ := info_parts infoInt
        have HR := Lib.hid (And.intro hi (And.intro hz0 (And.intro hz1 hz2)))
        clear h hs hq hok hp hgd hi hz0 hz1 hz2 ht
        go_enter Tryd.func28, Tryd.ntmps28
        go_wp2_with fail
        refine hc.out.mono ?_
        rintro e w1 ⟨rfl, hB1⟩
        have hk1 := Lib.hid (hk.out _ hB1)
        go_wp2_with fail
        refine hk1.out.mono ?_
        rintro e w2 ⟨rfl, hB2⟩
        replace hB2 := hB1.trans (hB2.mono hB1.size)
        go_wp2_with fail
        refine (hg.out _).mono ?_
        rintro e w3 ⟨rfl, hB3⟩
        replace hB3 := hB2.trans (hB3.mono hB2.size)
        have hx0 : (w3.alloc (.cells #[.string s] 9)).cell? ⟨w3.heap.size, 0, none⟩ = some (.string s) := by rw [World.cell?_alloc_at _ _ _ _ rfl]; rfl
        have hf0 : (w3.alloc (.cells #[.string s] 9)).frozen? ⟨w3.heap.size, 0, none⟩ = false := World.frozen?_alloc_at _ _ _ _ rfl
        have hB4 : Below w.heap.size w (w3.alloc (.cells #[.string s] 9)) := hB3.alloc hB3.size _
        have hz4 : w3.heap.size < (w3.alloc (.cells #[.string s] 9)).heap.size := by simp
        have hi1 := Lib.hid (index_left A ss c w3.heap.size s _ ((Hrow.out.below hB4).more hB4.size) h12 hx0)
        clear hB1 hB2 hk1
        go_wp2_with fail
        generalize (w3.alloc (.cells #[.string s] 9)) = w4 at hx0 hf0 hB4 hz4 hi1 ⊢
        refine hi1.out.mono ?_
        rintro e w5 ⟨rfl, hB5⟩
        have hx5 := (hB5.cell (p := ⟨w3.heap.size, 0, none⟩) hz4).trans hx0
        have hf5 := (World.frozen?_of_block (a := ⟨w3.heap.size, 0, none⟩) (hB5.block w3.heap.size hz4)).trans hf0
        have hB5' := hB4.trans (hB5.mono hB4.size)
        have hz5 : w3.heap.size < w5.heap.size := Nat.lt_of_lt_of_le hz4 hB5.size
        have HF := Lib.hid (And.intro hx5 (And.intro hf5 (And.intro hB5' hz5)))
        have hz3 := hB3.size
        clear hB5 hx5 hf5 hB5' hz5 hx0 hf0 hB4 hz4 hi1
        go_wp2_with fail
        go_loopg [7, 10] s.size (fun gk v i wr => ∃ (k : Nat) (acc : List Int) (l : ByteArray), Hid (LfAt ss s k acc l) ∧ l.size ≤ gk ∧ acc.length = k ∧ k + l.size ≤ 60 ∧ i = .int .i64 (beg ss l) ∧ wr.cell? ⟨w3.heap.size, 0, none⟩ = some (.string l) ∧ wr.frozen? ⟨w3.heap.size, 0, none⟩ = false ∧ wr.ownsRow (w3.heap.size + 1) 3 1 v acc.length (ints acc) ∧ Below w.heap.size w wr ∧ w3.heap.size < wr.heap.size)
        case atStart => exact ⟨0, [], s, lfAt_zero ss s, Nat.le_refl _, rfl, by omega, rfl, HF.out.1, HF.out.2.1, World.ownsRow_nil _ _ _ _, HF.out.2.2.1, HF.out.2.2.2⟩
        case round =>
          clear HF
          obtain ⟨k, acc, l, hL, hgk, hal, hkl, rfl, hx, hf, ho, hB, hz⟩ := hrel
          obtain ⟨Ar, cr, rfl⟩ := own_slice ho
          have hO := Lib.hid (And.intro ho (And.intro hB (And.intro hx hf)))
          have hac : acc.length ≤ 60 := by omega
          replace hal := Lib.hid hal
          clear ho hB
          rcases beg_cases ss l with hb | ⟨q, hb, hq1, hq2⟩
          · have HD := Lib.hid (hL.out.done hb)
            rw [hb]
            clear hf
            go_wp2_with fail
            go_quiet (fail)
            go_wp2_with fail
            go_ret3
            rw [HD.out]
            have hBz : Below wr.heap.size wr (wr.drewN nq) := below_drewN (Below.refl _ _) nq
            have ho2 := own_base (own_below hO.out.1 hBz) (show w.heap.size ≤ w3.heap.size + 1 by omega)
            exact okIntsT_of ho2 rfl (hO.out.2.1.trans (hBz.mono hO.out.2.1.size))
          · have HN := Lib.hid (hL.out.next Hq.out hb hq1 hq2)
            have hsz := bgs_size hq2
            have hsz1 := (W.short_size _ (W.isSet_short ss Hq.out q hq1)).1
            rw [hb]
            obtain ⟨b, off, rfl, hbl, hcc⟩ := Hrow.out (by rw [strs_length]; omega)
            have hq1' : (q : Int) < (ss.length : Int) := by omega
            have c1 := (hO.out.2.1.cell (p := ⟨b, off + q, none⟩) hbl).trans (hcc q _ (strs_nth ss q hq1))
            clear hcc hb hq2
            generalize W.nth ss q = t at c1 HN hsz hsz1
            have hsz' : (t.size : Int) ≤ (l.size : Int) := by omega
            have hO1 := Lib.hid (hO.out.1.alloc (.cells #[.int .i64 (q : Int)] 3))
            have hlt4 := Lib.hid hO.out.1.lt
            go_wp2_with (at_builtin; refine wpList_append_own _ rfl _ _ 38 rfl (w3.heap.size + 1) 3 i0 (.int .i64 0) 1 8 Tryd.underlying38 HR.out.1 HR.out.2.1 HR.out.2.2.1 HR.out.2.2.2 rfl (by decide) _ _ _ rfl hO1.out ⟨wr.heap.size, 0, none⟩ 1 1 [.int .i64 (q : Int)] rfl rfl (cell_one_new _ _ _) (one_cell _) (by unfold maxLen; omega) (by omega) (by simp; omega) ?_)
            intro v' w6 hown' hgrow _
            have hne : some w3.heap.size ≠ (Value.slice Ar acc.length cr).ownBlock := fun e => by have := (hlt4.out _ e.symm).1; omega
            have hb6 := hgrow.block w3.heap.size (by simp; omega) hne
            have x6 : w6.cell? ⟨w3.heap.size, 0, none⟩ = some (.string l) := (World.cell?_of_block (a := ⟨w3.heap.size, 0, none⟩) hb6).trans ((World.cell?_alloc_lt _ _ _ hz).trans hx)
            have f6 : w6.frozen? ⟨w3.heap.size, 0, none⟩ = false := (World.frozen?_of_block (a := ⟨w3.heap.size, 0, none⟩) hb6).trans ((World.frozen?_alloc_past _ _ _ hz).trans hf)
            have hB6 := (hO.out.2.1.alloc hO.out.2.1.size (.cells #[.int .i64 (q : Int)] 3)).grown hgrow (by simp; omega) (fun g hg => by have := (hlt4.out g hg).1; omega)
            have d6 := (hB6.cell (p := ⟨b, off + q, none⟩) hbl).trans ((hO.out.2.1.cell (p := ⟨b, off + q, none⟩) hbl).symm.trans c1)
            have hz6 : w3.heap.size < w6.heap.size := World.block_lt_of_cell? _ _ x6
            have HV := Lib.hid (And.intro hown' hB6)
            clear hown' hgrow hB6 hb6 hne c1 hx hf
            go_wp2
            go_region
            have x7 : (w6.setCell ⟨w3.heap.size, 0, none⟩ (.string (l.extract t.size l.size))).drew.cell? ⟨w3.heap.size, 0, none⟩ = some (.string (l.extract t.size l.size)) := World.cell?_setCell_same' _ _ _ (by rw [x6]; rfl)
            have f7 : (w6.setCell ⟨w3.heap.size, 0, none⟩ (.string (l.extract t.size l.size))).drew.frozen? ⟨w3.heap.size, 0, none⟩ = false := by
              show (w6.setCell _ _).frozen? _ = _
              rw [World.frozen?_setCell]
              exact f6
            have o7 : (w6.setCell ⟨w3.heap.size, 0, none⟩ (.string (l.extract t.size l.size))).drew.ownsRow (w3.heap.size + 1) 3 1 v' (acc.length + 1) (ints acc ++ [.int .i64 (q : Int)]) := own_setCell HV.out.1 _ _ (fun e => by have := (HV.out.1.lt _ e).1; exact absurd (show w3.heap.size + 1 ≤ w3.heap.size from this) (by omega))
            have b7 : Below w.heap.size w (w6.setCell ⟨w3.heap.size, 0, none⟩ (.string (l.extract t.size l.size))).drew := (HV.out.2.setCell (p := ⟨w3.heap.size, 0, none⟩) hz3 _).drew
            have z7 : w3.heap.size < (w6.setCell ⟨w3.heap.size, 0, none⟩ (.string (l.extract t.size l.size))).drew.heap.size := World.block_lt_of_cell? _ _ x7
            generalize (w6.setCell ⟨w3.heap.size, 0, none⟩ (.string (l.extract t.size l.size))).drew = w7 at x7 f7 o7 b7 z7 ⊢
            have hl2 : (l.extract t.size l.size).size + t.size = l.size := by rw [ByteArray.size_extract]; omega
            generalize l.extract t.size l.size = l2 at x7 HN hl2 ⊢
            have hi2 := Lib.hid (index_left (some ⟨b, off, none⟩) ss c w3.heap.size l2 w7 ((Hrow.out.below b7).more b7.size) h12 x7)
            have H7 := Lib.hid (And.intro o7 (And.intro b7 (And.intro x7 f7)))
            clear x6 f6 d6 hz6 x7 f7 o7 b7 HV
            go_wp2_with fail
            refine hi2.out.mono ?_
            rintro e w8 ⟨rfl, hB8⟩
            have o8 := own_below H7.out.1 hB8
            have x8 := (hB8.cell (p := ⟨w3.heap.size, 0, none⟩) z7).trans H7.out.2.2.1
            have f8 := (World.frozen?_of_block (a := ⟨w3.heap.size, 0, none⟩) (hB8.block w3.heap.size z7)).trans H7.out.2.2.2
            have b8 := H7.out.2.1.trans (hB8.mono H7.out.2.1.size)
            have H8 := Lib.hid (And.intro o8 (And.intro b8 (And.intro x8 f8)))
            have z8 : w3.heap.size < w8.heap.size := Nat.lt_of_lt_of_le z7 hB8.size
            clear hB8 o8 x8 f8 b8
            go_wp2
            go_roundg (gk - 1)
            case measure => omega
            case rel =>
              refine ⟨k + 1, acc ++ [(q : Int)], l2, HN.out, by omega, HN.out.len, by omega, rfl, H8.out.2.2.1, H8.out.2.2.2, ?_, H8.out.2.1, z8⟩
              rw [ints_snoc, List.length_append]
              exact H8.out.1
end Go.Proofs.YtojcnalgjeojdaaDoor
