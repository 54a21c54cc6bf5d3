/-
  WHAT THIS FILE PROVES: the states of a complete prefix set and where letters lead from them: the program's reader holds the plain ones; asked: a slice of texts in memory, lengths that an int holds.
  And: groups of states: the program's functions give the plain ones; asked: a reader in memory that holds the states and the table.
-/
import Derived.Test.YtlapmjligdjniaaGreatDoorStpM
import Derived.Test.YtlapmjligdjniaaGreatDoorInnI
import Derived.Test.YtlapmjligdjniaaGreatDoorLtrI
import Derived.Test.YtlapmjligdjniaaGreatDoorImI
import Derived.Test.YtlapmjligdjniaaGreatDoorStpT
import Derived.Deep.QuietTactic
import Derived.StillTailTactics
import Derived.BigQuiet
import Derived.Laws.BitsAllLaws
namespace Go.Proofs.YtlapmjligdjniaaGreatDoor
open Go.RowKit Go.Shelf

theorem im_st {ss : List ByteArray} (h : W.isSet ss = true) : imOf ss ((ltrs ss : Nat) : Int) = stOk ss := by
  unfold stOk imOf
  rw [krSet_ltrs h, h, Bool.true_and, Bool.true_and, st_sum h, Int.toNat_natCast]
/-- a reader as it lies in an interface -/
abbrev rdV (A : Option Addr) (n c : Nat) (A2 : Option Addr) (c2 : Nat) : Value := .iface 62 (.agg #[.slice A n c, .slice A2 n c2])
/-- a reader is handed back that holds the states and the table -/
def GivesRd (w0 : World) (ss : List ByteArray) (e : Ending) (w' : World) : Prop :=
  ∃ A c A2 c2, e = .returned (.tuple #[rdV A (inB ss).length c A2 c2, .bool true]) ∧ w'.ownsRow w0.heap.size 9 1 (.slice A (inB ss).length c) (inB ss).length (strs (inB ss)) ∧ RowTab w' w'.heap.size A2 ss ∧ Below w0.heap.size w0 w'
/-- the reader that is being made, in its own block -/
def RdBox (w : World) (bx : Nat) (i0 lv : Value) : Prop := w.cell? ⟨bx, 0, none⟩ = some i0 ∧ w.cell? ⟨bx, 1, none⟩ = some lv ∧ w.frozen? ⟨bx, 1, none⟩ = false ∧ bx < w.heap.size
theorem rdBox_new (w : World) (i0 lv : Value) (t : TypeId) : RdBox (w.alloc (.cells #[i0, lv] t)) w.heap.size i0 lv :=
  ⟨by rw [World.cell?_alloc_at _ _ _ _ rfl]; rfl, by rw [World.cell?_alloc_at _ _ _ _ rfl]; rfl, World.frozen?_alloc_at _ _ _ _ rfl, by simp⟩
theorem RdBox.same {w w' : World} {bx : Nat} {i0 lv : Value} (h : RdBox w bx i0 lv) (hb : w'.heap[bx]? = w.heap[bx]?) : RdBox w' bx i0 lv := by
  have h1 := (World.cell?_of_block (a := ⟨bx, 0, none⟩) hb).trans h.1
  exact ⟨h1, (World.cell?_of_block (a := ⟨bx, 1, none⟩) hb).trans h.2.1, (World.frozen?_of_block (a := ⟨bx, 1, none⟩) hb).trans h.2.2.1, World.block_lt_of_cell? _ _ h1⟩
theorem RdBox.below {w w' : World} {B bx : Nat} {i0 lv : Value} (h : RdBox w bx i0 lv) (hB : Below B w w') (hlt : bx < B) : RdBox w' bx i0 lv := h.same (hB.block bx hlt)
theorem RdBox.grown {w w' : World} {bx : Nat} {i0 lv : Value} {row : Option Nat} (h : RdBox w bx i0 lv) (hg : w.grownBy w' row) (hne : some bx ≠ row) : RdBox w' bx i0 lv := h.same (hg.block bx h.2.2.2 hne)
theorem RdBox.put {w : World} {bx : Nat} {i0 lv : Value} (h : RdBox w bx i0 lv) (v : Value) : RdBox (w.setCell ⟨bx, 1, none⟩ v) bx i0 v := by
  have h0 : (w.setCell ⟨bx, 1, none⟩ v).cell? ⟨bx, 0, none⟩ = some i0 := by
    have hne : (⟨bx, 1, none⟩ : Addr) ≠ ⟨bx, 0, none⟩ := fun e => by
      injection e with _ e2
      omega
    rw [World.cell?_setCell_other (h := hne)]
    exact h.1
  exact ⟨h0, World.cell?_setCell_same' _ _ _ (by rw [h.2.1]; rfl), by rw [World.frozen?_setCell]; exact h.2.2.1, World.block_lt_of_cell? _ _ h0⟩
theorem OwnAt.setOther {w : World} {base : Nat} {E e : TypeId} {v : Value} {vs : List Value} {xss : List (List Value)} (h : OwnAt w base E e v vs xss) (a : Addr) (u : Value) (hlt : a.block < base) : OwnAt (w.setCell a u) base E e v vs xss := by
  have hne : ∀ (x : Value), (∀ g, x.ownBlock = some g → base ≤ g) → x.ownBlock = none ∨ x.ownBlock ≠ some a.block := fun x hx => by
    cases hb : x.ownBlock with
    | none => exact .inl rfl
    | some g =>
      right
      intro e
      have h1 := hx g hb
      injection e with e
      omega
  exact h.kept (row := some a.block) ⟨rfl, rfl, rfl, by simp, fun k _ hk => Below.heap_setCell w a u k (fun e => hk (by rw [e]))⟩ (hne _ (fun g hg => (h.own.lt g hg).1)) (fun x hx => hne _ (fun g hg => (h.lt x hx g hg).1))
theorem fdx_max (l : List ByteArray) (x : ByteArray) : max (Lib.idxOfS l x) 0 = ((fdx l x : Nat) : Int) := by
  unfold fdx
  omega
/-- the library's search in a row of texts -/
theorem index_call (A : Option Addr) (zs : List ByteArray) (c : Nat) (x : ByteArray) (w : World) (h : Row w w.heap.size A (strs zs)) (h0 : 0 < zs.length) (hl : zs.length ≤ 1048576) :
    Calls Tryz.prog 33 #[.slice A zs.length c, .string x] w fun e w' => e = .returned (.int .i64 (Lib.idxOfS zs x)) ∧ w = w' := by
  obtain ⟨b, off, rfl, hb, hc⟩ := h (by rw [strs_length]; exact h0)
  have := Tryz.slices_Index_string b off zs.length c zs x w (Nat.le_refl _) (by omega) (fun j hj => by
    have h1 := hc j _ (strs_nth zs j hj)
    exact h1)
  rw [List.take_length] at this
  exact this.mono fun e w' h => ⟨h.1, h.2.symm⟩
theorem readerOf_no (A : Option Addr) (ss : List ByteArray) (c : Nat) (w : World) (h : Row w w.heap.size A (strs ss)) (hcap : ss.length ≤ c) (hl : ss.length ≤ 9223372036854775807) (hs : ∀ s ∈ ss, s.size ≤ 9223372036854775807) (hno : stOk ss = false) :
    Calls Tryz.prog 17 #[.slice A ss.length c] w fun e w' => e = .returned (.tuple #[.nilIface, .bool false]) ∧ Below w.heap.size w w' := by
  have hc := impl_IsSet A ss c w h hl hs
  cases hq : W.isSet ss
  · rw [hq] at hc
    replace hc := Lib.hid hc
    clear h hs hq hno
    go_enter Tryz.func17, Tryz.ntmps17
    go_wp2_with fail
    refine hc.out.mono ?_
    rintro e w1 ⟨rfl, hB⟩
    go_wp2_with fail
    go_ret2
    exact ⟨rfl, hB⟩
  · rw [hq] at hc
    replace hc := Lib.hid hc
    have h12 := W.isSet_len ss hq
    have h12' : ¬ (12 : Int) < (ss.length : Int) := by omega
    have hlt := Lib.hid (fun (u : World) (hB : Below w.heap.size w u) => impl_lettersIn A ss c u ((h.below hB).more hB.size) hq hcap)
    have him := Lib.hid (fun (u : World) (hB : Below w.heap.size w u) => show Calls Tryz.prog 30 #[.slice A ss.length c, .int .i64 ((ltrs ss : Nat) : Int)] u fun e w' => e = .returned (.tuple #[.bool false, .bool true]) ∧ Below u.heap.size u w' from by
      have := impl_IsMaximalPrefix A ss c ((ltrs ss : Nat) : Int) u ((h.below hB).more hB.size) hcap hl hs
      rw [im_st hq, hno, krSet_ltrs hq] at this
      exact this)
    clear h hs hq hno
    go_enter Tryz.func17, Tryz.ntmps17
    go_wp2_with fail
    refine hc.out.mono ?_
    rintro e w1 ⟨rfl, hB⟩
    have HB := Lib.hid hB
    have h1 := Lib.hid (hlt.out w1 hB)
    clear hB
    go_wp2_with fail
    refine h1.out.mono ?_
    rintro e w2 ⟨rfl, hB⟩
    have HB2 := Lib.hid (HB.out.trans (hB.mono HB.out.size))
    have h2 := Lib.hid (him.out w2 HB2.out)
    clear hB
    go_wp2_with fail
    refine h2.out.mono ?_
    rintro e w3 ⟨rfl, hB⟩
    have HB3 := Lib.hid (HB2.out.trans (hB.mono HB2.out.size))
    clear hB
    go_wp2_with fail
    go_ret2
    exact ⟨rfl, HB3.out⟩
set_option maxHeartbeats 6400000 in
set_option maxRecDepth 100000 in
theorem readerOf_yes (A : Option Addr) (ss : List ByteArray) (c : Nat) (w : World) (h : Row w w.heap.size A (strs ss)) (hcap : ss.length ≤ c) (hl : ss.length ≤ 9223372036854775807) (hs : ∀ s ∈ ss, s.size ≤ 9223372036854775807) (hyes : stOk ss = true) :
    Calls Tryz.prog 17 #[.slice A ss.length c] w (GivesRd w ss) := by
  have hc := impl_IsSet A ss c w h hl hs
  have hq := (stOk_parts hyes).1
  rw [hq] at hc
  replace hc := Lib.hid hc
  have h12 := W.isSet_len ss hq
  have h12' : ¬ (12 : Int) < (ss.length : Int) := by omega
  have hlt := Lib.hid (fun (u : World) (hB : Below w.heap.size w u) => impl_lettersIn A ss c u ((h.below hB).more hB.size) hq hcap)
  have him := Lib.hid (fun (u : World) (hB : Below w.heap.size w u) => show Calls Tryz.prog 30 #[.slice A ss.length c, .int .i64 ((ltrs ss : Nat) : Int)] u fun e w' => e = .returned (.tuple #[.bool true, .bool true]) ∧ Below u.heap.size u w' from by
    have := impl_IsMaximalPrefix A ss c ((ltrs ss : Nat) : Int) u ((h.below hB).more hB.size) hcap hl hs
    rw [im_st hq, hyes, krSet_ltrs hq] at this
    exact this)
  have hin := Lib.hid (fun (u : World) (hB : Below w.heap.size w u) => impl_innerWords A ss c u ((h.below hB).more hB.size) hq)
  clear h hs
  go_enter Tryz.func17, Tryz.ntmps17
  go_wp2_with fail
  refine hc.out.mono ?_
  rintro e w1 ⟨rfl, hB⟩
  have HB := Lib.hid hB
  have h1 := Lib.hid (hlt.out w1 hB)
  clear hB
  go_wp2_with fail
  refine h1.out.mono ?_
  rintro e w2 ⟨rfl, hB⟩
  have HB2 := Lib.hid (HB.out.trans (hB.mono HB.out.size))
  have h2 := Lib.hid (him.out w2 HB2.out)
  clear hB
  go_wp2_with fail
  refine h2.out.mono ?_
  rintro e w3 ⟨rfl, hB⟩
  have HB3 := Lib.hid (HB2.out.trans (hB.mono HB2.out.size))
  have h3 := Lib.hid (hin.out w3 HB3.out)
  clear hB
  go_wp2_with fail
  refine h3.out.mono ?_
  rintro e w4 ⟨A1, cI, rfl, ho1, hB⟩
  have HB4 := Lib.hid (HB3.out.trans (hB.mono HB3.out.size))
  have hR4 := Lib.hid (Row.of_own ho1)
  have Hown := Lib.hid (own_base ho1 HB3.out.size)
  obtain ⟨hn0, hn11⟩ : 0 < (inB ss).length ∧ (inB ss).length ≤ 11 := by
    have h1 := inB_few hyes
    omega
  have hi8 := Lib.hid (fun i hi => show (W.nth (inB ss) i).size ≤ 8 from by rw [W.nth_lt _ i hi]; exact inB_size2 hq _ (List.getElem_mem hi))
  have Hts := Lib.hid (tab_succ ss)
  have Htl := Lib.hid (tab_len ss)
  have Hrs := Lib.hid (rowT_succ ss)
  have Hrl := Lib.hid (rowT_len ss)
  have Htr := Lib.hid (show ∀ i k, tr ss i k = fdx (inB ss) (kid (W.nth (inB ss) i) k) from fun _ _ => rfl)
  have hL3 : ltrs ss ≤ 3 := by rcases ltrs_two ss with e | e <;> omega
  obtain ⟨i0, hi, hz0, hz1, hz2⟩ := info_parts infoInt
  have HR := Lib.hid (And.intro hi (And.intro hz0 (And.intro hz1 hz2)))
  obtain ⟨i1, hj, hy0, hy1, hy2⟩ := info_parts infoInts2
  have HR2 := Lib.hid (And.intro hj (And.intro hy0 (And.intro hy1 hy2)))
  have hBx : Below w4.heap.size w4 (w4.alloc (.cells #[.slice A1 (inB ss).length cI, .slice none 0 0] 62)) := (Below.refl _ _).alloc (Nat.le_refl _) _
  have HX := Lib.hid (And.intro (rdBox_new w4 (.slice A1 (inB ss).length cI) (.slice none 0 0) 62) hBx)
  generalize ltrs ss = L at *
  clear ho1 hB hi hz0 hz1 hz2 hj hy0 hy1 hy2 hyes hq hBx
  go_wp2_with fail
  go_loopw [37] (fun i wr => ∃ (k : Nat) (vs : List Value) (Av : Option Addr) (cv : Nat), k ≤ (inB ss).length ∧ i = .int .i64 k ∧ Hid (RdBox wr w4.heap.size (.slice A1 (inB ss).length cI) (.slice Av k cv)) ∧ Hid (OwnAt wr (w4.heap.size + 1) 58 3 (.slice Av k cv) vs (intss (tab ss k))) ∧ Hid (Below w4.heap.size w4 wr)) (fun i _ => (inB ss).length - (intOf i).toNat)
  case atStart => exact ⟨0, [], none, 0, Nat.zero_le _, rfl, HX.out.1, ownAt_nil _ _ _ _, HX.out.2⟩
  case round =>
    obtain ⟨j, vs, Av, cv, hj, rfl, hX, hV, hB5⟩ := hrel
    generalize wr = wk at *
    have hbxk := hX.out.2.2.2
    have hlT : (intss (tab ss j)).length = j := by rw [intss_length, Htl.out]
    by_cases hlj : j < (inB ss).length
    · have hRk := Lib.hid (hR4.out.below hB5.out)
      obtain ⟨b, off, hA, hb, hcc⟩ := hRk.out (by rw [strs_length]; omega)
      have hlj' : (j : Int) < ((inB ss).length : Int) := by omega
      subst hA
      have c1 := hcc j _ (strs_nth (inB ss) j hlj)
      clear hcc
      have hz := hi8.out j hlj
      have Hs := Lib.hid (Hts.out j)
      have Hr1 := Lib.hid (Hrs.out j)
      have Hr2 := Lib.hid (Hrl.out j)
      have Ht := Lib.hid (Htr.out j)
      generalize W.nth (inB ss) j = s at c1 hz Ht
      have hz1 : s.size ≤ 60 := by omega
      replace hlT := Lib.hid hlT
      have hkd := impl_oneLonger s L wk hz1 hL3
      have hkl := kids_len s L
      have Hks := Lib.hid (fun k (hk : k < L) => show W.nth (kids s L) k = kid s k from by
        rw [W.nth_lt _ k (by rw [hkl]; exact hk)]
        unfold kids
        rw [List.getElem_map, List.getElem_range])
      go_wp2_with fail
      refine hkd.mono ?_
      rintro e w5 ⟨A3, c3, rfl, ho3, hB6⟩
      have hR3 := Lib.hid (Row.of_own ho3)
      have HB6 := Lib.hid hB6
      rw [hkl]
      replace hkl := Lib.hid hkl
      have hz5 := hB6.size
      clear ho3 hB6 hkd
      go_wp2_with fail
      go_loopw [10, 45] (fun v x wr => ∃ (k : Nat) (acc : List Int), Hid (acc = rowT ss j k) ∧ k ≤ L ∧ x = .int .i64 k ∧ wr.ownsRow w5.heap.size 3 1 v acc.length (ints acc) ∧ Below w5.heap.size w5 wr) (fun _ x _ => L - (intOf x).toNat)
      case atStart => exact ⟨0, [], rfl, Nat.zero_le _, rfl, World.ownsRow_nil _ _ _ _, Below.refl _ _⟩
      case round =>
        obtain ⟨k, acc, hacc, hk, rfl, ho2, hB2⟩ := hrel
        obtain ⟨Ar, cr, rfl⟩ := own_slice ho2
        have hO2 := Lib.hid (And.intro ho2 hB2)
        have hal : acc.length ≤ k := by rw [hacc.out, Hr2.out k]; exact Nat.le_refl _
        clear ho2 hB2
        by_cases hlk : k < L
        · have hlk' : (k : Int) < (L : Int) := by omega
          obtain ⟨b3, off3, rfl, hb3, hc3⟩ := hR3.out (by rw [strs_length, hkl.out]; omega)
          have d1 := (hO2.out.2.cell (p := ⟨b3, off3 + k, none⟩) hb3).trans (hc3 k _ (strs_nth (kids s L) k (by rw [hkl.out]; exact hlk)))
          rw [Hks.out k hlk] at d1
          have hBt : Below wk.heap.size wk wr := HB6.out.trans (hO2.out.2.mono hz5)
          have x0 := ((hX.out.below hBt hbxk)).1
          have hf := index_call (some ⟨b, off, none⟩) (inB ss) cI (kid s k) wr ((((hRk.out.more (show w4.heap.size ≤ wk.heap.size by omega)).below hBt)).more hBt.size) hn0 (by omega)
          have hmx := fdx_max (inB ss) (kid s k)
          rw [← Ht.out k] at hmx
          have he := Lib.hid (show acc ++ [((tr ss j k : Nat) : Int)] = rowT ss j (k + 1) by rw [Hr1.out k, hacc.out])
          generalize tr ss j k = y at hmx he
          generalize Lib.idxOfS (inB ss) (kid s k) = ix at hf hmx
          generalize kid s k = kd at d1 hf
          replace hf := Lib.hid hf
          clear hBt hc3
          go_wp2_with fail
          refine hf.out.mono ?_
          rintro e w6 ⟨rfl, rfl⟩
          have hsz := hO2.out.2.size
          have hlt4 := Lib.hid hO2.out.1.lt
          go_wp2_with (at_builtin; refine wpList_append_own _ rfl _ _ 58 rfl w5.heap.size 3 i0 (.int .i64 0) 1 8 Tryz.underlying58 HR.out.1 HR.out.2.1 HR.out.2.2.1 HR.out.2.2.2 rfl (by decide) _ _ _ rfl (hO2.out.1.alloc _) ⟨wr.heap.size, 0, none⟩ 1 1 [.int .i64 (y : Int)] rfl rfl (cell_one_new _ _ _) (one_cell _) (by unfold maxLen; omega) (by omega) (by simp; omega) ?_)
          intro v' w7 hown' hgrow _
          have hF7 := Lib.hid (And.intro hown' ((hO2.out.2.alloc hsz _).grown hgrow (by simp; omega) (fun g hg => (hlt4.out g hg).1)))
          clear hown' hgrow hlt4
          go_wp2_with fail
          go_roundw
          case rel =>
            refine ⟨k + 1, acc ++ [(y : Int)], he, by omega, by go_num, ?_, hF7.out.2⟩
            rw [ints_snoc, List.length_append]
            exact hF7.out.1
          case measure => simp [intOf]; omega
        · obtain rfl : k = L := by omega
          have hsz2 := hO2.out.2.size
          have hBt : Below wk.heap.size wk wr := HB6.out.trans (hO2.out.2.mono hz5)
          have hVr := hV.out.below hBt
          have hXr := hX.out.below hBt hbxk
          have hX1 := hXr.below ((Below.refl wr.heap.size wr).alloc (Nat.le_refl _) (.cells #[.slice Ar acc.length cr] 58)) hXr.2.2.2
          have x1 := hXr.2.1
          have hV1 := Lib.hid (show (wr.alloc (.cells #[.slice Ar acc.length cr] 58)).ownsRow (w4.heap.size + 1) 58 1 (.slice Av j cv) j vs from by
            have h := own_below hVr.own ((Below.refl wr.heap.size wr).alloc (Nat.le_refl _) (.cells #[.slice Ar acc.length cr] 58))
            rw [hlT.out] at h
            exact h)
          have hlt4 := Lib.hid hV1.out.lt
          replace hXr := Lib.hid hX1
          clear hX1
          go_wp2_with (at_builtin; refine wpList_append_own _ rfl _ _ 33 rfl (w4.heap.size + 1) 58 i1 (.slice none 0 0) 1 24 Tryz.underlying33 HR2.out.1 HR2.out.2.1 HR2.out.2.2.1 HR2.out.2.2.2 rfl (by decide) (.slice Av j cv) j vs rfl hV1.out ⟨wr.heap.size, 0, none⟩ 1 1 [.slice Ar acc.length cr] rfl rfl (cell_one_new _ _ _) (one_slice2 _ _ _) (by unfold maxLen; omega) (by omega) (by simp; omega) ?_)
          intro v' w7 ho1 hg1 _
          have hBW : Below wk.heap.size wk (wr.alloc (.cells #[.slice Ar acc.length cr] 58)) := hBt.alloc (by omega) _
          have hszi : w4.heap.size ≤ wk.heap.size := by omega
          have hP := push_later (base := w4.heap.size + 1) (mid := w5.heap.size) (xss := tab ss j) (xs := acc) rfl (by rw [← hlT.out] at hV; rw [hlT.out] at hV; exact hV.out) hBW (by omega) (by omega) (hO2.out.1.alloc _) (by rw [Htl.out]; exact ho1) hg1
          have hX7 := hXr.out.grown hg1 (fun e => by have := (hlt4.out _ e.symm).1; omega)
          have hB7 : Below w4.heap.size w4 w7 := (hB5.out.trans (hBW.mono hszi)).grown hg1 (by have := hBW.size; omega) (fun g hg => by have := (hlt4.out g hg).1; omega)
          obtain ⟨A7, c7, rfl⟩ := own_slice ho1
          have y1 := hX7.2.1
          have y2 := hX7.2.2.1
          have hX8 := hX7.put (.slice A7 (j + 1) c7)
          have hP8 := hP.setOther ⟨w4.heap.size, 1, none⟩ (.slice A7 (j + 1) c7) (by show w4.heap.size < _; omega)
          have hB8 := hB7.setCell (p := ⟨w4.heap.size, 1, none⟩) (Nat.le_refl _) (.slice A7 (j + 1) c7)
          have hE : tab ss j ++ [acc] = tab ss (j + 1) := by rw [Hs.out, hacc.out]
          rw [hE] at hP8
          have HF := Lib.hid (And.intro hX8 (And.intro hP8 hB8))
          clear hP hB7 hBW ho1 hg1 hE hX8 hP8 hB8 hX7 hBt hVr x1
          go_wp2_with fail
          go_roundw
          case rel => exact ⟨j + 1, vs ++ [.slice Ar acc.length cr], A7, c7, by omega, by go_num, Lib.hid HF.out.1, Lib.hid HF.out.2.1, Lib.hid HF.out.2.2⟩
          case measure => simp [intOf]; omega
    · obtain rfl : j = (inB ss).length := by omega
      have x0 := hX.out.1
      have x1 := hX.out.2.1
      have hR9 : RowTab wk wk.heap.size Av ss := by
        have h : OwnAt wk (w4.heap.size + 1) 58 3 (.slice Av (intss (tab ss (inB ss).length)).length cv) vs (intss (tab ss (inB ss).length)) := by rw [hlT]; exact hV.out
        exact RowSS.of_own ⟨vs, h⟩
      have ho9 := own_below Hown.out hB5.out
      have HF := Lib.hid (And.intro ho9 (And.intro hR9 (HB4.out.trans (hB5.out.mono HB4.out.size))))
      clear hR9 ho9
      go_wp2_with fail
      go_ret2
      exact ⟨A1, cI, Av, cv, rfl, HF.out.1, HF.out.2.1, HF.out.2.2⟩
end Go.Proofs.YtlapmjligdjniaaGreatDoor
namespace Go.Proofs.YtlapmjligdjniaaGreatDoor
open Go.RowKit Go.Shelf

theorem wrap_u16_in (n : Int) (h : 0 ≤ n ∧ n ≤ 65535) : IntKind.u16.wrap n = n := IntWalk.u16_in n h
theorem or_bit16 (g x : Nat) (hg : g < 65536) (hx : x < 16) : bits .or .u16 (g : Int) (IntKind.u16.wrap ((2 : Int) ^ x)) = ((g ||| 2 ^ x : Nat) : Int) := by
  have hp : 2 ^ x < 65536 := Nat.pow_lt_pow_right (n := 16) (by omega) hx
  have e : IntKind.u16.wrap ((2 : Int) ^ x) = ((2 ^ x : Nat) : Int) := by
    rw [show ((2 : Int) ^ x) = ((2 ^ x : Nat) : Int) by simp]
    generalize 2 ^ x = p at hp ⊢
    exact IntWalk.u16_in _ (by omega)
  rw [e]
  exact u16_or_nat g (2 ^ x) hg hp
theorem and_one16 (g k : Nat) (hg : g < 65536) : bits .and .u16 ((g : Int) / (2 : Int) ^ k) 1 = if g.testBit k then 1 else 0 := by
  have e : ((g : Int) / (2 : Int) ^ k) = ((g / 2 ^ k : Nat) : Int) := by simp
  have hd := Nat.div_le_self g (2 ^ k)
  rw [e]
  refine (u16_and_nat (g / 2 ^ k) 1 (by omega) (by omega)).trans ?_
  rw [Nat.and_one_is_mod, Nat.testBit_eq_decide_div_mod_eq]
  by_cases h : g / 2 ^ k % 2 = 1
  · rw [h]; rfl
  · have : g / 2 ^ k % 2 = 0 := by omega
    rw [this]; rfl
def intsN (l : List Nat) : List Int := l.map fun (j : Nat) => (j : Int)
theorem intsN_len (l : List Nat) : (intsN l).length = l.length := by simp [intsN]
set_option maxHeartbeats 3200000 in
set_option maxRecDepth 100000 in
theorem impl_members (g : Nat) (w : World) (hg : g < 65536) :
    Calls Tryz.prog 53 #[.int .u16 g] w (GivesInts w (intsN (mems 12 g))) := by
  have Hms := Lib.hid (fun k => mems_succ k g)
  have Hml := Lib.hid (fun k => mems_len k g)
  have Hbt := Lib.hid (fun k => and_one16 g k hg)
  obtain ⟨i0, hi, hz0, hz1, hz2⟩ := info_parts infoInt
  have HR := Lib.hid (And.intro hi (And.intro hz0 (And.intro hz1 hz2)))
  have hg1 : (g : Int) < 65536 := by omega
  clear hi hz0 hz1 hz2
  go_enter Tryz.func53, Tryz.ntmps53
  go_wp2_with fail
  go_loopw [3, 5] (fun v i wr => ∃ (k : Nat) (acc : List Int), Hid (acc = intsN (mems k g)) ∧ k ≤ 12 ∧ i = .int .i64 k ∧ wr.ownsRow w.heap.size 3 1 v acc.length (ints acc) ∧ Below w.heap.size w wr) (fun _ i _ => 12 - (intOf i).toNat)
  case atStart => exact ⟨0, [], rfl, Nat.zero_le _, rfl, World.ownsRow_nil _ _ _ _, Below.refl _ _⟩
  case round =>
    obtain ⟨k, acc, hacc, hk, rfl, ho, hB⟩ := hrel
    obtain ⟨Av, cv, rfl⟩ := own_slice ho
    have hO := Lib.hid (And.intro ho hB)
    have hal : acc.length ≤ k := by rw [hacc.out, intsN_len]; exact Hml.out k
    clear ho hB
    by_cases hlt : k < 12
    · have hlt' : (k : Int) < 12 := by omega
      have hbt := Hbt.out k
      have hms := Hms.out k
      cases hd : g.testBit k
      · rw [hd] at hbt hms
        rw [if_neg (by simp)] at hbt
        have hN : Hid (acc = intsN (mems (k + 1) g)) := by show _ = _; rw [hacc.out, hms]; simp
        clear hms hd
        go_wp2_with fail
        go_roundw
        case rel => exact ⟨k + 1, acc, hN, by omega, by go_num, hO.out.1, hO.out.2⟩
        case measure => simp [intOf]; omega
      · rw [hd] at hbt hms
        rw [if_pos rfl] at hbt
        have hN : Hid (acc ++ [(k : Int)] = intsN (mems (k + 1) g)) := by show _ = _; rw [hacc.out, hms]; simp [intsN]
        have hsz := hO.out.2.size
        have hlt4 := Lib.hid hO.out.1.lt
        clear hms hd
        go_wp2_with (at_builtin; refine wpList_append_own _ rfl _ _ 58 rfl w.heap.size 3 i0 (.int .i64 0) 1 8 Tryz.underlying58 HR.out.1 HR.out.2.1 HR.out.2.2.1 HR.out.2.2.2 rfl (by decide) _ _ _ rfl (hO.out.1.alloc _) ⟨wr.heap.size, 0, none⟩ 1 1 [.int .i64 (k : Int)] rfl rfl (cell_one_new _ _ _) (one_cell _) (by unfold maxLen; omega) (by omega) (by simp; omega) ?_)
        intro v' w6 hown' hgrow _
        have hF6 := Lib.hid (And.intro hown' ((hO.out.2.alloc hsz _).grown hgrow (by simp; omega) (fun g hg => (hlt4.out g hg).1)))
        clear hown' hgrow hlt4
        go_wp2_with fail
        go_roundw
        case rel =>
          refine ⟨k + 1, acc ++ [(k : Int)], hN, by omega, by go_num, ?_, hF6.out.2⟩
          rw [ints_snoc, List.length_append]
          exact hF6.out.1
        case measure => simp [intOf]; omega
    · obtain rfl : k = 12 := by omega
      go_wp2_with fail
      go_ret
      rw [← hacc.out]
      exact givesInts_of hO.out.1 rfl hO.out.2
set_option maxHeartbeats 1600000 in
set_option maxRecDepth 100000 in
theorem groupOf_any (A : Option Addr) (l : List Nat) (c : Nat) (w : World) (h : Row w w.heap.size A (ints (intsN l))) (hl : l.length ≤ 100) (hb : ∀ j ∈ l, j < 12) :
    Calls Tryz.prog 22 #[.slice A l.length c] w fun e w' => e = .returned (.int .u16 ((orG l id : Nat) : Int)) ∧ w = w' := by
  have Hst := Lib.hid (show ∀ k (hk : k < l.length), orG (l.take (k + 1)) id = orG (l.take k) id ||| 2 ^ l[k] from fun k hk => by rw [List.take_succ_eq_append_getElem hk, orG_snoc]; rfl)
  have Hlt := Lib.hid (show ∀ k (hk : k < l.length), l[k] < 12 from fun k hk => hb _ (List.getElem_mem hk))
  have Hob := Lib.hid (show ∀ k, orG (l.take k) id < 4096 from fun k => orG_lt id 12 _ 0 (by omega) (fun j hj => hb j (List.mem_of_mem_take hj)))
  have Hall : Hid (orG (l.take l.length) id = orG l id) := by show _ = _; rw [List.take_length]
  have Hat := Lib.hid (show ∀ k (hk : k < l.length), (ints (intsN l))[k]? = some (.int .i64 (l[k] : Int)) from fun k hk => by
    rw [ints_at _ k (by rw [intsN_len]; exact hk)]
    simp [intsN])
  generalize orG l id = R at Hall ⊢
  replace h := Lib.hid h
  clear hb
  go_enter Tryz.func22, Tryz.ntmps22
  go_wp2
  go_loop [3, 8] (fun gv i => ∃ (k g : Nat), k ≤ l.length ∧ i = .int .i64 k ∧ gv = .int .u16 g ∧ Hid (g = orG (l.take k) id)) (fun _ i => l.length - (intOf i).toNat)
  case atStart => exact ⟨0, 0, Nat.zero_le _, rfl, rfl, rfl⟩
  case round =>
    obtain ⟨k, g, hk, rfl, rfl, hg⟩ := hrel
    by_cases hlt : k < l.length
    · obtain ⟨b, off, rfl, hb, hcc⟩ := h.out (by rw [ints_length, intsN_len]; omega)
      have hlt' : (k : Int) < (l.length : Int) := by omega
      have c1 := hcc k _ (Hat.out k hlt)
      clear hcc
      have hst := Hst.out k hlt
      have hx := Hlt.out k hlt
      have hob := Hob.out k
      rw [← hg.out] at hst hob
      generalize l[k] = x at c1 hst hx
      have ho := Lib.hid (or_bit16 g x (by omega) (by omega))
      have hN : Hid (g ||| 2 ^ x = orG (l.take (k + 1)) id) := hst.symm
      clear hst
      go_wp2_with fail
      go_round
      case rel => exact ⟨k + 1, g ||| 2 ^ x, by omega, by go_num, by rw [ho.out], hN⟩
      case measure => simp [intOf]; omega
    · obtain rfl : k = l.length := by omega
      obtain rfl : g = R := hg.out.trans Hall.out
      go_wp2_with fail
      go_ret
      exact ⟨rfl, rfl⟩
theorem groupOf_one (b x c : Nat) (w : World) (hc : w.cell? ⟨b, 0, none⟩ = some (.int .i64 (x : Int))) (hx : x < 12) :
    Calls Tryz.prog 22 #[.slice (some ⟨b, 0, none⟩) 1 c] w fun e w' => e = .returned (.int .u16 ((2 ^ x : Nat) : Int)) ∧ w = w' := by
  have h := groupOf_any (some ⟨b, 0, none⟩) [x] c w (row_one hc) (by simp) (fun j hj => by simp at hj; omega)
  have e : orG [x] id = 2 ^ x := by
    show 0 ||| 2 ^ x = _
    rw [Nat.zero_or]
  rw [e] at h
  exact h
theorem method_states (v : Value) (w : World) : (method 270 62 v "loop.example/g01164/impl.states").run Tryz.prog w = .ok (149, v) w := by kernel_rfl
theorem rd_states (A : Option Addr) (n c : Nat) (A2 : Option Addr) (c2 : Nat) (w : World) :
    Calls Tryz.prog 149 #[.agg #[.slice A n c, .slice A2 n c2]] w fun e w' => e = .returned (.slice A n c) ∧ Below w.heap.size w w' := by
  go_enter Tryz.func149, Tryz.ntmps149
  go_wp2_with fail
  go_ret
  exact ⟨rfl, (Below.refl _ _).alloc (Nat.le_refl _) _⟩
theorem method_letters (v : Value) (w : World) : (method 270 62 v "loop.example/g01164/impl.letters").run Tryz.prog w = .ok (148, v) w := by kernel_rfl
theorem rd_letters (A : Option Addr) (ss : List ByteArray) (c : Nat) (A2 : Option Addr) (c2 : Nat) (w : World) (h : RowTab w w.heap.size A2 ss) (h0 : 0 < (inB ss).length) :
    Calls Tryz.prog 148 #[.agg #[.slice A (inB ss).length c, .slice A2 (inB ss).length c2]] w fun e w' => e = .returned (.int .i64 ((ltrs ss : Nat) : Int)) ∧ Below w.heap.size w w' := by
  obtain ⟨b, off, A', c', rfl, hb, c1, _⟩ := h.row h0
  have h0' : (0 : Int) < ((inB ss).length : Int) := by omega
  have c1' : w.cell? ⟨b, off, none⟩ = some (.slice A' (ltrs ss) c') := c1
  go_enter Tryz.func148, Tryz.ntmps148
  go_wp2_with fail
  go_ret
  exact ⟨rfl, (Below.refl _ _).alloc (Nat.le_refl _) _⟩
theorem method_after (v : Value) (w : World) : (method 270 62 v "loop.example/g01164/impl.after").run Tryz.prog w = .ok (147, v) w := by kernel_rfl
theorem rd_after (A : Option Addr) (ss : List ByteArray) (c : Nat) (A2 : Option Addr) (c2 q k : Nat) (w : World) (h : RowTab w w.heap.size A2 ss) (hq : q < (inB ss).length) (hk : k < ltrs ss) :
    Calls Tryz.prog 147 #[.agg #[.slice A (inB ss).length c, .slice A2 (inB ss).length c2], .int .i64 q, .int .i64 k] w fun e w' => e = .returned (.int .i64 ((tr ss q k : Nat) : Int)) ∧ Below w.heap.size w w' := by
  obtain ⟨b, off, b', off', c', rfl, hb, c1, hb', c2⟩ := h.read hq hk
  have hq' : (q : Int) < ((inB ss).length : Int) := by omega
  have hk' : (k : Int) < (ltrs ss : Int) := by omega
  go_enter Tryz.func147, Tryz.ntmps147
  go_wp2_with fail
  go_ret
  exact ⟨rfl, (Below.refl _ _).alloc (Nat.le_refl _) _⟩

/-- what is asked of a set -/
theorem tr_lt2 {ss : List ByteArray} (h : 0 < (inB ss).length) : ∀ i k, tr ss i k < (inB ss).length := fun i k => tr_lt h i k
set_option maxHeartbeats 3200000 in
set_option maxRecDepth 100000 in
theorem impl_afterLetter (A : Option Addr) (ss : List ByteArray) (c : Nat) (A2 : Option Addr) (c2 g k : Nat) (w : World) (h : RowTab w w.heap.size A2 ss) (h0 : 0 < (inB ss).length) (hn : (inB ss).length ≤ 11) (hg : g < 2 ^ (inB ss).length) (hk : k < ltrs ss) :
    Calls Tryz.prog 35 #[.int .u16 g, rdV A (inB ss).length c A2 c2, .int .i64 k] w fun e w' => e = .returned (.int .u16 ((nxt (tr ss) (inB ss).length k g : Nat) : Int)) ∧ Below w.heap.size w w' := by
  have hp : 2 ^ (inB ss).length ≤ 2048 := Nat.pow_le_pow_right (n := 2) (by omega) hn
  have hmm : mems 12 g = mems (inB ss).length g := by
    have := mems_more hg (12 - (inB ss).length)
    rwa [show (inB ss).length + (12 - (inB ss).length) = 12 by omega] at this
  have hme := impl_members g w (by omega)
  rw [hmm] at hme
  have hal := Lib.hid (fun (q : Nat) (hq : q < (inB ss).length) (u : World) (hB : Below w.heap.size w u) => rd_after A ss c A2 c2 q k u ((h.below hB).more hB.size) hq hk)
  have hmt := method_after (.agg #[.slice A (inB ss).length c, .slice A2 (inB ss).length c2])
  have hml := mems_len (inB ss).length g
  have Hin := Lib.hid (show ∀ i (hi : i < (mems (inB ss).length g).length), (mems (inB ss).length g)[i] < (inB ss).length from fun i hi => (mems_mem.1 (List.getElem_mem hi)).1)
  have HN := Lib.hid (show nxt (tr ss) (inB ss).length k g = orG (mems (inB ss).length g) (fun j => tr ss j k) from rfl)
  have Htl := Lib.hid (fun i => tr_lt2 h0 i k)
  generalize nxt (tr ss) (inB ss).length k g = R at HN ⊢
  generalize mems (inB ss).length g = ms at hme hml Hin HN
  have Hst := Lib.hid (show ∀ i (hi : i < ms.length), orG (ms.take (i + 1)) (fun j => tr ss j k) = orG (ms.take i) (fun j => tr ss j k) ||| 2 ^ tr ss ms[i] k from fun i hi => by rw [List.take_succ_eq_append_getElem hi, orG_snoc])
  have Hob := Lib.hid (show ∀ i, orG (ms.take i) (fun j => tr ss j k) < 2048 from fun i => orG_lt _ 11 _ 0 (by omega) (fun j _ => Nat.lt_of_lt_of_le (Htl.out j) hn))
  have Hall : Hid (orG (ms.take ms.length) (fun j => tr ss j k) = R) := by show _ = _; rw [List.take_length]; exact HN.out.symm
  have Hat := Lib.hid (show ∀ i (hi : i < ms.length), (ints (intsN ms))[i]? = some (.int .i64 (ms[i] : Int)) from fun i hi => by
    rw [ints_at _ i (by rw [intsN_len]; exact hi)]
    simp [intsN])
  have hil : (intsN ms).length = ms.length := intsN_len ms
  replace hme := Lib.hid hme
  generalize (inB ss).length = n at *
  clear h hmm hp
  go_enter Tryz.func35, Tryz.ntmps35
  go_wp2_with fail
  refine hme.out.mono ?_
  rintro e w1 ⟨A1, cI, rfl, ho, hB⟩
  rw [hil]
  have hR1 := Lib.hid (Row.of_own ho)
  have HB1 := Lib.hid hB
  replace hil := Lib.hid hil
  clear ho hB
  go_wp2_with fail
  go_loopw [7, 13] (fun gv i wr => ∃ (j m : Nat), j ≤ ms.length ∧ i = .int .i64 j ∧ gv = .int .u16 m ∧ Hid (m = orG (ms.take j) (fun j => tr ss j k)) ∧ Hid (Below w1.heap.size w1 wr)) (fun _ i _ => ms.length - (intOf i).toNat)
  case atStart => exact ⟨0, 0, Nat.zero_le _, rfl, rfl, rfl, Below.refl _ _⟩
  case round =>
    obtain ⟨j, m, hj, rfl, rfl, hm, hB2⟩ := hrel
    by_cases hlt : j < ms.length
    · obtain ⟨b, off, rfl, hb, hcc⟩ := hR1.out (by rw [ints_length, hil.out]; omega)
      have hlt' : (j : Int) < (ms.length : Int) := by omega
      have c1 := (hB2.out.cell (p := ⟨b, off + j, none⟩) hb).trans (hcc j _ (Hat.out j hlt))
      clear hcc
      have hst := Hst.out j hlt
      have hx := Hin.out j hlt
      have hob := Hob.out j
      rw [← hm.out] at hst hob
      generalize ms[j] = x at c1 hst hx
      have hBt := HB1.out.trans (hB2.out.mono HB1.out.size)
      have hcall := hal.out x hx wr hBt
      have hty := Htl.out x
      generalize tr ss x k = y at hst hcall hty
      have hy12 : 2 ^ y < 65536 := Nat.pow_lt_pow_right (n := 16) (by omega) (by omega)
      have ho := Lib.hid (u16_or_nat m (2 ^ y) (by omega) hy12)
      have hN : Hid (m ||| 2 ^ y = orG (ms.take (j + 1)) (fun j => tr ss j k)) := hst.symm
      replace hcall := Lib.hid hcall
      clear hst hBt
      go_wp2_with fail
      refine hcall.out.mono ?_
      rintro e w2 ⟨rfl, hB3⟩
      have hg1 := Lib.hid (groupOf_one w2.heap.size y 1 (w2.alloc (.cells #[.int .i64 (y : Int)] 3)) (by rw [World.cell?_alloc_at _ _ _ _ rfl]; rfl) (by omega))
      have hB4 := Lib.hid ((hB2.out.trans (hB3.mono hB2.out.size)).alloc (Nat.le_trans hB2.out.size hB3.size) (.cells #[.int .i64 (y : Int)] 3))
      clear hB3
      generalize 2 ^ y = p at hg1 ho hN hy12
      go_wp2_with fail
      refine hg1.out.mono ?_
      rintro e w3 ⟨rfl, rfl⟩
      go_wp2_with fail
      go_roundw
      case rel => exact ⟨j + 1, m ||| p, by omega, by go_num, by rw [ho.out], hN, hB4⟩
      case measure => simp [intOf]; omega
    · obtain rfl : j = ms.length := by omega
      obtain rfl : m = R := hm.out.trans Hall.out
      go_wp2_with fail
      go_ret
      exact ⟨rfl, HB1.out.trans (hB2.out.mono HB1.out.size)⟩
theorem impl_isState (A : Option Addr) (n c : Nat) (A2 : Option Addr) (c2 : Nat) (q : Int) (w : World) (_hn : n ≤ 11) :
    Calls Tryz.prog 21 #[rdV A n c A2 c2, .int .i64 q] w fun e w' => e = .returned (.bool (decide (0 ≤ q ∧ q < n))) ∧ Below w.heap.size w w' := by
  have hmt := method_states (.agg #[.slice A n c, .slice A2 n c2])
  have hs := Lib.hid (rd_states A n c A2 c2 w)
  by_cases h0 : 0 ≤ q
  · have hd : decide (0 ≤ q ∧ q < (n : Int)) = decide (q < (n : Int)) := by simp [h0]
    rw [hd]
    clear hd
    go_enter Tryz.func21, Tryz.ntmps21
    go_wp2_with fail
    refine hs.out.mono ?_
    rintro e w1 ⟨rfl, hB⟩
    go_wp2_with fail
    go_ret
    exact ⟨rfl, hB⟩
  · have hd : decide (0 ≤ q ∧ q < (n : Int)) = false := decide_eq_false (fun e => h0 e.1)
    rw [hd]
    clear hd
    go_enter Tryz.func21, Tryz.ntmps21
    go_wp2_with fail
    go_ret
    exact ⟨rfl, Below.refl _ _⟩
theorem impl_allStates (A : Option Addr) (n c : Nat) (A2 : Option Addr) (c2 : Nat) (w : World) (hn : n ≤ 11) :
    Calls Tryz.prog 19 #[rdV A n c A2 c2] w fun e w' => e = .returned (.int .u16 ((2 ^ n - 1 : Nat) : Int)) ∧ Below w.heap.size w w' := by
  have hmt := method_states (.agg #[.slice A n c, .slice A2 n c2])
  have hs := Lib.hid (rd_states A n c A2 c2 w)
  have hp : 2 ^ n ≤ 2048 := Nat.pow_le_pow_right (n := 2) (by omega) hn
  have hp1 : 0 < 2 ^ n := Nat.two_pow_pos n
  have e1 : Hid (IntKind.u16.wrap (IntKind.u16.wrap ((2 : Int) ^ n) - 1) = ((2 ^ n - 1 : Nat) : Int)) := by
    show _ = _
    rw [show ((2 : Int) ^ n) = ((2 ^ n : Nat) : Int) by simp]
    generalize 2 ^ n = p at hp hp1 ⊢
    rw [IntWalk.u16_in (p : Int) (by omega), IntWalk.u16_in ((p : Int) - 1) (by omega)]
    omega
  rw [← e1.out]
  clear hp hp1
  go_enter Tryz.func19, Tryz.ntmps19
  go_wp2_with fail
  refine hs.out.mono ?_
  rintro e w1 ⟨rfl, hB⟩
  go_wp2_with fail
  go_ret
  exact ⟨rfl, hB⟩
end Go.Proofs.YtlapmjligdjniaaGreatDoor
