/-
  WHAT THIS FILE PROVES: a prefix set shrunk: the program's function gives the plain one's set; asked: a slice of texts in memory, lengths that an int holds and no more than the capacity.
-/
import Derived.Test.YtojcnalgjeojdaaGreatDoorShkD
import Derived.Test.YtojcnalgjeojdaaGreatDoorInnI
import Derived.Test.YtojcnalgjeojdaaGreatDoorIsPfx
import Derived.Test.YtojcnalgjeojdaaGreatDoorSSMem
import Derived.Test.YtojcnalgjeojdaaGreatDoorAppend
import Derived.BigQuiet
namespace Go.Proofs.YtojcnalgjeojdaaGreatDoor
open Go.RowKit Go.Shelf

set_option maxHeartbeats 6400000 in
set_option maxRecDepth 100000 in
theorem impl_ShrinkPrefix (A : Option Addr) (ss : List ByteArray) (c : Nat) (w : World) (h : Row w w.heap.size A (strs ss)) (hcap : ss.length ≤ c) (hl : ss.length ≤ 9223372036854775807) (hs : ∀ s ∈ ss, s.size ≤ 9223372036854775807) :
    Calls Tryz.prog 7 #[.slice A ss.length c] w (OkStrs w (shOf ss) (shOk ss)) := by
  have hBU : Below w.heap.size w (w.alloc (.cells #[.slice A ss.length c] 22)) := (Below.refl _ _).alloc (Nat.le_refl _) _
  have hx0 : (w.alloc (.cells #[.slice A ss.length c] 22)).cell? ⟨w.heap.size, 0, none⟩ = some (.slice A ss.length c) := by rw [World.cell?_alloc_at _ _ _ _ rfl]; rfl
  have hI := impl_IsSet A ss c (w.alloc (.cells #[.slice A ss.length c] 22)) ((h.below hBU).more hBU.size) hl hs
  cases hq : W.isSet ss
  · have hno : shOk ss = false := by unfold shOk shAsk; rw [hq]; rfl
    rw [shOf_no hno, hno]
    rw [hq] at hI
    replace hI := Lib.hid hI
    clear h hs hq hno
    go_enter Tryz.func7, Tryz.ntmps7
    go_wp2_with fail
    generalize (w.alloc (.cells #[.slice A ss.length c] 22)) = u at hBU hx0 hI ⊢
    refine hI.out.mono ?_
    rintro e w1 ⟨rfl, hB⟩
    replace hB := hBU.trans (hB.mono hBU.size)
    clear hx0
    go_wp2_with fail
    go_ret2
    exact okStrs_nil _ _ _ hB
  · rw [hq] at hI
    replace hI := Lib.hid hI
    have h12 := W.isSet_len ss hq
    have hk := Lib.hid (fun (u : World) (hB : Below w.heap.size w u) => impl_isPrefixSet A ss c u ((h.below hB).more hB.size) (by omega))
    cases hp : pfxB ss
    · have hno : shOk ss = false := by unfold shOk shAsk; rw [hp]; simp
      rw [shOf_no hno, hno]
      rw [hp] at hk
      clear h hs hq hno hp
      go_enter Tryz.func7, Tryz.ntmps7
      go_wp2_with fail
      generalize (w.alloc (.cells #[.slice A ss.length c] 22)) = u at hBU hx0 hI ⊢
      refine hI.out.mono ?_
      rintro e w1 ⟨rfl, hB⟩
      have hx1 := (hB.cell (p := ⟨w.heap.size, 0, none⟩) (World.block_lt_of_cell? _ _ hx0)).trans hx0
      replace hB := hBU.trans (hB.mono hBU.size)
      have hk1 := Lib.hid (hk.out _ hB)
      clear hx0
      go_wp2_with fail
      refine hk1.out.mono ?_
      rintro e w2 ⟨rfl, hB2⟩
      replace hB2 := hB.trans (hB2.mono hB.size)
      clear hx1
      go_wp2_with fail
      go_ret2
      exact okStrs_nil _ _ _ hB2
    · rw [hp] at hk
      have hlt := Lib.hid (fun (u : World) (hB : Below w.heap.size w u) => impl_lettersIn A ss c u ((h.below hB).more hB.size) hq hcap)
      have hin := Lib.hid (fun (u : World) (hB : Below w.heap.size w u) => impl_innerWords A ss c u ((h.below hB).more hB.size) hq)
      have Hq := Lib.hid (And.intro hq hp)
      have Hrow := Lib.hid h
      have hil := inB_len hq
      have hL3 : ltrs ss ≤ 3 := by rcases ltrs_two ss with h | h <;> omega
      have Hsz := Lib.hid (show ∀ j, j < (inB ss).length → (W.nth (inB ss) j).size ≤ 8 from fun j hj => by rw [W.nth_lt _ j hj]; exact inB_size2 Hq.out.1 _ (List.getElem_mem hj))
      have HF := Lib.hid (show ∀ s, fullW ss s = fullTo ss s (ltrs ss) from fun _ => rfl)
      have HX := Lib.hid (show lastTo (fullW ss) (inB ss) (inB ss).length = shX ss from rfl)
      obtain ⟨i0, hi, hz0, hz1, hz2⟩ := info_parts infoStr
      have HR := Lib.hid (And.intro hi (And.intro hz0 (And.intro hz1 hz2)))
      clear h hs hq hp hi hz0 hz1 hz2
      generalize hLL : ltrs ss = L at hlt hL3 HF
      replace hLL := Lib.hid hLL
      generalize hII : inB ss = I at hin hil Hsz HX
      replace hII := Lib.hid hII
      go_enter Tryz.func7, Tryz.ntmps7
      go_wp2_with fail
      generalize (w.alloc (.cells #[.slice A ss.length c] 22)) = u at hBU hx0 hI ⊢
      refine hI.out.mono ?_
      rintro e w1 ⟨rfl, hB1⟩
      have hx1 := (hB1.cell (p := ⟨w.heap.size, 0, none⟩) (World.block_lt_of_cell? _ _ hx0)).trans hx0
      replace hB1 := hBU.trans (hB1.mono hBU.size)
      have hk1 := Lib.hid (hk.out _ hB1)
      clear hx0
      go_wp2_with fail
      refine hk1.out.mono ?_
      rintro e w2 ⟨rfl, hB2⟩
      have hx2 := (hB2.cell (p := ⟨w.heap.size, 0, none⟩) (World.block_lt_of_cell? _ _ hx1)).trans hx1
      replace hB2 := hB1.trans (hB2.mono hB1.size)
      have hlt1 := Lib.hid (hlt.out _ hB2)
      clear hx1 hB1 hk1
      go_wp2_with fail
      refine hlt1.out.mono ?_
      rintro e w3 ⟨rfl, hB3⟩
      have hx3 := (hB3.cell (p := ⟨w.heap.size, 0, none⟩) (World.block_lt_of_cell? _ _ hx2)).trans hx2
      replace hB3 := hB2.trans (hB3.mono hB2.size)
      have hz3 := World.block_lt_of_cell? _ _ hx3
      have hy4 : (w3.alloc (.cells #[.string ⟨#[]⟩] 9)).cell? ⟨w3.heap.size, 0, none⟩ = some (.string ⟨#[]⟩) := by rw [World.cell?_alloc_at _ _ _ _ rfl]; rfl
      have hf4 : (w3.alloc (.cells #[.string ⟨#[]⟩] 9)).frozen? ⟨w3.heap.size, 0, none⟩ = false := World.frozen?_alloc_at _ _ _ _ rfl
      have hx4 : (w3.alloc (.cells #[.string ⟨#[]⟩] 9)).cell? ⟨w.heap.size, 0, none⟩ = some (.slice A ss.length c) := (World.cell?_alloc_lt _ _ _ hz3).trans hx3
      have hB4 : Below w.heap.size w (w3.alloc (.cells #[.string ⟨#[]⟩] 9)) := hB3.alloc hB3.size _
      have hin1 := Lib.hid (hin.out _ hB4)
      clear hx2 hx3 hB2 hlt1
      go_wp2_with fail
      generalize (w3.alloc (.cells #[.string ⟨#[]⟩] 9)) = w4 at hy4 hf4 hx4 hB4 hin1 ⊢
      refine hin1.out.mono ?_
      rintro e w5 ⟨A5, c5, rfl, ho5, hB5⟩
      have hz4 := World.block_lt_of_cell? _ _ hy4
      have hy5 := (hB5.cell (p := ⟨w3.heap.size, 0, none⟩) hz4).trans hy4
      have hf5 := (World.frozen?_of_block (a := ⟨w3.heap.size, 0, none⟩) (hB5.block w3.heap.size hz4)).trans hf4
      have hx5 := (hB5.cell (p := ⟨w.heap.size, 0, none⟩) (World.block_lt_of_cell? _ _ hx4)).trans hx4
      replace hB5 := hB4.trans (hB5.mono hB4.size)
      have HF5 := Lib.hid (And.intro ho5 (And.intro hy5 (And.intro hf5 (And.intro hx5 hB5))))
      have hz34 : w3.heap.size < w4.heap.size := hz4
      have hz33 : w.heap.size < w3.heap.size := hz3
      clear ho5 hy5 hf5 hx5 hB5 hy4 hf4 hx4 hin1 hz4 hz3
      go_wp2_with fail
      go_loopw [24] (fun i wr => ∃ k : Nat, k ≤ I.length ∧ i = .int .i64 k ∧ wr.ownsRow w4.heap.size 9 1 (.slice A5 I.length c5) I.length (strs I) ∧ wr.cell? ⟨w3.heap.size, 0, none⟩ = some (.string (lastTo (fullW ss) I k)) ∧ wr.frozen? ⟨w3.heap.size, 0, none⟩ = false ∧ wr.cell? ⟨w.heap.size, 0, none⟩ = some (.slice A ss.length c) ∧ Below w.heap.size w wr) (fun i _ => I.length - (intOf i).toNat)
      case atStart => exact ⟨0, Nat.zero_le _, rfl, HF5.out.1, HF5.out.2.1, HF5.out.2.2.1, HF5.out.2.2.2.1, HF5.out.2.2.2.2⟩
      case round =>
        clear HF5
        obtain ⟨k, hk, rfl, ho, hy, hf, hx, hB⟩ := hrel
        generalize wr = wk at *
        have hO := Lib.hid (And.intro ho (And.intro hy (And.intro hf (And.intro hx hB))))
        have hzk := World.block_lt_of_cell? _ _ hy
        clear ho hy hf hx hB
        by_cases hlk : k < I.length
        · obtain ⟨g5, rfl, hg5, hgl⟩ := own_form hO.out.1 (by omega)
          have hlk' : (k : Int) < (I.length : Int) := by omega
          have c1 : wk.cell? ⟨g5, k, none⟩ = some (.string (W.nth I k)) := by rw [hO.out.1.cellAt k (by omega)]; exact strs_nth I k hlk
          have hs8 := Hsz.out k hlk
          have Hs := Lib.hid (show lastTo (fullW ss) I (k + 1) = if fullW ss (W.nth I k) then W.nth I k else lastTo (fullW ss) I k from rfl)
          have HFk := Lib.hid (HF.out (W.nth I k))
          generalize W.nth I k = s at c1 hs8 Hs HFk
          have hol := Lib.hid (impl_oneLonger s L wk (by omega) hL3)
          go_wp2_with fail
          refine hol.out.mono ?_
          rintro e w6 ⟨A6, c6, rfl, ho6, hB6⟩
          have hR6 := Lib.hid (Row.of_own ho6)
          have hx6 := (hB6.cell (p := ⟨w.heap.size, 0, none⟩) (World.block_lt_of_cell? _ _ hO.out.2.2.2.1)).trans hO.out.2.2.2.1
          have hB6' := hO.out.2.2.2.2.trans (hB6.mono hO.out.2.2.2.2.size)
          have hkl := kids_len s L
          have htl : Tells 21 #[.pointer (some ⟨w.heap.size, 0, none⟩)] (fun t => !(hasB ss t)) (kids s L) w6 := fun j v hj hBv =>
            noWord_box _ w.heap.size A ss c v ((Hrow.out.below (hB6'.trans (hBv.mono hB6'.size))).more (hB6'.trans (hBv.mono hB6'.size)).size) h12 ((hBv.cell (p := ⟨w.heap.size, 0, none⟩) (World.block_lt_of_cell? _ _ hx6)).trans hx6)
          have hcf := contains_func 21 #[.pointer (some ⟨w.heap.size, 0, none⟩)] (enters_of Tryz.func21 (by kernel_rfl) rfl) (fun t => !(hasB ss t)) A6 (kids s L) c6 w6 hR6.out (by omega) htl
          have hkf := kids_full ss s L
          rw [← HFk.out] at hkf
          generalize ((kids s L).any fun t => !(hasB ss t)) = r at hcf hkf
          replace hcf := Lib.hid hcf
          have HO6 := Lib.hid (And.intro (own_below hO.out.1 hB6) (And.intro ((hB6.cell (p := ⟨w3.heap.size, 0, none⟩) hzk).trans hO.out.2.1) (And.intro ((World.frozen?_of_block (a := ⟨w3.heap.size, 0, none⟩) (hB6.block w3.heap.size hzk)).trans hO.out.2.2.1) (And.intro hx6 hB6'))))
          have hzz6 := hB6.size
          replace hkl := Lib.hid hkl
          clear ho6 hB6 htl hx6 hB6' hO c1 hgl
          go_wp2_with fail
          refine hcf.out.mono ?_
          rintro e w7 ⟨rfl, hB7⟩
          have hz6 : w3.heap.size < w6.heap.size := World.block_lt_of_cell? _ _ HO6.out.2.1
          have hy7 := (hB7.cell (p := ⟨w3.heap.size, 0, none⟩) hz6).trans HO6.out.2.1
          have hf7 := (World.frozen?_of_block (a := ⟨w3.heap.size, 0, none⟩) (hB7.block w3.heap.size hz6)).trans HO6.out.2.2.1
          have hx7 := (hB7.cell (p := ⟨w.heap.size, 0, none⟩) (World.block_lt_of_cell? _ _ HO6.out.2.2.2.1)).trans HO6.out.2.2.2.1
          have hB7' := HO6.out.2.2.2.2.trans (hB7.mono HO6.out.2.2.2.2.size)
          have HO7 := Lib.hid (And.intro (own_below HO6.out.1 hB7) (And.intro hy7 (And.intro hf7 (And.intro hx7 hB7'))))
          clear hx7 hB7' hB7 HO6 hcf
          cases r
          · have Hs2 := Lib.hid (show lastTo (fullW ss) I (k + 1) = s by rw [Hs.out, ← hkf]; rfl)
            have a7 := own_setCell HO7.out.1 ⟨w3.heap.size, 0, none⟩ (.string s) (fun e => by have h1 := (HO7.out.1.lt _ e).1; exact absurd (show w4.heap.size ≤ w3.heap.size from h1) (by omega))
            have b7 : (w7.setCell ⟨w3.heap.size, 0, none⟩ (.string s)).cell? ⟨w3.heap.size, 0, none⟩ = some (.string s) := World.cell?_setCell_same' _ _ _ (by rw [hy7]; rfl)
            have d7 : (w7.setCell ⟨w3.heap.size, 0, none⟩ (.string s)).frozen? ⟨w3.heap.size, 0, none⟩ = false := by rw [World.frozen?_setCell]; exact hf7
            have e7 : (w7.setCell ⟨w3.heap.size, 0, none⟩ (.string s)).cell? ⟨w.heap.size, 0, none⟩ = some (.slice A ss.length c) := (World.cell?_setCell_other _ _ _ _ (by intro e; simp only [Addr.mk.injEq] at e; omega)).trans HO7.out.2.2.2.1
            have g7 := HO7.out.2.2.2.2.setCell (p := ⟨w3.heap.size, 0, none⟩) (show w.heap.size ≤ w3.heap.size by omega) (.string s)
            have H7 := Lib.hid (And.intro a7 (And.intro b7 (And.intro d7 (And.intro e7 g7))))
            clear a7 b7 d7 e7 g7 hkf Hs
            go_wp2
            go_roundw
            case rel => exact ⟨k + 1, by omega, by go_num, H7.out.1, by rw [Hs2.out]; exact H7.out.2.1, H7.out.2.2.1, H7.out.2.2.2.1, H7.out.2.2.2.2⟩
            case measure => simp [intOf]; omega
          · have Hs2 := Lib.hid (show lastTo (fullW ss) I (k + 1) = lastTo (fullW ss) I k by rw [Hs.out, ← hkf]; rfl)
            clear hkf Hs hy7 hf7
            go_wp2
            go_roundw
            case rel => exact ⟨k + 1, by omega, by go_num, HO7.out.1, by rw [Hs2.out]; exact HO7.out.2.1, HO7.out.2.2.1, HO7.out.2.2.2.1, HO7.out.2.2.2.2⟩
            case measure => simp [intOf]; omega
        · obtain rfl : k = I.length := by omega
          rw [HX.out] at hO
          generalize hxx : shX ss = x at hO
          have Hxx := Lib.hid hxx
          clear hxx
          have hy := hO.out.2.1
          by_cases hx0 : 0 < x.size
          · have hne : (x.toList == []) = false := by
              rw [Lib.toList_data]
              cases hxl : x.data.toList with
              | nil => rw [Lib.size_eq, hxl] at hx0; exact absurd hx0 (Nat.lt_irrefl 0)
              | cons a r => rfl
            have hx := hO.out.2.2.2.1
            have hfull := shX_full (ss := ss) (by rw [Hxx.out]; exact hx0)
            have hfit := sh_fit Hq.out.1 (by rw [Hxx.out]; exact hx0)
            rw [Hxx.out] at hfit
            have hok : shOk ss = true := by unfold shOk shAsk; rw [Hq.out.1, Hq.out.2, Hxx.out, decide_eq_true hx0]; rfl
            have Hfin := Lib.hid (And.intro hok (show shOf ss = fitOf (keepW ss x ++ [x]) by rw [shOf_yes hok, Hxx.out]; unfold fitOf; rw [hfit]; rfl))
            have hfit := Lib.hid hfit
            have hne0 : 0 < ss.length := Nat.lt_of_le_of_lt (Nat.zero_le _) (keep_less hfull)
            have hkl := keepW_len ss x
            obtain ⟨b, off, rfl, hb, hh⟩ := Hrow.out (by rw [strs_length]; omega)
            have hcl := Lib.hid (Tryz.slices_Clone_string b off ss.length c ss wk (Nat.le_refl _) (by omega) (fun j hj => (hO.out.2.2.2.2.cell (p := ⟨b, off + j, none⟩) hb).trans (hh j _ (by
              rw [strs, List.getElem?_map, List.getElem?_eq_getElem hj, List.getD_eq_getElem?_getD, List.getElem?_eq_getElem hj]
              rfl))))
            clear hh hfull hok
            go_wp2_with fail
            refine hcl.out.mono ?_
            rintro e w8 ⟨v, rfl, ho8, hn8, hB8⟩
            rw [List.take_length] at ho8
            obtain ⟨A8, c8, rfl⟩ := own_slice ho8
            obtain ⟨g8, rfl, hg8, hgl8⟩ := own_form ho8 hne0
            have hy8 := (hB8.cell (p := ⟨w3.heap.size, 0, none⟩) hzk).trans hy
            have hde := Lib.hid (delete_own g8 c8 wk.heap.size ss w3.heap.size x w8 ho8 h12 (by omega) hy8)
            have HB8 := Lib.hid (hO.out.2.2.2.2.trans (hB8.mono hO.out.2.2.2.2.size))
            have hz38 : w3.heap.size < w8.heap.size := World.block_lt_of_cell? _ _ hy8
            have hzk8 := hB8.size
            clear ho8 hn8 hB8 hcl hx hy
            go_wp2_with fail
            refine hde.out.mono ?_
            rintro e w9 ⟨rfl, ho9, hg9⟩
            have hy9 := (World.cell?_of_block (a := ⟨w3.heap.size, 0, none⟩) (hg9.block w3.heap.size hz38 (fun e => by injection e; omega))).trans hy8
            have hB9 := HB8.out.grown hg9 (Nat.le_trans (by omega) hzk8) (fun g hg => by injection hg with hg; omega)
            have hz9 : w3.heap.size < w9.heap.size := World.block_lt_of_cell? _ _ hy9
            have hz89 := hg9.size
            have HO9 := Lib.hid (And.intro ho9 hB9)
            have hlt9 := Lib.hid ho9.lt
            clear ho9 hg9 hB9 hde hy8
            generalize hkk : keepW ss x = kp at HO9 hlt9 hkl Hfin hfit
            have Hkk := Lib.hid hkk
            clear hkk
            have ho10 := Lib.hid (HO9.out.1.alloc (.cells #[.string x] 9))
            have hcap8 := own_cap HO9.out.1
            go_wp2_with (at_builtin; refine wpList_append_own _ rfl _ _ 22 rfl wk.heap.size 9 i0 (.string ByteArray.empty) 1 16 Tryz.underlying22 HR.out.1 HR.out.2.1 HR.out.2.2.1 HR.out.2.2.2 rfl (by decide) _ _ _ rfl ho10.out ⟨w9.heap.size, 0, none⟩ 1 1 [.string x] rfl rfl (cell_one_new _ _ _) (one_text _) (by unfold maxLen; omega) (by omega) (by simp; omega) ?_)
            intro v' w11 hown' hgrow _
            have HF11 := Lib.hid (And.intro hown' ((HO9.out.2.alloc HO9.out.2.size (.cells #[.string x] 9)).grown hgrow (by have := HO9.out.2.size; simp; omega) (fun g hg => by have h1 := (hlt9.out g hg).1; have := hO.out.2.2.2.2.size; omega)))
            clear hown' hgrow hy9
            obtain ⟨A11, c11, rfl⟩ := own_slice HF11.out.1
            have hsf := impl_setOfFitting A11 (kp ++ [x]) c11 w11 (by
              have := Row.of_own HF11.out.1
              rw [strs_snoc]
              exact this) (by rw [List.length_append]; simp; omega)
            rw [List.length_append] at hsf
            have hsf := Lib.hid hsf
            generalize kp ++ [x] = L2 at hsf Hfin hfit
            go_wp2_with fail
            refine hsf.out.mono ?_
            rintro e w12 ⟨A12, c12, rfl, ho12, hB12⟩
            have HO12 := Lib.hid (And.intro (own_base ho12 HF11.out.2.size) (HF11.out.2.trans (hB12.mono HF11.out.2.size)))
            clear ho12 hB12
            go_wp2_with fail
            go_ret2
            rw [Hfin.out.1, Hfin.out.2, hfit.out]
            exact okStrs_of HO12.out.1 rfl HO12.out.2
          · have hno : shOk ss = false := by unfold shOk; rw [Hxx.out, decide_eq_false hx0]; simp
            have Hno := Lib.hid (And.intro hno (shOf_no hno))
            have hx1 : x = ⟨#[]⟩ := data_inj (by
              have hz : x.size = 0 := by omega
              rw [Lib.size_eq] at hz
              rw [List.eq_nil_of_length_eq_zero hz])
            subst hx1
            clear hno
            go_wp2_with fail
            go_ret2
            rw [Hno.out.1, Hno.out.2]
            exact okStrs_nil _ _ _ hO.out.2.2.2.2
end Go.Proofs.YtojcnalgjeojdaaGreatDoor
