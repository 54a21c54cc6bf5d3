/-
  WHAT THIS FILE PROVES: a set read by a code: the program's functions give the plain set; asked: slices of texts in memory, lengths that an int holds and no more than the capacities.
-/
import Derived.Test.YtbdhgeefeelflaaGreatDoorFac
import Derived.Test.YtbdhgeefeelflaaGreatDoorIsCode
import Derived.Test.YtbdhgeefeelflaaGreatDoorKrI
import Derived.Maps.AppendAt
import Derived.OwnWalk
import Derived.BigQuiet
import Derived.Laws.IdiomStrings
import Derived.Lib.UnsafeStr
namespace Go.Proofs.YtbdhgeefeelflaaGreatDoor
open Go.RowKit Go.Shelf

/-- the bytes when the first j are laid -/
def fcM (r : List Int) (j : Nat) : List UInt8 := fcL (r.take j) ++ List.replicate (r.length - j) 0
theorem fcM_zero (r : List Int) : fcM r 0 = List.replicate r.length 0 := rfl
theorem fcM_all (r : List Int) : fcM r r.length = fcL r := by simp [fcM]
theorem fcL_len (r : List Int) : (fcL r).length = r.length := by simp [fcL]
theorem fcM_len (r : List Int) (j : Nat) (h : j ≤ r.length) : (fcM r j).length = r.length := by
  unfold fcM fcL
  simp
  omega
theorem fcM_set (r : List Int) (j : Nat) (h : j < r.length) : (fcM r j).set j (fcC r[j]) = fcM r (j + 1) := by
  have hl : (fcL (r.take j)).length = j := by rw [fcL_len, List.length_take]; omega
  unfold fcM
  rw [List.set_append_right _ _ (by rw [hl]; exact Nat.le_refl _), hl, Nat.sub_self, show r.length - j = (r.length - (j + 1)) + 1 by omega, List.replicate_succ, List.set_cons_zero, List.take_succ_eq_append_getElem h]
  have e : fcL (r.take j ++ [r[j]]) = fcL (r.take j) ++ [fcC r[j]] := by unfold fcL; rw [List.map_append]; rfl
  rw [e, List.append_assoc]
  rfl
theorem byteCells_set (l : List UInt8) (j : Nat) (b : UInt8) : (Lib.byteCells l).set j (.int .u8 (b.toNat : Int)) = Lib.byteCells (l.set j b) := by
  unfold Lib.byteCells
  rw [List.map_set]
theorem byteCells_at (l : List UInt8) (j : Nat) (h : j < l.length) : (Lib.byteCells l)[j]? = some (.int .u8 (l[j].toNat : Int)) := by
  unfold Lib.byteCells
  rw [List.getElem?_map, List.getElem?_eq_getElem h]
  rfl
theorem fc_byte (m : Nat) (h : m < 3) : ((⟨#[97, 98, 99]⟩ : ByteArray)[m]'h).toNat = (fcC (m : Int)).toNat := by
  match m, h with
  | 0, _ => rfl
  | 1, _ => rfl
  | 2, _ => rfl
theorem infoB : (Tryz.prog.info? 5).map (fun i => (i.zero, i.size, i.bytes)) = some (some (.int .u8 0), 1, 1) := by kernel_rfl

set_option maxHeartbeats 3200000 in
set_option maxRecDepth 100000 in
theorem impl_asLetters (A : Option Addr) (r : List Int) (c : Nat) (w : World) (h : Row w w.heap.size A (ints r)) (h8 : r.length ≤ 8) (he : ∀ k (hk : k < r.length), 0 ≤ r[k] ∧ r[k] < 3) :
    Calls Tryz.prog 21 #[.slice A r.length c] w fun e w' => e = .returned (.string (fcB r)) ∧ Below w.heap.size w w' := by
  have hmk := fun w => run_make_row' (P := Tryz.prog) 59 5 (.int .u8 0) 1 Tryz.underlying59 infoB rfl .i64 .i64 r.length (by omega) (by omega) w
  have hown0 : (w.alloc (.cells (madeCells #[.int .u8 0] r.length) 5)).ownsRow w.heap.size 5 1 (.slice (some ⟨w.heap.size, 0, none⟩) r.length r.length) r.length (Lib.byteCells (fcM r 0)) := by
    have := World.ownsRow_lit (base := w.heap.size) (e := 5) (size := 1) w (madeCells #[.int .u8 0] r.length) r.length (Nat.le_refl _) (by unfold maxLen; omega) (by rw [size_madeCells]; omega)
    rw [toList_madeCells_one] at this
    rw [fcM_zero]
    simpa [Lib.byteCells] using this
  replace hown0 := Lib.hid hown0
  replace h := Lib.hid h
  replace he := Lib.hid he
  have hl1 : (r.length : Int) ≤ 8 := by omega
  go_enter Tryz.func21, Tryz.ntmps21
  go_wp2
  go_loopw [11] (fun i wr => ∃ k : Nat, k ≤ r.length ∧ i = .int .i64 k ∧
      wr.ownsRow w.heap.size 5 1 (.slice (some ⟨w.heap.size, 0, none⟩) r.length r.length) r.length (Lib.byteCells (fcM r k)) ∧ Below w.heap.size w wr) (fun i _ => r.length - (intOf i).toNat)
  case atStart => exact ⟨0, Nat.zero_le _, rfl, hown0.out, (Below.refl _ _).alloc (Nat.le_refl _) _⟩
  case round =>
    obtain ⟨k, hk, rfl, ho, hB⟩ := hrel
    by_cases hlt : k < r.length
    · have hlt' : (k : Int) < (r.length : Int) := by omega
      obtain ⟨b, off, rfl, hb, hc⟩ := h.out (by rw [ints_length]; omega)
      have c0 := (hB.cell (p := ⟨b, off + k, none⟩) hb).trans (hc k _ (ints_at r k hlt))
      clear hc
      have c1 := ho.cellAt k (by omega)
      rw [byteCells_at _ k (by rw [fcM_len r k hk]; exact hlt)] at c1
      generalize (fcM r k)[k]'(by rw [fcM_len r k hk]; exact hlt) = old at c1
      have hf := ho.frozenAt k
      have hel := he.out k hlt
      have hst := ho.stored k (.int .u8 ((fcC r[k]).toNat : Int))
      rw [byteCells_set, fcM_set r k hlt] at hst
      generalize r[k] = i0 at c0 hel hst
      obtain ⟨m, rfl⟩ := Int.eq_ofNat_of_zero_le hel.1
      have hm3 : m < 3 := by omega
      have hm3' : (m : Int) < 3 := hel.2
      have hm0 : (0 : Int) ≤ (m : Int) := hel.1
      have hab := fc_byte m hm3
      generalize fcC (m : Int) = x at hab hst
      replace hst := Lib.hid hst
      have hO := Lib.hid hB
      clear ho hB hown0
      go_wp2
      go_roundw
      case rel => exact ⟨k + 1, by omega, by go_num, hst.out.1, hO.out.grown hst.out.2 hO.out.size (fun g hg => by injection hg with hg; omega)⟩
      case measure => simp [intOf]; omega
    · obtain rfl : k = r.length := by omega
      rw [fcM_all] at ho
      have hcv := run_convert_bytes_back (P := Tryz.prog) wr 59 9 5 ⟨w.heap.size, 0, none⟩ r.length (fcL r) Tryz.underlying59 Tryz.underlying5 Tryz.underlying9 (fun j hj => by
        rw [addr_at, Nat.zero_add, ho.cellAt _ (by rw [← fcL_len r]; omega), byteCells_at _ _ hj])
      rw [fcL_len] at hcv
      have HB := Lib.hid hB
      clear ho hB hown0
      go_wp2
      go_ret
      exact ⟨rfl, HB.out⟩
set_option maxHeartbeats 6400000 in
set_option maxRecDepth 100000 in
theorem impl_FactorOver (A : Option Addr) (ss : List ByteArray) (c : Nat) (A' : Option Addr) (bs : List ByteArray) (c' : Nat) (w : World) (h : Row w w.heap.size A (strs ss)) (_hcap : ss.length ≤ c) (hl : ss.length ≤ 9223372036854775807) (hs : ∀ s ∈ ss, s.size ≤ 9223372036854775807)
    (h' : Row w w.heap.size A' (strs bs)) (_hcap' : bs.length ≤ c') (hl' : bs.length ≤ 9223372036854775807) (hs' : ∀ s ∈ bs, s.size ≤ 9223372036854775807) :
    Calls Tryz.prog 7 #[.slice A ss.length c, .slice A' bs.length c'] w (OkStrs w (fcOf ss bs) (fcOk ss bs)) := by
  have hI := impl_IsSet A ss c w h hl hs
  have hI' := fun (u : World) (hB : Below w.heap.size w u) => impl_IsSet A' bs c' u ((h'.below hB).more hB.size) hl' hs'
  cases hq : W.isSet ss
  · obtain ⟨e1, e2⟩ := fc_no (show fcAsk ss bs = false by unfold fcAsk; rw [hq]; rfl)
    rw [e2, e1]
    rw [hq] at hI
    replace hI := Lib.hid hI
    clear h hs hq e1 e2 h' hs' hI'
    go_enter Tryz.func7, Tryz.ntmps7
    go_wp2_with fail
    refine hI.out.mono ?_
    rintro e w1 ⟨rfl, hB⟩
    go_wp2_with fail
    go_ret2
    exact okStrs_nil _ _ _ hB
  · rw [hq] at hI
    replace hI := Lib.hid hI
    cases hby : W.isSet bs
    · obtain ⟨e1, e2⟩ := fc_no (show fcAsk ss bs = false by unfold fcAsk; rw [hby]; simp)
      rw [e2, e1]
      rw [hby] at hI'
      replace hI' := Lib.hid hI'
      clear h hs hq e1 e2 h' hs' hby
      go_enter Tryz.func7, Tryz.ntmps7
      go_wp2_with fail
      refine hI.out.mono ?_
      rintro e w1 ⟨rfl, hB⟩
      have hI1 := Lib.hid (hI'.out w1 hB)
      go_wp2_with fail
      refine hI1.out.mono ?_
      rintro e w2 ⟨rfl, hB2⟩
      replace hB2 := hB.trans (hB2.mono hB.size)
      go_wp2_with fail
      go_ret2
      exact okStrs_nil _ _ _ hB2
    · rw [hby] at hI'
      replace hI' := Lib.hid hI'
      have hk := fun u => impl_areLetters (bs.length : Int) u
      cases hlt : W.krLet (bs.length : Int)
      · obtain ⟨e1, e2⟩ := fc_no (show fcAsk ss bs = false by unfold fcAsk; rw [hlt]; simp)
        rw [e2, e1]
        rw [hlt] at hk
        replace hk := Lib.hid hk
        clear h hs hq e1 e2 h' hs' hby hlt
        go_enter Tryz.func7, Tryz.ntmps7
        go_wp2_with fail
        refine hI.out.mono ?_
        rintro e w1 ⟨rfl, hB⟩
        have hI1 := Lib.hid (hI'.out w1 hB)
        go_wp2_with fail
        refine hI1.out.mono ?_
        rintro e w2 ⟨rfl, hB2⟩
        replace hB2 := hB.trans (hB2.mono hB.size)
        go_wp2_with fail
        refine (hk.out _).mono ?_
        rintro e w3 ⟨rfl, rfl⟩
        go_wp2_with fail
        go_ret2
        exact okStrs_nil _ _ _ hB2
      · have h3 : bs.length ≤ 3 := by
          have := hlt
          unfold W.krLet at this
          simp at this
          omega
        rw [hlt] at hk
        replace hk := Lib.hid hk
        have hcd := fun (u : World) (hB : Below w.heap.size w u) => impl_isCode A' bs c' u ((h'.below hB).more hB.size) hby
        cases hcq : isCd bs
        · obtain ⟨e1, e2⟩ := fc_no (show fcAsk ss bs = false by unfold fcAsk; rw [hcq]; simp)
          rw [e2, e1]
          rw [hcq] at hcd
          replace hcd := Lib.hid hcd
          clear h hs hq e1 e2 h' hs' hby hlt hcq
          go_enter Tryz.func7, Tryz.ntmps7
          go_wp2_with fail
          refine hI.out.mono ?_
          rintro e w1 ⟨rfl, hB⟩
          have hI1 := Lib.hid (hI'.out w1 hB)
          go_wp2_with fail
          refine hI1.out.mono ?_
          rintro e w2 ⟨rfl, hB2⟩
          replace hB2 := hB.trans (hB2.mono hB.size)
          go_wp2_with fail
          refine (hk.out _).mono ?_
          rintro e w3 ⟨rfl, rfl⟩
          have hcd2 := Lib.hid (hcd.out _ hB2)
          go_wp2_with fail
          refine hcd2.out.mono ?_
          rintro e w3 ⟨rfl, hB3⟩
          replace hB3 := hB2.trans (hB3.mono hB2.size)
          go_wp2_with fail
          go_ret2
          exact okStrs_nil _ _ _ hB3
        · rw [hcq] at hcd
          replace hcd := Lib.hid hcd
          have hask : fcAsk ss bs = true := by unfold fcAsk; rw [hq, hby, hlt, hcq]; rfl
          have h12 := W.isSet_len ss hq
          have Hsh := Lib.hid (fun k hk => W.isSet_short ss hq k hk)
          have Hrow := Lib.hid h
          have Hask := Lib.hid hask
          have Hel := Lib.hid (fun s => rd_el (bs := bs) (s := s) h3)
          have hrd := Lib.hid (fun (s : ByteArray) (u : World) (hB : Below w.heap.size w u) (hs : W.short s = true) => impl_ReadWord A' bs c' s u ((h'.below hB).more hB.size) hl' hs' (by have := (W.short_size s hs).2; omega))
          have hfl := Lib.hid (fcAll_len ss bs)
          obtain ⟨i0, hi, hz0, hz1, hz2⟩ := info_parts infoStr
          have HR := Lib.hid (And.intro hi (And.intro hz0 (And.intro hz1 hz2)))
          clear h hs hq h' hs' hby hlt hcq hask hi hz0 hz1 hz2
          go_enter Tryz.func7, Tryz.ntmps7
          go_wp2_with fail
          refine hI.out.mono ?_
          rintro e w1 ⟨rfl, hB⟩
          have hI1 := Lib.hid (hI'.out w1 hB)
          go_wp2_with fail
          refine hI1.out.mono ?_
          rintro e w2 ⟨rfl, hB2⟩
          replace hB2 := hB.trans (hB2.mono hB.size)
          go_wp2_with fail
          refine (hk.out _).mono ?_
          rintro e w3 ⟨rfl, rfl⟩
          have hcd2 := Lib.hid (hcd.out _ hB2)
          go_wp2_with fail
          refine hcd2.out.mono ?_
          rintro e w3 ⟨rfl, hB3⟩
          have HB3 := Lib.hid (hB2.trans (hB3.mono hB2.size))
          clear hB hB2 hB3 hI1 hcd2
          go_wp2_with (at_make; refine wpList_make_own _ rfl _ _ 22 rfl w.heap.size 9 i0 (.string ByteArray.empty) 1 Tryz.underlying22 HR.out.1 HR.out.2.1 HR.out.2.2.1 _ _ _ ss.length rfl rfl rfl ?b1 ?b2 ?b3 ?_)
          case b1 => rw [HR.out.2.2.2]; omega
          case b2 => unfold maxLen; omega
          case b3 => exact HB3.out.size
          intro w4 hown1 hgrow1
          have hB4 : Below w.heap.size w w4 := HB3.out.grown hgrow1 HB3.out.size (fun g hg => by cases hg)
          replace hown1 := Lib.hid (And.intro hown1 hB4)
          clear hgrow1 hB4 HB3
          go_wp2
          go_loopw [6, 35] (fun v i wr => ∃ (k : Nat) (acc : List ByteArray), acc = (fcAll ss bs).take k ∧ k ≤ ss.length ∧ i = .int .i64 k ∧ Hid (∀ j, j < k → rdOk bs (W.nth ss j) = true) ∧ wr.ownsRow w.heap.size 9 1 v acc.length (strs acc) ∧ Below w.heap.size w wr)
            (fun _ i _ => ss.length - (intOf i).toNat)
          case atStart => exact ⟨0, [], rfl, Nat.zero_le _, rfl, fun j hj => absurd hj (Nat.not_lt_zero _), hown1.out.1, hown1.out.2⟩
          case round =>
            clear hown1
            obtain ⟨k, acc, hacc, hk, rfl, hT, ho, hB⟩ := hrel
            obtain ⟨Ar, cr, rfl⟩ := own_slice ho
            have hO := Lib.hid (And.intro ho hB)
            have hol : acc.length ≤ 12 := by rw [hacc, List.length_take]; omega
            clear ho hB
            by_cases hlt : k < ss.length
            · obtain ⟨b, off, rfl, hb1, hcc⟩ := Hrow.out (by rw [strs_length]; omega)
              have hlt' : (k : Int) < (ss.length : Int) := by omega
              have c1 := (hO.out.2.cell (p := ⟨b, off + k, none⟩) hb1).trans (hcc k _ (strs_nth ss k hlt))
              clear hcc
              have hp1 := hrd.out (W.nth ss k) wr hO.out.2 (Hsh.out k hlt)
              have Hs := Lib.hid (show (fcAll ss bs).take (k + 1) = acc ++ [fc1 bs (W.nth ss k)] by rw [hacc, fcAll_succ ss bs k hlt])
              have Hmm := Lib.hid (show W.nth ss k ∈ ss by rw [W.nth_lt ss k hlt]; exact List.getElem_mem hlt)
              have HT2 := Lib.hid (show rdOk bs (W.nth ss k) = true → ∀ j, j < k + 1 → rdOk bs (W.nth ss j) = true from fun e j hj => by
                by_cases e2 : j = k
                · subst e2; exact e
                · exact hT.out j (by omega))
              have hsh := Hsh.out k hlt
              clear hacc
              generalize W.nth ss k = s at c1 hp1 Hs Hmm HT2 hsh
              have hr8 := rd_len8 (bs := bs) hsh
              cases hkw : rdOk bs s
              · obtain ⟨e1, e2⟩ := fc_unread Hmm.out hkw
                have Hno := Lib.hid (And.intro e1 e2)
                rw [hkw] at hp1
                replace hp1 := Lib.hid hp1
                clear e1 e2 hkw hsh hr8
                go_wp2_with fail
                refine hp1.out.mono ?_
                rintro e w' ⟨A2, c2, rfl, ho2, hB2⟩
                have HB2 := Lib.hid (hO.out.2.trans (hB2.mono hO.out.2.size))
                clear ho2 hB2
                go_wp2_with fail
                go_ret2
                rw [Hno.out.1, Hno.out.2]
                exact okStrs_nil _ _ _ HB2.out
              · rw [hkw] at hp1
                replace hp1 := Lib.hid hp1
                have HT3 := Lib.hid (HT2.out hkw)
                have hel := Lib.hid (Hel.out s hkw)
                unfold fc1 at Hs
                clear HT2 hkw hsh hT
                generalize rdOf bs s = r at hp1 Hs hel hr8
                go_wp2_with fail
                refine hp1.out.mono ?_
                rintro e w5 ⟨A2, c2, rfl, ho2, hB2⟩
                have HB2 := Lib.hid (And.intro (own_below hO.out.1 hB2) (hO.out.2.trans (hB2.mono hO.out.2.size)))
                have hal := Lib.hid (impl_asLetters A2 r c2 w5 (Row.of_own ho2) hr8 hel.out)
                clear ho2 hB2 hO
                generalize fcB r = y at hal Hs
                go_wp2_with fail
                refine hal.out.mono ?_
                rintro e w6 ⟨rfl, hB6⟩
                have hO1 := Lib.hid (And.intro (own_below HB2.out.1 hB6) (HB2.out.2.trans (hB6.mono HB2.out.2.size)))
                clear hB6 HB2
                go_wp2_with (at_builtin; refine wpList_append_own _ rfl _ _ 22 rfl w.heap.size 9 i0 (.string ByteArray.empty) 1 16 Tryz.underlying22 HR.out.1 HR.out.2.1 HR.out.2.2.1 HR.out.2.2.2 rfl (by decide) _ _ _ rfl (hO1.out.1.alloc _) ⟨w6.heap.size, 0, none⟩ 1 1 [.string y] rfl rfl ?c1 ?c2 ?c3 ?c4 ?c5 ?_)
                case c1 => exact cell_one_new _ _ _
                case c2 => exact one_text _
                case c3 => unfold maxLen; omega
                case c4 => omega
                case c5 => have := hO1.out.2.size; simp; omega
                intro v' w7 hown' hgrow _
                have hO2 := Lib.hid (And.intro hown' hgrow)
                clear hown' hgrow
                go_wp2
                go_roundw
                case rel =>
                  refine ⟨k + 1, acc ++ [y], Hs.out.symm, by omega, by go_num, HT3.out, ?_, ?_⟩
                  · rw [strs_snoc, List.length_append]
                    exact hO2.out.1
                  · have hlt := hO1.out.1.lt
                    exact (hO1.out.2.alloc hO1.out.2.size _).grown hO2.out.2 (by have := hO1.out.2.size; simp; omega) (fun g hg => (hlt g hg).1)
                case measure => simp [intOf]; omega
            · obtain rfl : k = ss.length := by omega
              rw [List.take_of_length_le (by rw [hfl.out]; exact Nat.le_refl _)] at hacc
              obtain ⟨e1, e2⟩ := fc_fit Hask.out hT.out
              rw [← hacc] at e1 e2
              have Hfin := Lib.hid (And.intro e1 e2)
              have Hif := Lib.hid (impl_setOfFitting Ar acc cr wr (Row.of_own hO.out.1) (by omega))
              have HB := Lib.hid hO.out.2
              clear hO hacc e1 e2 hT
              go_wp2_with fail
              refine Hif.out.mono ?_
              rintro e w8 ⟨A8, c8, rfl, ho8, hB8⟩
              have HO8 := Lib.hid (And.intro (own_base ho8 HB.out.size) (HB.out.trans (hB8.mono HB.out.size)))
              clear ho8 hB8
              go_wp2
              go_ret2
              rw [Hfin.out.1, Hfin.out.2]
              exact okStrs_of HO8.out.1 rfl HO8.out.2
end Go.Proofs.YtbdhgeefeelflaaGreatDoor
