/-
  WHAT THIS FILE PROVES: first prefix sets and room that is left: the specification's functions give what the plain ones say; asked: slices in memory, lengths that an int holds.
-/
import Derived.Test.YtelfchoeielmhaaGreatDoorKrE
import Derived.Test.YtelfchoeielmhaaGreatDoorTxS
namespace Go.Proofs.YtelfchoeielmhaaGreatDoor
open Go.RowKit Go.Shelf


theorem took_le {L : Nat} {z : List Int} (hf : W.shares L z ≤ L ^ 8) (h3 : L ≤ 3) (i : Nat) : took L z i ≤ 6561 :=
  Nat.le_trans (W.shares_take_le L z i) (Nat.le_trans hf (W.whole_le L h3))
theorem part_one (L : Nat) (h2 : 2 ≤ L) (a : Int) : 1 ≤ W.part L a := W.part_pos L h2 a
theorem le_mul_pos {a b : Nat} (h : 1 ≤ b) : a ≤ a * b := Nat.le_mul_of_pos_right a h
/-- one step of the numbers -/
structure Stepped (L : Nat) (z : List Int) (i : Nat) (nx : Nat) (bf : Int) : Prop where
  mul : nx * W.part L bf = took L z i
  lo : 0 ≤ bf
  hi : bf ≤ 8
  up : i < z.length → bf ≤ z.getD i 0
theorem Stepped.next {L : Nat} {z : List Int} {i nx : Nat} {bf : Int} (h : Stepped L z i nx bf) {K : Int} (hk : W.krList z K = true) (h2 : 2 ≤ L) (hi : i < z.length) :
    nx * L ^ (z.getD i 0 - bf).toNat = numAt L z i ∧ Stepped L z (i + 1) (numAt L z i + 1) (z.getD i 0) := by
  have hz := W.lenAll_at (W.krList_parts hk).2.2.1 i hi
  rw [← getD_at z i hi] at hz
  have hm := next_mul L h2 (took L z i) nx bf (z.getD i 0) h.lo (h.up hi) hz.2 h.mul
  refine ⟨hm.2, ?_, by omega, hz.2, fun h' => list_up hk i h'⟩
  unfold numAt
  rw [← hm.2, Nat.add_mul, Nat.one_mul, hm.1, took_succ L z i hi, getD_at z i hi]
theorem numAt_le {L : Nat} {z : List Int} {i : Nat} : numAt L z i ≤ took L z i := Nat.div_le_self _ _
set_option maxHeartbeats 1600000 in
theorem spec_FirstPrefixCode (A : Option Addr) (z : List Int) (c : Nat) (L : Int) (w : World) (h : Row w w.heap.size A (ints z)) (hl : z.length ≤ 9223372036854775807) :
    Calls Tryz.prog 17 #[.slice A z.length c, .int .i64 L] w (OkStrs w (fpOf z L) (cbOf z L)) := by
  have hc := spec_krList A z c L w h hl
  cases hq : W.krList z L
  · rw [fpOf_no (cbOf_no hq), cbOf_no hq]
    rw [hq] at hc
    replace hc := Lib.hid hc
    clear h hq
    go_enter Tryz.func17, Tryz.ntmps17
    go_wp2_with (go_at_call 27; refine hc.out.mono ?_; rintro e w' ⟨rfl, n, rfl⟩)
    go_ret2
    exact okStrs_nil _ _ _ (below_drewN (Below.refl _ _) _)
  · rw [hq] at hc
    replace hc := Lib.hid hc
    obtain ⟨hlt, h12, hall, _⟩ := W.krList_parts hq
    obtain ⟨m, rfl, hm2, hm3⟩ := let_nat hlt
    have hf := fun (u : World) (g : Row u u.heap.size A (ints z)) => spec_krFits A z c m u g h12 hall hm2 hm3
    have hcb := cbOf_yes hq
    cases hft : fits m z
    · have hno : cbOf z m = false := hcb.trans hft
      rw [fpOf_no hno, hno]
      rw [hft] at hf
      replace hf := Lib.hid hf
      replace h := Lib.hid h
      clear hq hlt hall hcb hft hno
      go_enter Tryz.func17, Tryz.ntmps17
      go_wp2_with (go_at_call 27; refine hc.out.mono ?_; rintro e w' ⟨rfl, n, rfl⟩)
      have hB := Lib.hid (below_drewN (Below.refl w.heap.size w) n)
      have hs1 := Lib.hid (hf.out (w.drewN n) ((h.out.below hB.out).more hB.out.size))
      go_wp2_with (go_at_call 28; refine hs1.out.mono ?_; rintro e w' ⟨rfl, rfl⟩)
      go_ret2
      exact okStrs_nil _ _ _ hB.out
    · have hyes : cbOf z m = true := hcb.trans hft
      rw [fpOf_yes hyes, hyes, Int.toNat_natCast]
      have hfit : W.shares m z ≤ m ^ 8 := of_decide_eq_true hft
      have Htk := Lib.hid (took_le hfit hm3)
      have Hnx := Lib.hid (fun i nx bf (hs : Stepped m z i nx bf) hi => hs.next hq hm2 hi)
      have Hz := Lib.hid (fun i (hi : i < z.length) => by
        have := W.lenAll_at hall i hi
        rw [← getD_at z i hi] at this
        exact this)
      rw [hft] at hf
      replace hf := Lib.hid hf
      replace h := Lib.hid h
      obtain ⟨i0, hi, hz0, hz1, hz2⟩ := info_parts infoStr
      have HR := Lib.hid (And.intro hi (And.intro hz0 (And.intro hz1 hz2)))
      clear hq hlt hall hcb hft hyes hi hz0 hz1 hz2 hfit
      go_enter Tryz.func17, Tryz.ntmps17
      go_wp2_with (go_at_call 27; refine hc.out.mono ?_; rintro e w' ⟨rfl, n, rfl⟩)
      have hB := Lib.hid (below_drewN (Below.refl w.heap.size w) n)
      have hs1 := Lib.hid (hf.out (w.drewN n) ((h.out.below hB.out).more hB.out.size))
      go_wp2_with (go_at_call 28; refine hs1.out.mono ?_; rintro e w' ⟨rfl, rfl⟩)
      go_loopw [6, 7, 8, 23] (fun v nv bv iv wr => ∃ (i nx : Nat) (bf : Int), i ≤ z.length ∧ iv = .int .i64 i ∧ nv = .int .i64 nx ∧ bv = .int .i64 bf ∧ Hid (Stepped m z i nx bf) ∧ wr.ownsRow w.heap.size 9 1 v i (strs (fpTo m z i)) ∧ Below w.heap.size w wr) (fun _ _ _ iv _ => z.length - (intOf iv).toNat)
      case atStart => exact ⟨0, 0, 0, Nat.zero_le _, rfl, rfl, rfl, ⟨by simp [took, W.shares], Int.le_refl _, by omega, fun hi => by have := Hz.out 0 hi; omega⟩, World.ownsRow_nil _ _ _ _, hB.out⟩
      case round =>
        clear hs1 hc hf
        obtain ⟨i, nx, bf, hi, rfl, rfl, rfl, hst, ho, hBr⟩ := hrel
        have hO := Lib.hid (And.intro ho hBr)
        have hszr := hBr.size
        clear ho hBr
        by_cases hlti : i < z.length
        · obtain ⟨b, off, rfl, hb, hcc⟩ := Row.int_at h.out (by omega)
          have hlt' : (i : Int) < (z.length : Int) := by omega
          have c1 := (hO.out.2.cell (p := ⟨b, off + i, none⟩) hb).trans (hcc i hlti)
          rw [← getD_at z i hlti] at c1
          clear hcc
          have hzi := Hz.out i hlti
          have hn := Hnx.out i nx bf hst.out hlti
          have hup := hst.out.up hlti
          have hlo := hst.out.lo
          have hmul := hst.out.mul
          have htk := Htk.out i
          have hnum : numAt m z i ≤ took m z i := numAt_le
          have hnxle : nx ≤ nx * W.part m bf := le_mul_pos (part_one m hm2 bf)
          have hfs := Lib.hid (fpTo_succ m z i)
          have hwa : wordAt m z i = txtB m (numAt m z i) (z.getD i 0).toNat := rfl
          rw [hwa] at hfs
          clear hwa
          have hpw := fun u => spec_krPower m (z.getD i 0 - bf).toNat u (pow_small m _ hm3 (by omega)) (by omega)
          have hpb := pow_small m (z.getD i 0 - bf).toNat hm3 (by omega) _ (Nat.le_refl _)
          have htx := fun u => spec_krText (numAt m z i) (z.getD i 0).toNat m u hm2 hm3 (by omega) (by omega)
          have htl := txtB_size m (numAt m z i) (z.getD i 0).toNat
          have hn1 := hn.1
          have hn2 := Lib.hid hn.2
          have hnn : numAt m z i ≤ 6561 := Nat.le_trans hnum htk
          have hnx6 : nx ≤ 6561 := Nat.le_trans hnxle (by rw [hmul]; exact htk)
          have hmw := mul_wrap nx (m ^ (z.getD i 0 - bf).toNat) (by rw [hn1]; exact Nat.le_trans hnn (by decide))
          rw [hn1] at hmw
          clear hn hmul hnxle hnum htk hn1 htl
          generalize m ^ (z.getD i 0 - bf).toNat = pw at hpw hpb hmw
          generalize numAt m z i = q at *
          generalize z.getD i 0 = l at *
          have hl1 := hzi.1
          have hl8 := hzi.2
          rw [show (((l - bf).toNat : Nat) : Int) = l - bf by omega] at hpw
          rw [show ((l.toNat : Nat) : Int) = l by omega] at htx
          generalize txtB m q l.toNat = s at htx hfs
          replace hpw := Lib.hid hpw
          replace htx := Lib.hid htx
          replace hmw := Lib.hid hmw
          go_wp2_with (go_at_call 25; refine (hpw.out _).mono ?_; rintro e w' ⟨rfl, rfl⟩)
          rw [hmw.out]
          refine (htx.out _).mono ?_
          rintro e w' ⟨rfl, rfl⟩
          go_wp2_with (at_builtin; refine wpList_append_own _ rfl _ _ 23 rfl w.heap.size 9 i0 (.string ByteArray.empty) 1 16 Tryz.underlying23 HR.out.1 HR.out.2.1 HR.out.2.2.1 HR.out.2.2.2 rfl (by decide) _ _ _ rfl (hO.out.1.alloc _) ⟨wr.heap.size, 0, none⟩ 1 1 [.string s] rfl rfl (cell_one_new _ _ _) (one_text _) (by unfold maxLen; omega) (by omega) (by simp; omega) ?_)
          intro v' w3 hown' hgrow _
          have hO2 := Lib.hid (And.intro hown' hgrow)
          clear hown' hgrow
          go_wp2
          go_roundw
          case rel =>
            refine ⟨i + 1, q + 1, l, by omega, by go_num, by go_num, rfl, hn2.out, ?_, ?_⟩
            · rw [hfs.out, strs_snoc]
              exact hO2.out.1
            · have hlt := hO.out.1.lt
              exact (hO.out.2.alloc hszr _).grown hO2.out.2 (by simp; omega) (fun g hg => (hlt g hg).1)
          case measure => simp [intOf]; omega
        · obtain rfl : i = z.length := by omega
          go_wp2
          go_ret2
          exact okStrs_of (by rw [fpTo_length]; exact hO.out.1) rfl hO.out.2

theorem take_up {z : List Int} {L n : Int} (hk : W.krList z L = true) (k : Nat) (h : ∀ j (hj : j < z.length), j < k → z[j] ≤ n) : ∀ l ∈ z.take k, 1 ≤ l ∧ l ≤ n := fun l hl => by
  obtain ⟨j, hj, rfl⟩ := List.mem_iff_getElem.1 hl
  rw [List.length_take] at hj
  rw [List.getElem_take]
  exact ⟨(W.lenAll_at (W.krList_parts hk).2.2.1 j (by omega)).1, h j (by omega) (by omega)⟩
end Go.Proofs.YtelfchoeielmhaaGreatDoor
