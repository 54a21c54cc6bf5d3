/-
  WHAT THIS FILE PROVES: first prefix sets and room that is left: the specification's functions give what the plain ones say; asked: slices in memory, lengths that an int holds.
-/
import Derived.Test.YtampgpekhjhciaaDoorKrE
import Derived.Test.YtampgpekhjhciaaDoorTxS
namespace Go.Proofs.YtampgpekhjhciaaDoor
open Go.RowKit Go.Shelf


theorem took_le {L : Nat} {z : List Int} (hf : W.shares L z ≤ L ^ 8) (h3 : L ≤ 3) (i : Nat) : took L z i ≤ 6561 :=
  Nat.le_trans (W.shares_take_le L z i) (Nat.le_trans hf (W.whole_le L h3))
theorem part_one (L : Nat) (h2 : 2 ≤ L) (a : Int) : 1 ≤ W.part L a := W.part_pos L h2 a
theorem le_mul_pos {a b : Nat} (h : 1 ≤ b) : a ≤ a * b := Nat.le_mul_of_pos_right a h
/-- one step of the numbers -/
structure Stepped (L : Nat) (z : List Int) (i : Nat) (nx : Nat) (bf : Int) : Prop where
  mul : nx * W.part L bf = took L z i
  lo : 0 ≤ bf
  hi : bf ≤ 8
  up : i < z.length → bf ≤ z.getD i 0
theorem Stepped.next {L : Nat} {z : List Int} {i nx : Nat} {bf : Int} (h : Stepped L z i nx bf) {K : Int} (hk : W.krList z K = true) (h2 : 2 ≤ L) (hi : i < z.length) :
    nx * L ^ (z.getD i 0 - bf).toNat = numAt L z i ∧ Stepped L z (i + 1) (numAt L z i + 1) (z.getD i 0) := by
  have hz := W.lenAll_at (W.krList_parts hk).2.2.1 i hi
  rw [← getD_at z i hi] at hz
  have hm := next_mul L h2 (took L z i) nx bf (z.getD i 0) h.lo (h.up hi) hz.2 h.mul
  refine ⟨hm.2, ?_, by omega, hz.2, fun h' => list_up hk i h'⟩
  unfold numAt
  rw [← hm.2, Nat.add_mul, Nat.one_mul, hm.1, took_succ L z i hi, getD_at z i hi]
theorem numAt_le {L : Nat} {z : List Int} {i : Nat} : numAt L z i ≤ took L z i := Nat.div_le_self _ _
set_option maxHeartbeats 1600000 in
theorem spec_FirstPrefixCode (A : Option Addr) (z : List Int) (c : Nat) (L : Int) (w : World) (h : Row w w.heap.size A (ints z)) (hl : z.length ≤ 9223372036854775807) :
    Calls Tryd.prog 22 #[.slice A z.length c, .int .i64 L] w (OkStrs w (fpOf z L) (cbOf z L)) := by
  have hc := spec_krList A z c L w h hl
  cases hq : W.krList z L
  · rw [fpOf_no (cbOf_no hq), cbOf_no hq]
    rw [hq] at hc
    replace hc := Lib.hid hc
    clear h hq
    go_enter Tryd.func22, Tryd.ntmps22
    go_wp2_with (go_at_call 37; refine hc.out.mono ?_; rintro e w' ⟨rfl, n, rfl⟩)
    go_ret2
    exact okStrs_nil _ _ _ (below_drewN (Below.refl _ _) _)
  · rw [hq] at hc
    replace hc := Lib.hid hc
    obtain ⟨hlt, h12, hall, _⟩ := W.krList_parts hq
    obtain ⟨m, rfl, hm2, hm3⟩ := let_nat hlt
    have hf := fun (u : World) (g : Row u u.heap.size A (ints z)) => spec_krFits A z c m u g h12 hall hm2 hm3
    have hcb := cbOf_yes hq
    cases hft : fits m z
    · have hno : cbOf z m = false := hcb.trans hft
      rw [fpOf_no hno, hno]
      rw [hft] at hf
      replace hf := Lib.hid hf
      replace h := Lib.hid h
      clear hq hlt hall hcb hft hno
      go_enter Tryd.func22, Tryd.ntmps22
      go_wp2_with (go_at_call 37; refine hc.out.mono ?_; rintro e w' ⟨rfl, n, rfl⟩)
      have hB := Lib.hid (below_drewN (Below.refl w.heap.size w) n)
      have hs1 := Lib.hid (hf.out (w.drewN n) ((h.out.below hB.out).more hB.out.size))
      go_wp2_with (go_at_call 38; refine hs1.out.mono ?_; rintro e w' ⟨rfl, rfl⟩)
      go_ret2
      exact okStrs_nil _ _ _ hB.out
    · have hyes : cbOf z m = true := hcb.trans hft
      rw [fpOf_yes hyes, hyes, Int.toNat_natCast]
      have hfit : W.shares m z ≤ m ^ 8 := of_decide_eq_true hft
      have Htk := Lib.hid (took_le hfit hm3)
      have Hnx := Lib.hid (fun i nx bf (hs : Stepped m z i nx bf) hi => hs.next hq hm2 hi)
      have Hz := Lib.hid (fun i (hi : i < z.length) => by
        have := W.lenAll_at hall i hi
        rw [← getD_at z i hi] at this
        exact this)
      rw [hft] at hf
      replace hf := Lib.hid hf
      replace h := Lib.hid h
      obtain ⟨i0, hi, hz0, hz1, hz2⟩ := info_parts infoStr
      have HR := Lib.hid (And.intro hi (And.intro hz0 (And.intro hz1 hz2)))
      clear hq hlt hall hcb hft hyes hi hz0 hz1 hz2 hfit
      go_enter Tryd.func22, Tryd.ntmps22
      go_wp2_with (go_at_call 37; refine hc.out.mono ?_; rintro e w' ⟨rfl, n, rfl⟩)
      have hB := Lib.hid (below_drewN (Below.refl w.heap.size w) n)
      have hs1 := Lib.hid (hf.out (w.drewN n) ((h.out.below hB.out).more hB.out.size))
      go_wp2_with (go_at_call 38; refine hs1.out.mono ?_; rintro e w' ⟨rfl, rfl⟩)
      go_loopw [6, 7, 8, 23] (fun v nv bv iv wr => ∃ (i nx : Nat) (bf : Int), i ≤ z.length ∧ iv = .int .i64 i ∧ nv = .int .i64 nx ∧ bv = .int .i64 bf ∧ Hid (Stepped m z i nx bf) ∧ wr.ownsRow w.heap.size 9 1 v i (strs (fpTo m z i)) ∧ Below w.heap.size w wr) (fun _ _ _ iv _ => z.length - (intOf iv).toNat)
      case atStart => exact ⟨0, 0, 0, Nat.zero_le _, rfl, rfl, rfl, ⟨by simp [took, W.shares], Int.le_refl _, by omega, fun hi => by have := Hz.out 0 hi; omega⟩, World.ownsRow_nil _ _ _ _, hB.out⟩
      case round =>
        clear hs1 hc hf
        obtain ⟨i, nx, bf, hi, rfl, rfl, rfl, hst, ho, hBr⟩ := hrel
        have hO := Lib.hid (And.intro ho hBr)
        have hszr := hBr.size
        clear ho hBr
        by_cases hlti : i < z.length
        · obtain ⟨b, off, rfl, hb, hcc⟩ := Row.int_at h.out (by omega)
          have hlt' : (i : Int) < (z.length : Int) := by omega
          have c1 := (hO.out.2.cell (p := ⟨b, off + i, none⟩) hb).trans (hcc i hlti)
          rw [← getD_at z i hlti] at c1
          clear hcc
          have hzi := Hz.out i hlti
          have hn := Hnx.out i nx bf hst.out hlti
          have hup := hst.out.up hlti
          have hlo := hst.out.lo
          have hmul := hst.out.mul
          have htk := Htk.out i
          have hnum : numAt m z i ≤ took m z i := numAt_le
          have hnxle : nx ≤ nx * W.part m bf := le_mul_pos (part_one m hm2 bf)
          have hfs := Lib.hid (fpTo_succ m z i)
          have hwa : wordAt m z i = txtB m (numAt m z i) (z.getD i 0).toNat := rfl
          rw [hwa] at hfs
          clear hwa
          have hpw := fun u => spec_krPower m (z.getD i 0 - bf).toNat u (pow_small m _ hm3 (by omega)) (by omega)
          have hpb := pow_small m (z.getD i 0 - bf).toNat hm3 (by omega) _ (Nat.le_refl _)
          have htx := fun u => spec_krText (numAt m z i) (z.getD i 0).toNat m u hm2 hm3 (by omega) (by omega)
          have htl := txtB_size m (numAt m z i) (z.getD i 0).toNat
          have hn1 := hn.1
          have hn2 := Lib.hid hn.2
          have hnn : numAt m z i ≤ 6561 := Nat.le_trans hnum htk
          have hnx6 : nx ≤ 6561 := Nat.le_trans hnxle (by rw [hmul]; exact htk)
          have hmw := mul_wrap nx (m ^ (z.getD i 0 - bf).toNat) (by rw [hn1]; exact Nat.le_trans hnn (by decide))
          rw [hn1] at hmw
          clear hn hmul hnxle hnum htk hn1 htl
          generalize m ^ (z.getD i 0 - bf).toNat = pw at hpw hpb hmw
          generalize numAt m z i = q at *
          generalize z.getD i 0 = l at *
          have hl1 := hzi.1
          have hl8 := hzi.2
          rw [show (((l - bf).toNat : Nat) : Int) = l - bf by omega] at hpw
          rw [show ((l.toNat : Nat) : Int) = l by omega] at htx
          generalize txtB m q l.toNat = s at htx hfs
          replace hpw := Lib.hid hpw
          replace htx := Lib.hid htx
          replace hmw := Lib.hid hmw
          go_wp2_with (go_at_call 40; refine (hpw.out _).mono ?_; rintro e w' ⟨rfl, rfl⟩)
          rw [hmw.out]
          refine (htx.out _).mono ?_
          rintro e w' ⟨rfl, rfl⟩
          go_wp2_with (at_builtin; refine wpList_append_own _ rfl _ _ 22 rfl w.heap.size 9 i0 (.string ByteArray.empty) 1 16 Tryd.underlying22 HR.out.1 HR.out.2.1 HR.out.2.2.1 HR.out.2.2.2 rfl (by decide) _ _ _ rfl (hO.out.1.alloc _) ⟨wr.heap.size, 0, none⟩ 1 1 [.string s] rfl rfl (cell_one_new _ _ _) (one_text _) (by unfold maxLen; omega) (by omega) (by simp; omega) ?_)
          intro v' w3 hown' hgrow _
          have hO2 := Lib.hid (And.intro hown' hgrow)
          clear hown' hgrow
          go_wp2
          go_roundw
          case rel =>
            refine ⟨i + 1, q + 1, l, by omega, by go_num, by go_num, rfl, hn2.out, ?_, ?_⟩
            · rw [hfs.out, strs_snoc]
              exact hO2.out.1
            · have hlt := hO.out.1.lt
              exact (hO.out.2.alloc hszr _).grown hO2.out.2 (by simp; omega) (fun g hg => (hlt g hg).1)
          case measure => simp [intOf]; omega
        · obtain rfl : i = z.length := by omega
          go_wp2
          go_ret2
          exact okStrs_of (by rw [fpTo_length]; exact hO.out.1) rfl hO.out.2

theorem take_up {z : List Int} {L n : Int} (hk : W.krList z L = true) (k : Nat) (h : ∀ j (hj : j < z.length), j < k → z[j] ≤ n) : ∀ l ∈ z.take k, 1 ≤ l ∧ l ≤ n := fun l hl => by
  obtain ⟨j, hj, rfl⟩ := List.mem_iff_getElem.1 hl
  rw [List.length_take] at hj
  rw [List.getElem_take]
  exact ⟨(W.lenAll_at (W.krList_parts hk).2.2.1 j (by omega)).1, h j (by omega) (by omega)⟩
set_option maxHeartbeats 1600000 in
theorem spec_RoomLeft (A : Option Addr) (z : List Int) (c : Nat) (L n : Int) (w : World) (h : Row w w.heap.size A (ints z)) (hl : z.length ≤ 9223372036854775807) :
    Calls Tryd.prog 27 #[.slice A z.length c, .int .i64 L, .int .i64 n] w fun e w' => e = .returned (.tuple #[.int .i64 ((rmOf z L n : Nat) : Int), .bool (rmOk z L n)]) ∧ Below w.heap.size w w' := by
  have hc := spec_krList A z c L w h hl
  cases hq : W.krList z L
  · have hno : rmOk z L n = false := by unfold rmOk; rw [cbOf_no hq]; rfl
    rw [rmOf_no hno, hno]
    rw [hq] at hc
    replace hc := Lib.hid hc
    clear h hq hno
    go_enter Tryd.func27, Tryd.ntmps27
    go_wp2_with (go_at_call 37; refine hc.out.mono ?_; rintro e w' ⟨rfl, n, rfl⟩)
    go_ret2
    exact ⟨rfl, below_drewN (Below.refl _ _) _⟩
  · rw [hq] at hc
    replace hc := Lib.hid hc
    obtain ⟨hlt, h12, hall, _⟩ := W.krList_parts hq
    obtain ⟨m, rfl, hm2, hm3⟩ := let_nat hlt
    have hf := fun (u : World) (g : Row u u.heap.size A (ints z)) => spec_krFits A z c m u g h12 hall hm2 hm3
    have hcb := cbOf_yes hq
    cases hft : fits m z
    · have hno : rmOk z m n = false := by unfold rmOk; rw [hcb, show decide (W.shares m z ≤ m ^ 8) = false from hft]; rfl
      rw [rmOf_no hno, hno]
      rw [hft] at hf
      replace hf := Lib.hid hf
      replace h := Lib.hid h
      clear hq hlt hall hcb hft hno
      go_enter Tryd.func27, Tryd.ntmps27
      go_wp2_with (go_at_call 37; refine hc.out.mono ?_; rintro e w' ⟨rfl, n, rfl⟩)
      have hB := Lib.hid (below_drewN (Below.refl w.heap.size w) n)
      have hs1 := Lib.hid (hf.out (w.drewN n) ((h.out.below hB.out).more hB.out.size))
      go_wp2_with (go_at_call 38; refine hs1.out.mono ?_; rintro e w' ⟨rfl, rfl⟩)
      go_ret2
      exact ⟨rfl, hB.out⟩
    · have hcy : cbOf z m = true := hcb.trans hft
      have hfit : W.shares m z ≤ m ^ 8 := of_decide_eq_true hft
      have hin := fun u => spec_l1In n 1 8 u
      rw [hft] at hf
      replace hf := Lib.hid hf
      by_cases hn18 : 1 ≤ n ∧ n ≤ 8
      · rw [decide_eq_true hn18] at hin
        replace hin := Lib.hid hin
        have hre : rmOk z m n = allUpTo z n := by unfold rmOk; rw [hcy, decide_eq_true hn18]; rfl
        have hn1 := hn18.1
        have hn8 := hn18.2
        have Hsu := Lib.hid (fun k (hk : k < z.length) => sub_succ m n z k hk)
        have Hle := Lib.hid (fun k (hk : ∀ j (hj : j < z.length), j < k → z[j] ≤ n) => sub_le m hm2 n hn1 hn8 (z.take k) (take_up hq k hk) (Nat.le_trans (W.shares_take_le m z k) hfit))
        have Hyes := Lib.hid (fun (hk : ∀ j (hj : j < z.length), j < z.length → z[j] ≤ n) => hre.trans (allUpTo_yes fun k hk2 => hk k hk2 hk2))
        have Hno := Lib.hid (fun k (hk : k < z.length) (hg : n < z[k]) => hre.trans (allUpTo_no k hk hg))
        have Hz := Lib.hid (fun k (hk : k < z.length) => W.lenAll_at hall k hk)
        have hpn := fun u => spec_krPower m n.toNat u (pow_small m _ hm3 (by omega)) (by omega)
        have hpnb := pow_small m n.toNat hm3 (by omega) _ (Nat.le_refl _)
        have Hpw := Lib.hid (fun (l : Int) (h1 : 1 ≤ l) (u : World) => by
          have hc := spec_krPower m (n - l).toNat u (pow_small m _ hm3 (by omega)) (by omega)
          exact hc)
        rw [show ((n.toNat : Nat) : Int) = n by omega] at hpn
        obtain ⟨pn, hpq⟩ : ∃ p, p = m ^ n.toNat := ⟨_, rfl⟩
        rw [← hpq] at hpn hpnb
        replace hpq := Lib.hid hpq
        obtain ⟨R, hR⟩ : ∃ R, R = rmOf z m n := ⟨_, rfl⟩
        obtain ⟨ok, hok⟩ : ∃ ok, ok = rmOk z m n := ⟨_, rfl⟩
        rw [← hR, ← hok]
        replace hR := Lib.hid hR
        replace hok := Lib.hid hok
        replace hpn := Lib.hid hpn
        replace h := Lib.hid h
        clear hq hlt hall hcb hft hcy hfit hre
        go_enter Tryd.func27, Tryd.ntmps27
        go_wp2_with (go_at_call 37; refine hc.out.mono ?_; rintro e w' ⟨rfl, nd, rfl⟩)
        have hB := Lib.hid (below_drewN (Below.refl w.heap.size w) nd)
        have hs1 := Lib.hid (hf.out (w.drewN nd) ((h.out.below hB.out).more hB.out.size))
        go_wp2_with (first | (go_at_call 38; refine hs1.out.mono ?_; rintro e w' ⟨rfl, rfl⟩) | (go_at_call 45; refine (hin.out _).mono ?_; rintro e w' ⟨rfl, rfl⟩) | (go_at_call 40; refine (hpn.out _).mono ?_; rintro e w' ⟨rfl, rfl⟩))
        go_loop [8, 31] (fun rv iv => ∃ (k r : Nat), k ≤ z.length ∧ iv = .int .i64 k ∧ rv = .int .i64 r ∧ r ≤ pn ∧ Hid (∀ j (hj : j < z.length), j < k → z[j] ≤ n) ∧ Hid (r + sub m n (z.take k) = pn)) (fun _ iv => z.length - (intOf iv).toNat)
        case atStart => exact ⟨0, pn, Nat.zero_le _, rfl, rfl, Nat.le_refl _, fun j _ hj => absurd hj (Nat.not_lt_zero _), by show _ = _; simp [sub]⟩
        case round =>
          clear hs1 hc hf hpn hin
          obtain ⟨k, r, hk, rfl, rfl, hr, hup, hsub⟩ := hrel
          by_cases hltk : k < z.length
          · obtain ⟨b, off, rfl, hb, hcc⟩ := Row.int_at h.out (by omega)
            have hlt' : (k : Int) < (z.length : Int) := by omega
            have c1 := (hB.out.cell (p := ⟨b, off + k, none⟩) hb).trans (hcc k hltk)
            clear hcc
            have hzk := Hz.out k hltk
            have hsu := Hsu.out k hltk
            have hno := Lib.hid (Hno.out k hltk)
            have hup2 := Lib.hid (fun (e : z[k] ≤ n) => show ∀ j (hj : j < z.length), j < k + 1 → z[j] ≤ n from fun j hj hjk => by
              by_cases he : j = k
              · subst he; exact e
              · exact hup.out j hj (by omega))
            generalize z[k] = l at c1 hzk hsu hno hup2
            by_cases hg : n < l
            · have hf := hno.out hg
              obtain rfl := hok.out.trans hf
              obtain rfl := hR.out.trans (rmOf_no hf)
              clear hsu hf
              go_wp2
              go_ret2
              exact ⟨rfl, hB.out⟩
            · have hup3 := hup2.out (by omega)
              have hle := Hle.out (k + 1) hup3
              rw [hsu, ← hpq.out] at hle
              have hs0 := hsub.out
              have hpw := fun u => Hpw.out l hzk.1 u
              generalize m ^ (n - l).toNat = pw at hle hsu hpw
              generalize sub m n (z.take k) = S at hle hsu hs0
              have hpr : pw ≤ r := by omega
              have hs1 : Hid (r - pw + sub m n (z.take (k + 1)) = pn) := by show _ = _; rw [hsu]; omega
              have hup4 := Lib.hid hup3
              rw [show (((n - l).toNat : Nat) : Int) = n - l by omega] at hpw
              replace hpw := Lib.hid hpw
              clear hsu hs0 hle hup3
              go_wp2_with (go_at_call 40; refine (hpw.out _).mono ?_; rintro e w' ⟨rfl, rfl⟩)
              go_round
              case rel => exact ⟨k + 1, r - pw, by omega, by go_num, by go_num, by omega, hup4.out, hs1.out⟩
              case measure => simp [intOf]; omega
          · obtain rfl : k = z.length := by omega
            have hf := Hyes.out hup.out
            have hsv := hsub.out
            rw [List.take_length] at hsv
            have hrr : rmOf z m n = r := by
              rw [rmOf_yes hf, Int.toNat_natCast, ← hpq.out]
              omega
            obtain rfl := hok.out.trans hf
            obtain rfl := hR.out.trans hrr
            clear hsv hrr hf
            go_wp2
            go_ret2
            exact ⟨rfl, hB.out⟩
      · rw [decide_eq_false hn18] at hin
        replace hin := Lib.hid hin
        have hno : rmOk z m n = false := by unfold rmOk; rw [decide_eq_false hn18]; simp
        rw [rmOf_no hno, hno]
        replace h := Lib.hid h
        clear hq hlt hall hcb hft hno hcy hfit hn18
        go_enter Tryd.func27, Tryd.ntmps27
        go_wp2_with (go_at_call 37; refine hc.out.mono ?_; rintro e w' ⟨rfl, nd, rfl⟩)
        have hB := Lib.hid (below_drewN (Below.refl w.heap.size w) nd)
        have hs1 := Lib.hid (hf.out (w.drewN nd) ((h.out.below hB.out).more hB.out.size))
        go_wp2_with (first | (go_at_call 38; refine hs1.out.mono ?_; rintro e w' ⟨rfl, rfl⟩) | (go_at_call 45; refine (hin.out _).mono ?_; rintro e w' ⟨rfl, rfl⟩))
        go_ret2
        exact ⟨rfl, hB.out⟩
end Go.Proofs.YtampgpekhjhciaaDoor
