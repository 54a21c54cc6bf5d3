/-
  WHAT THIS FILE PROVES: the words of ordered lengths: the program's function gives the plain ones; asked: a slice in memory, a length that an int holds.
-/
import Derived.Test.YtopjhelpoigjbaaOlI
namespace Go.Proofs.Ytopjhelpoigjbaa
open Go.RowKit Go.Shelf

/-- the words when the first k are laid -/
def olM (ls : List Int) (k : Nat) : List ByteArray := W.olT ls k ++ List.replicate (ls.length - k) ByteArray.empty
theorem olM_length (ls : List Int) (k : Nat) (h : k ≤ ls.length) : (olM ls k).length = ls.length := by
  unfold olM
  rw [List.length_append, W.olT_length, List.length_replicate]
  omega
theorem olM_zero (ls : List Int) : olM ls 0 = List.replicate ls.length ByteArray.empty := rfl
theorem olM_all (ls : List Int) : olM ls ls.length = W.olT ls ls.length := by simp [olM]
theorem olM_set (ls : List Int) (k : Nat) (h : k < ls.length) : (olM ls k).set k (W.olW ls k) = olM ls (k + 1) := by
  unfold olM
  rw [List.set_append_right _ _ (by rw [W.olT_length]; exact Nat.le_refl _), W.olT_length, Nat.sub_self, show ls.length - k = (ls.length - (k + 1)) + 1 by omega, List.replicate_succ, List.set_cons_zero, W.olT_succ, List.append_assoc]
  rfl
theorem strs_setB (xs : List ByteArray) (j : Nat) (x : ByteArray) : (strs xs).set j (.string x) = strs (xs.set j x) := by
  unfold strs
  rw [List.map_set]
theorem strs_atB (xs : List ByteArray) (k : Nat) (h : k < xs.length) : (strs xs)[k]? = some (.string xs[k]) := by
  unfold strs
  rw [List.getElem?_map, List.getElem?_eq_getElem h]
  rfl
set_option maxHeartbeats 6400000 in
theorem impl_OrderedWords (A : Option Addr) (ls : List Int) (c : Nat) (w : World) (h : Row w w.heap.size A (ints ls)) (hl : ls.length ≤ 9223372036854775807) :
    Calls Try.prog 18 #[.slice A ls.length c] w (OkStrs w (W.olO ls) (W.olB ls)) := by
  have hc := impl_areDeepLengths A ls c w h hl
  cases hq : W.beN 11 ls
  · have hno : W.olB ls = false := by unfold W.olB; rw [hq]; rfl
    rw [W.olO_no hno, hno]
    rw [hq] at hc
    replace hc := Lib.hid hc
    clear h hq hno
    go_enter Try.func18, Try.ntmps18
    go_wp2_with fail
    refine hc.out.mono ?_
    rintro e w1 ⟨rfl, hB⟩
    replace hB := Lib.hid hB
    go_wp2
    go_ret2
    exact okStrs_nil _ _ _ hB.out
  · obtain ⟨hl12, hla⟩ := W.beN_parts hq
    rw [hq] at hc
    replace hc := Lib.hid hc
    have ho := fun (u : World) (hu : Below w.heap.size w u) => impl_orderedPlaces A ls c u ((h.below hu).more hu.size) hla hl12.2
    cases hr : W.isOl ls
    · have hno : W.olB ls = false := by unfold W.olB; rw [hr, Bool.and_false]
      rw [W.olO_no hno, hno]
      rw [hr] at ho
      replace ho := Lib.hid ho
      clear h hq hno hr hla
      go_enter Try.func18, Try.ntmps18
      go_wp2_with fail
      refine hc.out.mono ?_
      rintro e w1 ⟨rfl, hB⟩
      have ho1 := Lib.hid (ho.out w1 hB)
      replace hB := Lib.hid hB
      go_wp2_with fail
      refine ho1.out.mono ?_
      rintro e w2 ⟨A', c', rfl, _, hB2⟩
      have hB3 := Lib.hid (hB.out.trans (hB2.mono hB.out.size))
      clear hB2
      go_wp2
      go_ret2
      exact okStrs_nil _ _ _ hB3.out
    · have hyes : W.olB ls = true := by unfold W.olB; rw [hq, hr]; rfl
      rw [W.olO_yes hyes, hyes]
      rw [hr, show W.olPl ls ls.length = W.olPl ls ls.length from rfl] at ho
      have Hpa := Lib.hid (fun k (hk : k < ls.length) => W.olPl_at ls ls.length k hk)
      have Hpn := Lib.hid (W.olPl_length ls ls.length)
      have Hl := Lib.hid (fun k (hk : k < ls.length) => W.all_at hla k hk)
      have Hpb := Lib.hid (fun k (hk : k < ls.length) => show W.olP ls k ≤ 1000000 by
        have h1 := W.olE_le hla (k + 1) hk
        rw [W.olE_succ ls k hk] at h1
        omega)
      have Hww := Lib.hid (fun k (hk : k < ls.length) => show W.olW ls k = txtB 2 (W.olP ls k / W.partD 2 ls[k]) (ls[k]).toNat by unfold W.olW; rw [W.getD_lt ls k hk])
      have Hset := Lib.hid (fun k (hk : k < ls.length) => olM_set ls k hk)
      have Hml := Lib.hid (fun k (hk : k ≤ ls.length) => olM_length ls k hk)
      have Hall := Lib.hid (olM_all ls)
      have HtL := Lib.hid (W.olT_length ls ls.length)
      have Hz := Lib.hid (olM_zero ls)
      obtain ⟨i0, hi, hz0, hz1, hz2⟩ := info_parts infoStr
      have HR := Lib.hid (And.intro hi (And.intro hz0 (And.intro hz1 hz2)))
      replace ho := Lib.hid ho
      have H := Lib.hid h
      clear h hq hyes hr hla hi hz0 hz1 hz2
      go_enter Try.func18, Try.ntmps18
      go_wp2_with fail
      refine hc.out.mono ?_
      rintro e w1 ⟨rfl, hB⟩
      have ho1 := Lib.hid (ho.out w1 hB)
      replace hB := Lib.hid hB
      go_wp2_with fail
      refine ho1.out.mono ?_
      rintro e w2 ⟨A', c', rfl, hown, hB2⟩
      have hB3 := Lib.hid (hB.out.trans (hB2.mono hB.out.size))
      have HOw := Lib.hid (Row.of_own hown)
      have hsz12 := hB.out.size
      have hsz23 := hB2.size
      rw [Hpn.out]
      clear hB2 hown
      go_wp2_with (at_make; refine wpList_make_full _ rfl _ _ 32 rfl w.heap.size 9 i0 (.string ByteArray.empty) 1 Try.underlying32 HR.out.1 HR.out.2.1 HR.out.2.2.1 _ _ _ _ ls.length rfl rfl rfl rfl ?b1 ?b2 ?b3 ?_)
      case b1 => rw [HR.out.2.2.2]; omega
      case b2 => unfold maxLen; omega
      case b3 => omega
      intro w3 hown3 hgrow3
      rw [toList_madeCells_one] at hown3
      have hO0 := Lib.hid (show w3.ownsRow w.heap.size 9 1 (.slice (some ⟨w2.heap.size, 0, none⟩) ls.length ls.length) ls.length (strs (olM ls 0)) by
        rw [Hz.out]
        unfold strs
        rw [List.map_replicate]
        exact hown3)
      have hB4 := Lib.hid (hB3.out.grown hgrow3 (by omega) (fun g hg => by cases hg))
      have hOw3 := Lib.hid (HOw.out.kept hgrow3 (Nat.le_refl _) (fun g hg => by cases hg))
      have hH3 := Lib.hid (H.out.below hB4.out)
      have hsz34 := hgrow3.size
      clear hown3 hgrow3
      go_wp2_with fail
      go_loopw [24] (fun i wr => ∃ k : Nat, k ≤ ls.length ∧ i = .int .i64 k ∧ wr.ownsRow w.heap.size 9 1 (.slice (some ⟨w2.heap.size, 0, none⟩) ls.length ls.length) ls.length (strs (olM ls k)) ∧ Below w.heap.size w wr ∧ w3.heap.size ≤ wr.heap.size ∧ Row wr w2.heap.size A' (ints (W.olPl ls ls.length))) (fun i _ => ls.length - (intOf i).toNat)
      case atStart => exact ⟨0, Nat.zero_le _, rfl, hO0.out, hB4.out, Nat.le_refl _, hOw3.out⟩
      case round =>
        obtain ⟨k, hk, rfl, hoR, hBr, hsz3r, hPr⟩ := hrel
        by_cases hlt : k < ls.length
        · obtain ⟨b, off, rfl, hb, hcc⟩ := Row.int_at H.out (by omega)
          obtain ⟨b', off', rfl, hb', hcc'⟩ := Row.int_at hPr (by rw [Hpn.out]; omega)
          have hlt' : (k : Int) < (ls.length : Int) := by omega
          have c1 := (hBr.cell (p := ⟨b, off + k, none⟩) hb).trans (hcc k hlt)
          have c2 := hcc' k (by rw [Hpn.out]; exact hlt)
          rw [Hpa.out k hlt] at c2
          have c3 := hoR.cellAt k (by omega)
          rw [strs_atB _ k (by rw [Hml.out k hk]; exact hlt)] at c3
          have hat := Lib.hid (strs_atB (olM ls k) k (by rw [Hml.out k hk]; exact hlt))
          generalize (olM ls k)[k]'(by rw [Hml.out k hk]; exact hlt) = old at c3 hat
          have hf := hoR.frozenAt k
          have hset := Hset.out k hlt
          have hl := Hl.out k hlt
          have hPb := Hpb.out k hlt
          have hww := Hww.out k hlt
          generalize W.olW ls k = x at hset hww
          generalize ls[k] = l at c1 hl hww
          generalize W.olP ls k = P at c2 hPb hww
          have hwb := fun u => impl_wordBehind P 2 l u hPb (by omega) (by omega) hl.1 hl.2
          rw [← hww] at hwb
          have hO := Lib.hid (And.intro hoR (And.intro hBr hPr))
          have hszr := hBr.size
          replace hset := Lib.hid hset
          replace hwb := Lib.hid hwb
          clear hoR hBr hPr hcc hcc' hww
          go_wp2_with fail
          refine (hwb.out _).mono ?_
          rintro e w5 ⟨rfl, hB5⟩
          have hO5 := Lib.hid (And.intro (own_below hO.out.1 hB5) (And.intro (hO.out.2.1.trans (hB5.mono hszr)) (hO.out.2.2.below (hB5.mono (by omega)))))
          have hsz5 := hB5.size
          clear hB5
          have c3' := hO5.out.1.cellAt k (by omega)
          rw [hat.out] at c3'
          have hf' := hO5.out.1.frozenAt k
          have hst0 := hO5.out.1.stored k (.string x)
          rw [strs_setB, hset.out] at hst0
          have hst := Lib.hid hst0
          clear hst0 c3 hf hset
          go_wp2
          go_roundw
          case rel => exact ⟨k + 1, by omega, by go_num, hst.out.1, hO5.out.2.1.grown hst.out.2 (by omega) (fun g hg => by injection hg with hg; omega), Nat.le_trans (by omega) hst.out.2.size, hO5.out.2.2.kept hst.out.2 (by omega) (fun g hg => by injection hg with hg; omega)⟩
          case measure => simp [intOf]; omega
        · obtain rfl : k = ls.length := by omega
          rw [Hall.out] at hoR
          have hO := Lib.hid (And.intro hoR hBr)
          clear hoR hBr hPr
          go_wp2_with fail
          go_ret2
          exact okStrs_of (by rw [HtL.out]; exact hO.out.1) rfl hO.out.2
end Go.Proofs.Ytopjhelpoigjbaa
