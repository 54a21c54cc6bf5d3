/-
  WHAT THIS FILE PROVES: ordered lengths and their words: the program's functions give the plain ones; asked: slices in memory, lengths that an int holds.
-/
import Derived.Test.YthkkneboblhmlaaOl
import Derived.Test.YthkkneboblhmlaaBeI
import Derived.Test.YthkkneboblhmlaaWb
import Derived.Test.YthkkneboblhmlaaMemS
namespace Go.Proofs.Ythkkneboblhmlaa
open Go.RowKit Go.Shelf

set_option maxHeartbeats 3200000 in
theorem impl_orderedPlaces (A : Option Addr) (ls : List Int) (c : Nat) (w : World) (h : Row w w.heap.size A (ints ls)) (h2 : ls.all (fun x => decide (1 ≤ x ∧ x ≤ 11)) = true) (h12 : ls.length ≤ 12) :
    Calls Try.prog 39 #[.slice A ls.length c] w (OkInts w (W.olPl ls ls.length) (W.isOl ls)) := by
  obtain ⟨i1, hi, hz0, hz1, hz2⟩ := info_parts infoInt
  have HI := Lib.hid (And.intro hi (And.intro hz0 (And.intro hz1 hz2)))
  have Hst := Lib.hid (fun k (hk : k < ls.length) => W.olE_succ ls k hk)
  have HP := Lib.hid (fun k (hk : k < ls.length) => W.olP_step h2 h12 k hk)
  have Hpl := Lib.hid (fun k => W.olPl_succ ls k)
  have Hlen := Lib.hid (W.olPl_length ls)
  have Hbd := Lib.hid (fun k (hk : k ≤ ls.length) => W.olE_le h2 k hk)
  have Hl := Lib.hid (fun k (hk : k < ls.length) => W.all_at h2 k hk)
  have Hdef := Lib.hid (show W.isOl ls = decide (W.olE (ls.take ls.length) ≤ 2048) by rw [List.take_length]; rfl)
  have Hpp := Lib.hid (fun (l : Int) (h1 : 1 ≤ l) (h8 : l ≤ 11) (u : World) => impl_partsOf 2 l u (by omega) h1 h8)
  have Hwh := Lib.hid (fun u => impl_wholeOf 2 u (by omega))
  have Hq := Lib.hid (fun (a d : Nat) (ha : a ≤ 1000000000) (hd : 1 ≤ d) (hd2 : d ≤ 1000000000) (u : World) => impl_quotientUp a d u ha hd hd2)
  replace h := Lib.hid h
  clear hi hz0 hz1 hz2 h2
  go_enter Try.func39, Try.ntmps39
  go_wp2
  go_loopw [4, 5, 12] (fun v ev i wr => ∃ k E : Nat, k ≤ ls.length ∧ i = .int .i64 k ∧ ev = .int .i64 E ∧ Hid (E = W.olE (ls.take k)) ∧ wr.ownsRow w.heap.size 3 1 v k (ints (W.olPl ls k)) ∧ Below w.heap.size w wr) (fun _ _ i _ => ls.length - (intOf i).toNat)
  case atStart => exact ⟨0, 0, Nat.zero_le _, rfl, rfl, rfl, World.ownsRow_nil _ _ _ _, Below.refl _ _⟩
  case round =>
    obtain ⟨k, E, hk, rfl, rfl, hE, ho, hB⟩ := hrel
    have hO := Lib.hid (And.intro ho hB)
    have hszr := hB.size
    have hEb := Hbd.out k hk
    rw [← hE.out] at hEb
    by_cases hlt : k < ls.length
    · obtain ⟨b, off, rfl, hb, hcc⟩ := Row.int_at h.out (by omega)
      have hlt' : (k : Int) < (ls.length : Int) := by omega
      have c1 := (hB.cell (p := ⟨b, off + k, none⟩) hb).trans (hcc k hlt)
      clear hcc ho hB
      have hl := Hl.out k hlt
      have hst := Hst.out k hlt
      have hpl := Hpl.out k
      have hpp := Hpp.out ls[k] hl.1 hl.2
      have hstep := HP.out k hlt
      generalize ls[k] = l at c1 hl hst hpp hstep
      generalize W.partD 2 l = p at hst hpp hstep
      generalize W.olP ls k = P at hst hpl hstep
      obtain ⟨q, hq1, hq2, hq3, hP3, hp0, hp1, hE3⟩ := hstep E p P hE.out rfl rfl
      clear hstep
      replace hst := Lib.hid hst
      replace hpl := Lib.hid hpl
      have hqq := Hq.out E p (Nat.le_trans hE3 (by decide)) hp0 (Nat.le_trans hp1 (by decide))
      rw [hq1] at hqq
      have e1 : wrap64 ((q : Int) * (p : Int)) = (P : Int) := by rw [mul_wrap q p (by rw [hq2]; exact Nat.le_trans hP3 (by decide)), hq2]
      have hPi : (P : Int) ≤ 100000 := Int.ofNat_le.2 hP3
      have hpi : (p : Int) ≤ 1024 := Int.ofNat_le.2 hp1
      have e3 : wrap64 ((P : Int) + (p : Int)) = (P : Int) + (p : Int) := IntWalk.wrap64_in _ (by clear hq1 hq2 hqq e1; omega)
      replace hpp := Lib.hid hpp
      replace hqq := Lib.hid hqq
      clear hq1 hq2
      go_wp2_with (go_at_call 53; refine (hpp.out _).mono ?_; rintro e w' ⟨rfl, rfl⟩)
      go_wp2_with (first | (go_at_call 54; refine (hqq.out _).mono ?_; rintro e w' ⟨rfl, rfl⟩) | (at_builtin; refine wpList_append_own _ rfl _ _ 22 rfl w.heap.size 3 i1 (.int .i64 0) 1 8 Try.underlying22 HI.out.1 HI.out.2.1 HI.out.2.2.1 HI.out.2.2.2 rfl (by decide) _ _ _ rfl (hO.out.1.alloc _) ⟨wr.heap.size, 0, none⟩ 1 1 [.int .i64 (P : Int)] rfl rfl (cell_one_new _ _ _) (one_cell _) (by unfold maxLen; omega) (by omega) (by simp; omega) ?_))
      intro v' w2 hown' hgrow _
      clear e1 e3
      have hlt1 := hO.out.1.lt
      have hF := Lib.hid (And.intro hown' ((hO.out.2.alloc hszr _).grown hgrow (by simp; omega) (fun g hg => (hlt1 g hg).1)))
      clear hown' hgrow hlt1
      go_wp2
      go_roundw
      case rel => exact ⟨k + 1, P + p, by omega, by go_num, by go_num, hst.out.symm, by rw [hpl.out, ints_snoc]; exact hF.out.1, hF.out.2⟩
      case measure => simp [intOf]; omega
    · obtain rfl : k = ls.length := by omega
      have hr := Lib.hid (show decide ((E : Int) ≤ 2048) = W.isOl ls by
        rw [Hdef.out, ← hE.out, Bool.eq_iff_iff, decide_eq_true_eq, decide_eq_true_eq]
        omega)
      clear ho hB
      go_wp2_with (go_at_call 55; refine (Hwh.out _).mono ?_; rintro e w' ⟨rfl, rfl⟩)
      go_ret2
      rw [← hr.out]
      exact okInts_of (by rw [Hlen.out]; exact hO.out.1) rfl hO.out.2
theorem impl_areOrdered (A : Option Addr) (ls : List Int) (c : Nat) (w : World) (h : Row w w.heap.size A (ints ls)) (h2 : ls.all (fun x => decide (1 ≤ x ∧ x ≤ 11)) = true) (h12 : ls.length ≤ 12) :
    Calls Try.prog 21 #[.slice A ls.length c] w fun e w' => e = .returned (.bool (W.isOl ls)) ∧ Below w.heap.size w w' := by
  have hc := Lib.hid (impl_orderedPlaces A ls c w h h2 h12)
  generalize W.isOl ls = r at hc ⊢
  clear h h2
  go_enter Try.func21, Try.ntmps21
  go_wp2_with fail
  refine hc.out.mono ?_
  rintro e w1 ⟨A', c', rfl, ho, hB⟩
  replace hB := Lib.hid hB
  clear ho
  go_wp2
  go_ret
  exact ⟨rfl, hB.out⟩
end Go.Proofs.Ythkkneboblhmlaa
