/-
  WHAT THIS FILE PROVES: merging, the cost of best lengths and whether lengths are best: the program's functions give the plain values; asked: slices in memory, lengths that an int holds.
-/
import Derived.Test.YtelfchoeielmhaaMrI
import Derived.Test.YtelfchoeielmhaaFitD
namespace Go.Proofs.Ytelfchoeielmhaa
open Go.RowKit Go.Shelf Go.Sort

set_option maxHeartbeats 1600000 in
theorem impl_bestCost (L : Nat) (A : Option Addr) (z : List Int) (c : Nat) (w : World) (h : Row w w.heap.size A (ints z)) (hz : W.beN 100 z = true) (h2 : 2 ≤ L) (h3 : L ≤ 3) :
    Calls Try.prog 25 #[.slice A z.length c, .int .i64 L] w fun e w' => e = .returned (.int .i64 (W.bcI L z)) ∧ Below w.heap.size w w' := by
  obtain ⟨⟨hz1, hz12⟩, _⟩ := W.beN_parts hz
  by_cases h1 : z.length = 1
  · obtain ⟨x, rfl⟩ := List.length_eq_one_iff.1 h1
    obtain ⟨b, off, rfl, hb, hcc⟩ := Row.int_at h (by simp)
    have c1 : w.cell? ⟨b, off, none⟩ = some (.int .i64 x) := hcc 0 (by simp)
    rw [show W.bcI L [x] = x from rfl, show ([x] : List Int).length = 1 from rfl]
    clear hcc h hz h1 hz1 hz12
    go_enter Try.func25, Try.ntmps25
    go_wp2
    go_ret
    exact ⟨rfl, Below.refl _ _⟩
  · have hr : W.bcI L z = (W.mgAll L z).sum := if_neg h1
    have hm := Lib.hid (impl_mergeRun L A z c w h hz h2 h3)
    have hsm := W.mgR_small (S := 1200) L 12 (W.mgT L z.length) z (W.beN_small hz)
    have hlen := W.mgR_length L 12 (W.mgT L z.length) z
    rw [show W.mgR L 12 (W.mgT L z.length) z = W.mgAll L z from rfl] at hsm hlen
    rw [hr]
    generalize W.mgAll L z = T at hm hsm hlen ⊢
    have htot := Lib.hid (fun (A' : Option Addr) (c' : Nat) (u : World) (hu : Row u u.heap.size A' (ints T)) => impl_totalOf T.length A' T c' u rfl hu (by omega) (fun x hx => by have := hsm x hx; omega))
    have h1' : ((z.length : Int) == 1) = false := beq_eq_false_iff_ne.2 (by omega)
    have h1n : (z.length == 1) = false := beq_eq_false_iff_ne.2 h1
    clear hr h hz hsm
    go_enter Try.func25, Try.ntmps25
    go_wp2_with fail
    refine hm.out.mono ?_
    rintro e w1 ⟨A', c', rfl, ho, hB⟩
    have ht1 := Lib.hid (htot.out A' c' w1 (Row.of_own ho))
    replace hB := Lib.hid hB
    clear ho
    go_wp2_with fail
    refine ht1.out.mono ?_
    rintro e w' ⟨rfl, rfl⟩
    go_wp2
    go_ret
    exact ⟨rfl, hB.out⟩
set_option maxHeartbeats 1600000 in
theorem impl_MergeRun (A : Option Addr) (z : List Int) (c : Nat) (L : Int) (w : World) (h : Row w w.heap.size A (ints z)) (hl : z.length ≤ 9223372036854775807) :
    Calls Try.prog 9 #[.slice A z.length c, .int .i64 L] w (OkInts w (W.mrOf z L) (W.mrOk z L)) := by
  have hc := impl_areWeights A z c w h hl
  cases hq : W.beN 100 z
  · have hno : W.mrOk z L = false := by unfold W.mrOk; rw [hq]; rfl
    rw [W.mrOf_no hno, hno]
    rw [hq] at hc
    replace hc := Lib.hid hc
    clear h hq hno
    go_enter Try.func9, Try.ntmps9
    go_wp2_with fail
    refine hc.out.mono ?_
    rintro e w1 ⟨rfl, hB⟩
    replace hB := Lib.hid hB
    go_wp2
    go_ret2
    exact okInts_nil _ _ _ hB.out
  · rw [hq] at hc
    replace hc := Lib.hid hc
    have hk := fun u => impl_areLetters L u
    cases hlt : W.krLet L
    · have hno : W.mrOk z L = false := by unfold W.mrOk; rw [hlt, Bool.and_false]
      rw [W.mrOf_no hno, hno]
      rw [hlt] at hk
      replace hk := Lib.hid hk
      clear h hq hno hlt
      go_enter Try.func9, Try.ntmps9
      go_wp2_with fail
      refine hc.out.mono ?_
      rintro e w1 ⟨rfl, hB⟩
      replace hB := Lib.hid hB
      go_wp2_with (go_at_call 22; refine (hk.out _).mono ?_; rintro e w' ⟨rfl, rfl⟩)
      go_ret2
      exact okInts_nil _ _ _ hB.out
    · rw [hlt] at hk
      replace hk := Lib.hid hk
      have hyes : W.mrOk z L = true := by unfold W.mrOk; rw [hq, hlt]; rfl
      obtain ⟨l, rfl, hl2, hl3⟩ := W.let_nat hlt
      rw [W.mrOf_yes hyes, hyes]
      have hm := Lib.hid (fun (u : World) (hu : Below w.heap.size w u) => impl_mergeRun l A z c u ((h.below hu).more hu.size) hq hl2 hl3)
      generalize W.mgAll l z = T at hm ⊢
      clear h hq hyes hlt
      go_enter Try.func9, Try.ntmps9
      go_wp2_with fail
      refine hc.out.mono ?_
      rintro e w1 ⟨rfl, hB⟩
      have hm1 := Lib.hid (hm.out w1 hB)
      replace hB := Lib.hid hB
      go_wp2_with (first | (go_at_call 22; refine (hk.out _).mono ?_; rintro e w' ⟨rfl, rfl⟩))
      refine hm1.out.mono ?_
      rintro e w2 ⟨A', c', rfl, ho, hB2⟩
      have hF := Lib.hid (And.intro (own_base ho hB.out.size) (hB.out.trans (hB2.mono hB.out.size)))
      clear ho hB2
      go_wp2
      go_ret2
      exact okInts_of hF.out.1 rfl hF.out.2
set_option maxHeartbeats 1600000 in
theorem impl_BestCost (A : Option Addr) (z : List Int) (c : Nat) (L : Int) (w : World) (h : Row w w.heap.size A (ints z)) (hl : z.length ≤ 9223372036854775807) :
    Calls Try.prog 14 #[.slice A z.length c, .int .i64 L] w fun e w' => e = .returned (.tuple #[.int .i64 (W.bcOf z L), .bool (W.mrOk z L)]) ∧ Below w.heap.size w w' := by
  have hc := impl_areWeights A z c w h hl
  cases hq : W.beN 100 z
  · have hno : W.mrOk z L = false := by unfold W.mrOk; rw [hq]; rfl
    rw [W.bcOf_no hno, hno]
    rw [hq] at hc
    replace hc := Lib.hid hc
    clear h hq hno
    go_enter Try.func14, Try.ntmps14
    go_wp2_with fail
    refine hc.out.mono ?_
    rintro e w1 ⟨rfl, hB⟩
    replace hB := Lib.hid hB
    go_wp2
    go_ret2
    exact ⟨rfl, hB.out⟩
  · rw [hq] at hc
    replace hc := Lib.hid hc
    have hk := fun u => impl_areLetters L u
    cases hlt : W.krLet L
    · have hno : W.mrOk z L = false := by unfold W.mrOk; rw [hlt, Bool.and_false]
      rw [W.bcOf_no hno, hno]
      rw [hlt] at hk
      replace hk := Lib.hid hk
      clear h hq hno hlt
      go_enter Try.func14, Try.ntmps14
      go_wp2_with fail
      refine hc.out.mono ?_
      rintro e w1 ⟨rfl, hB⟩
      replace hB := Lib.hid hB
      go_wp2_with (go_at_call 22; refine (hk.out _).mono ?_; rintro e w' ⟨rfl, rfl⟩)
      go_ret2
      exact ⟨rfl, hB.out⟩
    · rw [hlt] at hk
      replace hk := Lib.hid hk
      have hyes : W.mrOk z L = true := by unfold W.mrOk; rw [hq, hlt]; rfl
      obtain ⟨l, rfl, hl2, hl3⟩ := W.let_nat hlt
      rw [W.bcOf_yes hyes, hyes]
      have hm := Lib.hid (fun (u : World) (hu : Below w.heap.size w u) => impl_bestCost l A z c u ((h.below hu).more hu.size) hq hl2 hl3)
      generalize W.bcI l z = T at hm ⊢
      clear h hq hyes hlt
      go_enter Try.func14, Try.ntmps14
      go_wp2_with fail
      refine hc.out.mono ?_
      rintro e w1 ⟨rfl, hB⟩
      have hm1 := Lib.hid (hm.out w1 hB)
      replace hB := Lib.hid hB
      go_wp2_with (go_at_call 22; refine (hk.out _).mono ?_; rintro e w' ⟨rfl, rfl⟩)
      refine hm1.out.mono ?_
      rintro e w2 ⟨rfl, hB2⟩
      have hF := Lib.hid (hB.out.trans (hB2.mono hB.out.size))
      clear hB2
      go_wp2
      go_ret2
      exact ⟨rfl, hF.out⟩
set_option maxHeartbeats 3200000 in
theorem impl_AreBest (A : Option Addr) (ws : List Int) (c : Nat) (B : Option Addr) (ls : List Int) (d : Nat) (L : Int) (w : World) (h : Row w w.heap.size A (ints ws)) (hl : ws.length ≤ 9223372036854775807) (g : Row w w.heap.size B (ints ls)) (hl2 : ls.length ≤ 9223372036854775807) :
    Calls Try.prog 16 #[.slice A ws.length c, .slice B ls.length d, .int .i64 L] w fun e w' => e = .returned (.tuple #[.bool (W.abOf ws ls L), .bool (W.abOk ws ls L)]) ∧ Below w.heap.size w w' := by
  have hc := impl_CostOf A ws c B ls d w h hl g hl2
  cases hq : W.coOk ws ls
  · obtain ⟨e1, e2⟩ := W.ab_no (ws := ws) (ls := ls) (L := L) (by rw [hq]; rfl)
    rw [e1, e2]
    rw [hq] at hc
    generalize W.coOf ws ls = x at hc
    replace hc := Lib.hid hc
    clear h g hq e1 e2
    go_enter Try.func16, Try.ntmps16
    go_wp2_with fail
    refine hc.out.mono ?_
    rintro e w1 ⟨rfl, hB⟩
    replace hB := Lib.hid hB
    go_wp2
    go_ret2
    exact ⟨rfl, hB.out⟩
  · rw [hq, coOf_yes hq] at hc
    have hk := fun u => impl_areLetters L u
    cases hlt : W.krLet L
    · obtain ⟨e1, e2⟩ := W.ab_no (ws := ws) (ls := ls) (L := L) (by rw [hlt, Bool.and_false])
      rw [e1, e2]
      rw [hlt] at hk
      generalize W.costI ws ls = x at hc
      replace hc := Lib.hid hc
      replace hk := Lib.hid hk
      clear h g hq e1 e2 hlt
      go_enter Try.func16, Try.ntmps16
      go_wp2_with fail
      refine hc.out.mono ?_
      rintro e w1 ⟨rfl, hB⟩
      replace hB := Lib.hid hB
      go_wp2_with (go_at_call 22; refine (hk.out _).mono ?_; rintro e w' ⟨rfl, rfl⟩)
      go_ret2
      exact ⟨rfl, hB.out⟩
    · obtain ⟨l, rfl, hl2, hl3⟩ := W.let_nat hlt
      obtain ⟨e1, e2⟩ := W.ab_yes (ws := ws) (ls := ls) (L := l) (by rw [hq, hlt]; rfl)
      rw [e1, e2]
      rw [hlt] at hk
      replace hk := Lib.hid hk
      obtain ⟨hqw, hql, hqe⟩ := W.coOk_parts hq
      obtain ⟨hl12, hla⟩ := W.beN_parts hql
      have hf := fun (u : World) (hu : Below w.heap.size w u) => impl_fit B ls d l u ((g.below hu).more hu.size) hl12.2 hla hl2 hl3
      have hb := Lib.hid (fun (u : World) (hu : Below w.heap.size w u) => impl_bestCost l A ws c u ((h.below hu).more hu.size) hqw hl2 hl3)
      generalize W.costI ws ls = x at hc ⊢
      generalize W.bcI l ws = y at hb ⊢
      cases hft : W.fitD l ls
      · rw [hft] at hf
        rw [Bool.false_and]
        replace hf := Lib.hid hf
        replace hc := Lib.hid hc
        clear h g hq e1 e2 hlt hft hqw hql hla hqe
        go_enter Try.func16, Try.ntmps16
        go_wp2_with fail
        refine hc.out.mono ?_
        rintro e w1 ⟨rfl, hB⟩
        have hf1 := Lib.hid (hf.out w1 hB)
        replace hB := Lib.hid hB
        go_wp2_with (first | (go_at_call 22; refine (hk.out _).mono ?_; rintro e w' ⟨rfl, rfl⟩) | (go_at_call 30; refine hf1.out.mono ?_; rintro e w' ⟨rfl, rfl⟩))
        go_ret2
        exact ⟨rfl, hB.out⟩
      · rw [hft] at hf
        rw [Bool.true_and]
        replace hf := Lib.hid hf
        replace hc := Lib.hid hc
        clear h g hq e1 e2 hlt hft hqw hql hla hqe
        go_enter Try.func16, Try.ntmps16
        go_wp2_with fail
        refine hc.out.mono ?_
        rintro e w1 ⟨rfl, hB⟩
        have hf1 := Lib.hid (hf.out w1 hB)
        have hb1 := Lib.hid (hb.out w1 hB)
        replace hB := Lib.hid hB
        go_wp2_with (first | (go_at_call 22; refine (hk.out _).mono ?_; rintro e w' ⟨rfl, rfl⟩) | (go_at_call 30; refine hf1.out.mono ?_; rintro e w' ⟨rfl, rfl⟩))
        refine hb1.out.mono ?_
        rintro e w2 ⟨rfl, hB2⟩
        have hF := Lib.hid (hB.out.trans (hB2.mono hB.out.size))
        clear hB2
        go_wp2
        go_ret2
        refine ⟨?_, hF.out⟩
        simp
end Go.Proofs.Ytelfchoeielmhaa
