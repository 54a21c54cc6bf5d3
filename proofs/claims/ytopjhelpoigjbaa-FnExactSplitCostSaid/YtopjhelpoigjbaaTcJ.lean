/-
  WHAT THIS FILE PROVES: what ordered lengths cost at least, and by parts: the program's functions give the plain values; asked: slices in memory, lengths that an int holds and no more than capacities.
-/
import Derived.Test.YtopjhelpoigjbaaTcI
namespace Go.Proofs.Ytopjhelpoigjbaa
open Go.RowKit Go.Shelf

theorem small_mem {z : List Int} (h : W.beN 100 z = true) : ∀ x ∈ z, 0 ≤ x ∧ x ≤ 100000 := fun x hx => by
  have := W.beN_mem h hx
  omega
set_option maxHeartbeats 1600000 in
theorem impl_orderedCost (A : Option Addr) (z : List Int) (c : Nat) (w : World) (h : Row w w.heap.size A (ints z)) (hcap : z.length ≤ c) (hz : W.beN 100 z = true) :
    Calls Try.prog 44 #[.slice A z.length c] w fun e w' => e = .returned (.int .i64 (W.ocI z)) ∧ Below w.heap.size w w' := by
  obtain ⟨⟨hz1, hz12⟩, _⟩ := W.beN_parts hz
  have hsm := W.beN_small hz
  have ht := Lib.hid (impl_treeCost z.length A z c w rfl hcap h hsm hz1 hz12)
  have hb := W.tcA_bound hsm hz12
  have hs := hsm.total
  have htot := Lib.hid (fun (u : World) (hu : Below w.heap.size w u) => impl_totalOf z.length A z c u rfl ((h.below hu).more hu.size) (by omega) (small_mem hz))
  unfold W.ocI
  generalize W.tcA z = x at ht hb ⊢
  generalize z.sum = y at htot hs ⊢
  clear h hz hsm
  go_enter Try.func44, Try.ntmps44
  go_wp2_with fail
  refine ht.out.mono ?_
  rintro e w1 ⟨rfl, hB⟩
  have ht1 := Lib.hid (htot.out w1 hB)
  replace hB := Lib.hid hB
  go_wp2_with (go_at_call 45; refine ht1.out.mono ?_; rintro e w' ⟨rfl, rfl⟩)
  go_ret
  exact ⟨by first | rfl | simp, hB.out⟩
set_option maxHeartbeats 1600000 in
theorem impl_OrderedCost (A : Option Addr) (z : List Int) (c : Nat) (w : World) (h : Row w w.heap.size A (ints z)) (hcap : z.length ≤ c) (hl : z.length ≤ 9223372036854775807) :
    Calls Try.prog 24 #[.slice A z.length c] w fun e w' => e = .returned (.tuple #[.int .i64 (W.ocOf z), .bool (W.beN 100 z)]) ∧ Below w.heap.size w w' := by
  have hc := impl_areWeights A z c w h hl
  cases hq : W.beN 100 z
  · rw [W.ocOf_no hq]
    rw [hq] at hc
    replace hc := Lib.hid hc
    clear h hq
    go_enter Try.func24, Try.ntmps24
    go_wp2_with fail
    refine hc.out.mono ?_
    rintro e w1 ⟨rfl, hB⟩
    replace hB := Lib.hid hB
    go_wp2
    go_ret2
    exact ⟨rfl, hB.out⟩
  · rw [W.ocOf_yes hq]
    rw [hq] at hc
    replace hc := Lib.hid hc
    have ho := Lib.hid (fun (u : World) (hu : Below w.heap.size w u) => impl_orderedCost A z c u ((h.below hu).more hu.size) hcap hq)
    generalize W.ocI z = x at ho ⊢
    clear h hq
    go_enter Try.func24, Try.ntmps24
    go_wp2_with fail
    refine hc.out.mono ?_
    rintro e w1 ⟨rfl, hB⟩
    have ho1 := Lib.hid (ho.out w1 hB)
    replace hB := Lib.hid hB
    go_wp2_with fail
    refine ho1.out.mono ?_
    rintro e w2 ⟨rfl, hB2⟩
    have hF := Lib.hid (hB.out.trans (hB2.mono hB.out.size))
    clear hB2
    go_wp2
    go_ret2
    exact ⟨rfl, hF.out⟩
set_option maxHeartbeats 3200000 in
theorem impl_SplitCost (A : Option Addr) (z : List Int) (c : Nat) (k : Int) (w : World) (h : Row w w.heap.size A (ints z)) (hcap : z.length ≤ c) (hl : z.length ≤ 9223372036854775807) :
    Calls Try.prog 26 #[.slice A z.length c, .int .i64 k] w fun e w' => e = .returned (.tuple #[.int .i64 (W.spOfI z k), .bool (W.spOkI z k)]) ∧ Below w.heap.size w w' := by
  have hc := impl_areWeights A z c w h hl
  cases hq : W.beN 100 z
  · have hno : W.spOkI z k = false := by unfold W.spOkI; rw [hq]; rfl
    rw [W.spOfI_no hno, hno]
    rw [hq] at hc
    replace hc := Lib.hid hc
    clear h hq hno
    go_enter Try.func26, Try.ntmps26
    go_wp2_with fail
    refine hc.out.mono ?_
    rintro e w1 ⟨rfl, hB⟩
    replace hB := Lib.hid hB
    go_wp2
    go_ret2
    exact ⟨rfl, hB.out⟩
  · rw [hq] at hc
    replace hc := Lib.hid hc
    by_cases h1 : k < 1
    · have hno : W.spOkI z k = false := by unfold W.spOkI; rw [decide_eq_false (by omega), Bool.and_false]
      rw [W.spOfI_no hno, hno]
      clear h hq hno
      go_enter Try.func26, Try.ntmps26
      go_wp2_with fail
      refine hc.out.mono ?_
      rintro e w1 ⟨rfl, hB⟩
      replace hB := Lib.hid hB
      go_wp2
      go_ret2
      exact ⟨rfl, hB.out⟩
    · by_cases h2 : (z.length : Int) ≤ k
      · have hno : W.spOkI z k = false := by unfold W.spOkI; rw [decide_eq_false (by omega), Bool.and_false]
        rw [W.spOfI_no hno, hno]
        clear h hq hno
        go_enter Try.func26, Try.ntmps26
        go_wp2_with fail
        refine hc.out.mono ?_
        rintro e w1 ⟨rfl, hB⟩
        replace hB := Lib.hid hB
        go_wp2
        go_ret2
        exact ⟨rfl, hB.out⟩
      · obtain ⟨m, rfl⟩ := Int.eq_ofNat_of_zero_le (show 0 ≤ k by omega)
        have hyes : W.spOkI z m = true := by unfold W.spOkI; rw [hq, decide_eq_true (by omega)]; rfl
        rw [W.spOfI_yes hyes, hyes]
        obtain ⟨⟨hz1, hz12⟩, _⟩ := W.beN_parts hq
        have hsm := W.beN_small hq
        obtain ⟨b, off, rfl, hb, hcc⟩ := Row.int_at h (by omega)
        have ht1 := Lib.hid (fun (u : World) (hu : Below w.heap.size w u) => (impl_treeCost m (some ⟨b, off, none⟩) (z.take m) c u (by rw [List.length_take]; omega) (by omega) (row_takeT ((h.below hu).more hu.size) m) (hsm.take m) (by omega) (by omega)).mono fun e w' hp => (⟨hp.1, hu.trans (hp.2.mono hu.size)⟩ : e = .returned (.int .i64 (W.tcA (z.take m))) ∧ Below w.heap.size w w'))
        have ht2 := Lib.hid (fun (u : World) (hu : Below w.heap.size w u) => (impl_treeCost (z.length - m) (some ⟨b, off + m, none⟩) (z.drop m) (c - m) u (by rw [List.length_drop]) (by omega) (row_dropT ((h.below hu).more hu.size) m) (hsm.drop m) (by omega) (by omega)).mono fun e w' hp => (⟨hp.1, hu.trans (hp.2.mono hu.size)⟩ : e = .returned (.int .i64 (W.tcA (z.drop m))) ∧ Below w.heap.size w w'))
        have htot := Lib.hid (fun (u : World) (hu : Below w.heap.size w u) => impl_totalOf z.length (some ⟨b, off, none⟩) z c u rfl ((h.below hu).more hu.size) (by omega) (small_mem hq))
        have hb1 := W.tcA_bound (hsm.take m) (by rw [List.length_take]; omega)
        have hb2 := W.tcA_bound (hsm.drop m) (by rw [List.length_drop]; omega)
        have hs := hsm.total
        generalize W.tcA (z.take m) = x1 at ht1 hb1 ⊢
        generalize W.tcA (z.drop m) = x2 at ht2 hb2 ⊢
        generalize z.sum = y at htot hs ⊢
        have hm1 : ¬ ((m : Int) < 1) := h1
        have hm2 : ¬ ((z.length : Int) ≤ (m : Int)) := h2
        have hm3 : (m : Int) ≤ (c : Int) := by omega
        have hm4 : (0 : Int) ≤ (m : Int) := by omega
        have hm5 : (m : Int) ≤ (z.length : Int) := by omega
        have hcm : ¬ (c = m) := by omega
        clear h hq hyes hsm hcc h1 h2
        go_enter Try.func26, Try.ntmps26
        go_wp2_with fail
        refine hc.out.mono ?_
        rintro e w1 ⟨rfl, hB⟩
        have hBd := hB.drew
        go_wp2_with fail
        go_region_held3 (fun w' => Below w.heap.size w w') (first | assumption) (first | (go_at_call 45; refine (htot.out _ (by assumption)).mono ?_; rintro e w' ⟨rfl, rfl⟩) | (go_at_call_of 46 (Value.slice (some ⟨b, off, none⟩) m c); refine (ht1.out _ (by assumption)).mono ?_; rintro e w2 ⟨rfl, hB2⟩) | (go_at_call_of 46 (Value.slice (some ⟨b, off + m, none⟩) (z.length - m) (c - m)); refine (ht2.out _ (by assumption)).mono ?_; rintro e w3 ⟨rfl, hB3⟩))
        all_goals
          go_wp2
          go_ret2
          refine ⟨?_, by assumption⟩
          simp
          rw [IntWalk.i64_in (y + x1) (by omega), IntWalk.i64_in (y + x1 + x2) (by omega)]
end Go.Proofs.Ytopjhelpoigjbaa
