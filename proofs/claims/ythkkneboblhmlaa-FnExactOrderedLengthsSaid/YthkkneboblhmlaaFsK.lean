/-
  WHAT THIS FILE PROVES: the first ordered lengths of least cost: the program hands back a slice of its own with what the specification finds; asked: a slice in memory, a length that an int holds, no more than its capacity.
-/
import Derived.Test.YthkkneboblhmlaaFsJ
import Derived.Test.YthkkneboblhmlaaOgS
namespace Go.Proofs.Ythkkneboblhmlaa
open Go.RowKit Go.Shelf

theorem impl_areSearchedWeights (A : Option Addr) (z : List Int) (c : Nat) (w : World) (h : Row w w.heap.size A (ints z)) (hl : z.length ≤ 9223372036854775807) :
    Calls Try.prog 18 #[.slice A z.length c] w fun e w' => e = .returned (.bool (ogOk z)) ∧ Below w.heap.size w w' := by
  have hc := impl_areWeights A z c w h hl
  unfold ogOk
  cases hq : W.beN 100 z
  · rw [hq] at hc
    replace hc := Lib.hid hc
    rw [Bool.false_and]
    clear h hq
    go_enter Try.func18, Try.ntmps18
    go_wp2_with (go_at_call 34; refine hc.out.mono ?_; rintro e w1 ⟨rfl, hB⟩)
    go_ret
    exact ⟨rfl, hB⟩
  · rw [hq] at hc
    replace hc := Lib.hid hc
    rw [Bool.true_and]
    have hd : decide (z.length ≤ 6) = decide ((z.length : Int) ≤ 6) := by rw [Bool.eq_iff_iff, decide_eq_true_eq, decide_eq_true_eq]; omega
    clear h hq
    by_cases h6 : z.length ≤ 6
    · rw [decide_eq_true h6]
      have h6' : (z.length : Int) ≤ 6 := by omega
      clear hd
      go_enter Try.func18, Try.ntmps18
      go_wp2_with (go_at_call 34; refine hc.out.mono ?_; rintro e w1 ⟨rfl, hB⟩)
      go_ret
      exact ⟨rfl, hB⟩
    · rw [decide_eq_false h6]
      have h6' : decide ((z.length : Int) ≤ 6) = false := decide_eq_false (by omega)
      clear hd
      go_enter Try.func18, Try.ntmps18
      go_wp2_with (go_at_call 34; refine hc.out.mono ?_; rintro e w1 ⟨rfl, hB⟩)
      go_ret
      exact ⟨by first | rfl | simp [h6], hB⟩
theorem oc_pos {z : List Int} (h : W.beN 100 z = true) : 0 ≤ W.ocI z := by
  have hza := (W.beN_parts h).2
  have h1 := W.sum_take_le (B := 100) (by omega) (z := z) (fun x hx => by
    have := List.all_eq_true.1 hza x hx
    rw [decide_eq_true_eq] at this
    omega) z.length (Nat.le_refl _)
  rw [List.take_length] at h1
  exact Int.le_trans h1.1 (Int.le_max_right _ _)
set_option maxHeartbeats 1600000 in
theorem impl_OrderedLengths (A : Option Addr) (z : List Int) (c : Nat) (w : World) (h : Row w w.heap.size A (ints z)) (hcap : z.length ≤ c) (hl : z.length ≤ 9223372036854775807) :
    Calls Try.prog 8 #[.slice A z.length c] w (OkInts w (ogOf z) (ogOk z)) := by
  have hc := impl_areSearchedWeights A z c w h hl
  cases hq : ogOk z
  · rw [ogOf_no hq]
    rw [hq] at hc
    replace hc := Lib.hid hc
    clear h hq
    go_enter Try.func8, Try.ntmps8
    go_wp2_with (go_at_call 18; refine hc.out.mono ?_; rintro e w1 ⟨rfl, hB⟩)
    go_ret2
    exact okInts_nil _ _ _ hB
  · rw [ogOf_yes hq]
    rw [hq] at hc
    replace hc := Lib.hid hc
    have hz : W.beN 100 z = true := by unfold ogOk at hq; rw [Bool.and_eq_true] at hq; exact hq.1
    obtain ⟨⟨hz1, hz12⟩, _⟩ := W.beN_parts hz
    rw [W.foS_dS hz hz12 (oc_pos hz)]
    have hoc := fun (u : World) (hu : Below w.heap.size w u) => impl_orderedCost A z c u ((h.below hu).more hu.size) hcap hz
    have hfw := fun (u : World) (hu : Below w.heap.size w u) => impl_firstWithin z (W.ocI z) A c u ((h.below hu).more hu.size) hz hcap
    generalize W.toI ((W.dS (W.mbB z (W.ocI z)) z.length []).getD []) = L at hfw ⊢
    generalize W.ocI z = C at hoc hfw
    replace hoc := Lib.hid hoc
    replace hfw := Lib.hid hfw
    clear h hq hz hz1 hz12
    go_enter Try.func8, Try.ntmps8
    go_wp2_with fail
    refine hc.out.mono ?_
    rintro e w1 ⟨rfl, hB1⟩
    have ho1 := Lib.hid (hoc.out w1 hB1)
    replace hB1 := Lib.hid hB1
    go_wp2_with fail
    refine ho1.out.mono ?_
    rintro e w2 ⟨rfl, hB2⟩
    have H2 := Lib.hid (hB1.out.trans (hB2.mono hB1.out.size))
    have hf2 := Lib.hid (hfw.out w2 H2.out)
    clear hB2
    go_wp2_with fail
    refine hf2.out.mono ?_
    rintro e w3 ⟨A3, c3, rfl, ho3, hB3⟩
    have H3 := Lib.hid (And.intro (own_base ho3 H2.out.size) (H2.out.trans (hB3.mono H2.out.size)))
    clear ho3 hB3
    go_wp2
    go_ret2
    exact okInts_of H3.out.1 rfl H3.out.2
end Go.Proofs.Ythkkneboblhmlaa
