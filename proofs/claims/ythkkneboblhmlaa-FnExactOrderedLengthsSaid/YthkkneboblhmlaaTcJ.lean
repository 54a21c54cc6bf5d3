/-
  WHAT THIS FILE PROVES: what ordered lengths cost at least, and by parts: the program's functions give the plain values; asked: slices in memory, lengths that an int holds and no more than capacities.
-/
import Derived.Test.YthkkneboblhmlaaTcI
namespace Go.Proofs.Ythkkneboblhmlaa
open Go.RowKit Go.Shelf

theorem small_mem {z : List Int} (h : W.beN 100 z = true) : ∀ x ∈ z, 0 ≤ x ∧ x ≤ 100000 := fun x hx => by
  have := W.beN_mem h hx
  omega
set_option maxHeartbeats 1600000 in
theorem impl_orderedCost (A : Option Addr) (z : List Int) (c : Nat) (w : World) (h : Row w w.heap.size A (ints z)) (hcap : z.length ≤ c) (hz : W.beN 100 z = true) :
    Calls Try.prog 20 #[.slice A z.length c] w fun e w' => e = .returned (.int .i64 (W.ocI z)) ∧ Below w.heap.size w w' := by
  obtain ⟨⟨hz1, hz12⟩, _⟩ := W.beN_parts hz
  have hsm := W.beN_small hz
  have ht := Lib.hid (impl_treeCost z.length A z c w rfl hcap h hsm hz1 hz12)
  have hb := W.tcA_bound hsm hz12
  have hs := hsm.total
  have htot := Lib.hid (fun (u : World) (hu : Below w.heap.size w u) => impl_totalOf z.length A z c u rfl ((h.below hu).more hu.size) (by omega) (small_mem hz))
  unfold W.ocI
  generalize W.tcA z = x at ht hb ⊢
  generalize z.sum = y at htot hs ⊢
  clear h hz hsm
  go_enter Try.func20, Try.ntmps20
  go_wp2_with fail
  refine ht.out.mono ?_
  rintro e w1 ⟨rfl, hB⟩
  have ht1 := Lib.hid (htot.out w1 hB)
  replace hB := Lib.hid hB
  go_wp2_with (go_at_call 38; refine ht1.out.mono ?_; rintro e w' ⟨rfl, rfl⟩)
  go_ret
  exact ⟨by first | rfl | simp, hB.out⟩
end Go.Proofs.Ythkkneboblhmlaa
