/-
  WHAT THIS FILE PROVES: Kraft's sums, room, first prefix sets and powers: the program's exported functions give what the plain ones say; asked: slices in memory, lengths that an int holds, no more than capacities.
-/
import Derived.Test.YtjopbmhldpcpdaaDoorKrJ
import Derived.Test.YtjopbmhldpcpdaaDoorKrF
import Derived.Test.YtjopbmhldpcpdaaDoorKrG
import Derived.Test.YtjopbmhldpcpdaaDoorWb
namespace Go.Proofs.YtjopbmhldpcpdaaDoor
open Go.RowKit Go.Shelf

set_option maxHeartbeats 1600000 in
theorem impl_KraftSum (A : Option Addr) (ss : List ByteArray) (c : Nat) (L : Int) (w : World) (h : Row w w.heap.size A (strs ss)) (hcap : ss.length ≤ c) (hl : ss.length ≤ 9223372036854775807) (hs : ∀ s ∈ ss, s.size ≤ 9223372036854775807) :
    Calls Tryd.prog 8 #[.slice A ss.length c, .int .i64 L] w fun e w' => e = .returned (.tuple #[ratV ((ksOf ss L).1 : Nat) ((ksOf ss L).2 : Nat), .bool (W.krSet ss L)]) ∧ Below w.heap.size w w' := by
  have hB := Lib.hid (resW_below w)
  have hc := sum_words A ss c L (resW w) ((h.below hB.out).more hB.out.size) hcap hl hs
  generalize W.krSet ss L = ok at hc ⊢
  generalize ksOf ss L = pq at hc ⊢
  obtain ⟨p, q⟩ := pq
  replace hc := Lib.hid hc
  clear h hs
  go_enter Tryd.func8, Tryd.ntmps8
  go_wp2_with fail
  refine hc.out.mono ?_
  rintro e w1 ⟨rfl, hB1⟩
  obtain ⟨c0, c1, f0, f1⟩ := res_cells hB1
  have hB2 := Lib.hid (hB.out.trans (hB1.mono hB.out.size))
  clear hB1
  go_wp2
  exact bodyPost_ret (v := .tuple #[ratV p q, .bool ok]) (by simp [results, Tryd.results8, go_sem, c0, c1]) rfl ⟨rfl, (hB2.out.setCell (Nat.le_refl _) _).setCell (Nat.le_refl _) _⟩
set_option maxHeartbeats 1600000 in
theorem impl_SumOfLengths (A : Option Addr) (z : List Int) (c : Nat) (L : Int) (w : World) (h : Row w w.heap.size A (ints z)) (hl : z.length ≤ 1099511627776) :
    Calls Tryd.prog 13 #[.slice A z.length c, .int .i64 L] w fun e w' => e = .returned (.tuple #[ratV ((slOf z L).1 : Nat) ((slOf z L).2 : Nat), .bool (W.krList z L)]) ∧ Below w.heap.size w w' := by
  have hB := Lib.hid (resW_below w)
  have hc := sum_given A z c L (resW w) ((h.below hB.out).more hB.out.size) hl
  generalize W.krList z L = ok at hc ⊢
  generalize slOf z L = pq at hc ⊢
  obtain ⟨p, q⟩ := pq
  replace hc := Lib.hid hc
  clear h
  go_enter Tryd.func13, Tryd.ntmps13
  go_wp2_with fail
  refine hc.out.mono ?_
  rintro e w1 ⟨rfl, hB1⟩
  obtain ⟨c0, c1, f0, f1⟩ := res_cells hB1
  have hB2 := Lib.hid (hB.out.trans (hB1.mono hB.out.size))
  clear hB1
  go_wp2
  exact bodyPost_ret (v := .tuple #[ratV p q, .bool ok]) (by simp [results, Tryd.results13, go_sem, c0, c1]) rfl ⟨rfl, (hB2.out.setCell (Nat.le_refl _) _).setCell (Nat.le_refl _) _⟩
/-- what is left of 1 beside a sum, of L ^ 11 -/
def rbOf (z : List Int) (L : Int) : Int := if W.krList z L then ((L.toNat ^ 11 : Nat) : Int) - ((W.sharesD L.toNat z : Nat) : Int) else 0
theorem rbOf_no {z : List Int} {L : Int} (h : W.krList z L = false) : rbOf z L = 0 := by unfold rbOf; rw [h]; rfl
theorem rbOf_yes {z : List Int} {m : Nat} (h : W.krList z m = true) : rbOf z m = ((m ^ 11 : Nat) : Int) - ((W.sharesD m z : Nat) : Int) := by unfold rbOf; rw [h, Int.toNat_natCast]; rfl

end Go.Proofs.YtjopbmhldpcpdaaDoor
