/-
  WHAT THIS FILE PROVES: Kraft's sums, room, first prefix sets and powers: the program's exported functions give what the plain ones say; asked: slices in memory, lengths that an int holds, no more than capacities.
-/
import Derived.Test.YtelfchoeielmhaaGreatDoorKrJ
import Derived.Test.YtelfchoeielmhaaGreatDoorKrF
import Derived.Test.YtelfchoeielmhaaGreatDoorKrG
import Derived.Test.YtelfchoeielmhaaGreatDoorWb
namespace Go.Proofs.YtelfchoeielmhaaGreatDoor
open Go.RowKit Go.Shelf

/-- what is left of 1 beside a sum, of L ^ 11 -/
def rbOf (z : List Int) (L : Int) : Int := if W.krList z L then ((L.toNat ^ 11 : Nat) : Int) - ((W.sharesD L.toNat z : Nat) : Int) else 0
theorem rbOf_no {z : List Int} {L : Int} (h : W.krList z L = false) : rbOf z L = 0 := by unfold rbOf; rw [h]; rfl
theorem rbOf_yes {z : List Int} {m : Nat} (h : W.krList z m = true) : rbOf z m = ((m ^ 11 : Nat) : Int) - ((W.sharesD m z : Nat) : Int) := by unfold rbOf; rw [h, Int.toNat_natCast]; rfl
set_option maxHeartbeats 1600000 in
theorem impl_roomBeside (A : Option Addr) (z : List Int) (c : Nat) (L : Int) (w : World) (h : Row w w.heap.size A (ints z)) (hl : z.length ≤ 1099511627776) :
    Calls Tryz.prog 50 #[.slice A z.length c, .int .i64 L] w fun e w' => e = .returned (.tuple #[.int .i64 (rbOf z L), .bool (W.krList z L)]) ∧ ∃ n, w' = w.drewN n := by
  have hc := isValid_given A z c L w h hl
  cases hq : W.krList z L
  · rw [rbOf_no hq]
    rw [hq] at hc
    replace hc := Lib.hid hc
    clear h hq
    go_enter Tryz.func50, Tryz.ntmps50
    go_wp2_with (go_at_call 58; refine hc.out.mono ?_; rintro e w' ⟨rfl, n, rfl⟩)
    go_ret2
    exact ⟨rfl, n, rfl⟩
  · rw [hq] at hc
    replace hc := Lib.hid hc
    obtain ⟨hlt, h12, hall, _⟩ := W.krList_parts hq
    obtain ⟨m, rfl, hm2, hm3⟩ := let_nat hlt
    rw [rbOf_yes hq]
    have hpa := fun (u : World) (g : Row u u.heap.size A (ints z)) => parts_given A z c m u g h12 hall hm2 hm3
    have hwh := fun u => impl_wholeOf m u hm3
    have hS : W.sharesD m z ≤ 708588 := Nat.le_trans (W.sharesD_le m hm2 hm3 z (W.lenAll_deep hall)) (by omega)
    have hD := W.wholeD_le m hm3
    generalize W.sharesD m z = S at hpa hS ⊢
    generalize m ^ 11 = D at hwh hD ⊢
    replace hpa := Lib.hid hpa
    replace hwh := Lib.hid hwh
    replace h := Lib.hid h
    clear hq hlt hall
    go_enter Tryz.func50, Tryz.ntmps50
    go_wp2_with (go_at_call 58; refine hc.out.mono ?_; rintro e w' ⟨rfl, n, rfl⟩)
    have hB1 := Lib.hid (below_drewN (Below.refl w.heap.size w) n)
    have hp1 := Lib.hid (hpa.out (w.drewN n) ((h.out.below hB1.out).more hB1.out.size))
    go_wp2_with (first | (go_at_call 59; refine (hwh.out _).mono ?_; rintro e w' ⟨rfl, rfl⟩) | (go_at_call 60; refine hp1.out.mono ?_; rintro e w' ⟨rfl, rfl⟩))
    go_ret2
    exact ⟨rfl, n, rfl⟩
theorem cbOf_room (z : List Int) (L : Int) : cbOf z L = (W.krList z L && decide (0 ≤ rbOf z L)) := by
  cases h : W.krList z L
  · rw [cbOf_no h]; rfl
  · obtain ⟨m, rfl, hm2, _⟩ := let_nat (W.krList_parts h).1
    have hd : W.sharesD m z ≤ m ^ 11 ↔ W.shares m z ≤ m ^ 8 := by
      rw [W.sharesD_shares m z (W.krList_parts h).2.2.1, W.wholeD_eq]
      exact Nat.mul_le_mul_left_iff (Nat.pow_pos (by omega))
    rw [cbOf_yes h, rbOf_yes h, Bool.true_and, Bool.eq_iff_iff, decide_eq_true_eq, decide_eq_true_eq, ← hd]
    generalize W.sharesD m z = S
    generalize m ^ 11 = D
    omega
set_option maxHeartbeats 1600000 in
theorem impl_CanBePrefix (A : Option Addr) (z : List Int) (c : Nat) (L : Int) (w : World) (h : Row w w.heap.size A (ints z)) (hl : z.length ≤ 1099511627776) :
    Calls Tryz.prog 34 #[.slice A z.length c, .int .i64 L] w fun e w' => e = .returned (.tuple #[.bool (cbOf z L), .bool (W.krList z L)]) ∧ Below w.heap.size w w' := by
  have hc := impl_roomBeside A z c L w h hl
  rw [cbOf_room]
  generalize rbOf z L = r at hc ⊢
  cases hq : W.krList z L
  all_goals
    rw [hq] at hc
    replace hc := Lib.hid hc
    clear h hq
    go_enter Tryz.func34, Tryz.ntmps34
    go_wp2_with (go_at_call 50; refine hc.out.mono ?_; rintro e w' ⟨rfl, n, rfl⟩)
    go_ret2
    exact ⟨by simp, below_drewN (Below.refl _ _) _⟩

end Go.Proofs.YtelfchoeielmhaaGreatDoor
