/-
  WHAT THIS FILE PROVES: the specification's tests of weights and lengths, their cost, Kraft's sum of lengths up to eleven, and the formula for even weights; asked: slices in memory, lengths that an int holds.
-/
import Derived.Test.YthkkneboblhmlaaBe
import Derived.Test.YthkkneboblhmlaaIn
import Derived.Test.YthkkneboblhmlaaArith
import Derived.Test.YthkkneboblhmlaaKrS
import Derived.OwnWalk
import Derived.BigQuiet
namespace Go.Proofs.Ythkkneboblhmlaa
open Go.RowKit Go.Shelf

theorem beN_all (m : Int) (z : List Int) (h : 1 ≤ z.length ∧ z.length ≤ 12) : W.beN m z = z.all (inR 1 m) := by
  unfold W.beN
  rw [decide_eq_true h]
  rfl
theorem beN_no (m : Int) (z : List Int) (h : ¬ (1 ≤ z.length ∧ z.length ≤ 12)) : W.beN m z = false := by
  unfold W.beN
  rw [decide_eq_false h]
  rfl
theorem spec_beWeights (A : Option Addr) (z : List Int) (c : Nat) (w : World) (h : Row w w.heap.size A (ints z)) (hl : z.length ≤ 9223372036854775807) :
    Calls Try.prog 30 #[.slice A z.length c] w fun e w' => e = .returned (.bool (W.beN 100 z)) ∧ w = w' := by
  have hin := fun u => spec_l1In (z.length : Int) 1 12 u
  by_cases h1 : 1 ≤ z.length ∧ z.length ≤ 12
  · rw [beN_all 100 z h1]
    have ha := fun u (hu : Row u u.heap.size A (ints z)) => spec_l1AllR A z c 1 100 u hu (by omega)
    rw [decide_eq_true (show (1 : Int) ≤ z.length ∧ (z.length : Int) ≤ 12 by omega)] at hin
    have ha1 := Lib.hid (ha w h)
    generalize z.all (inR 1 100) = r at ha1 ⊢
    replace hin := Lib.hid hin
    clear ha h h1
    go_enter Try.func30, Try.ntmps30
    go_wp2_with (first | (go_at_call 49; refine (hin.out _).mono ?_; rintro e w' ⟨rfl, rfl⟩) | (go_at_call 50; refine ha1.out.mono ?_; rintro e w' ⟨rfl, rfl⟩))
    go_ret
    exact ⟨rfl, rfl⟩
  · rw [beN_no 100 z h1]
    rw [decide_eq_false (show ¬ ((1 : Int) ≤ z.length ∧ (z.length : Int) ≤ 12) by omega)] at hin
    replace hin := Lib.hid hin
    clear h h1
    go_enter Try.func30, Try.ntmps30
    go_wp2_with (go_at_call 49; refine (hin.out _).mono ?_; rintro e w' ⟨rfl, rfl⟩)
    go_ret
    exact ⟨rfl, rfl⟩
theorem scoOf_no {ws ls : List Int} (h : W.coOk ws ls = false) : W.coOf ws ls = 0 := by unfold W.coOf; rw [h]; rfl
theorem scoOf_yes {ws ls : List Int} (h : W.coOk ws ls = true) : W.coOf ws ls = W.costI ws ls := by unfold W.coOf; rw [h]; rfl
end Go.Proofs.Ythkkneboblhmlaa
