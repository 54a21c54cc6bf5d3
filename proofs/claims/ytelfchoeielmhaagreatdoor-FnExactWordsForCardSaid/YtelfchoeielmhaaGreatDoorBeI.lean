/-
  WHAT THIS FILE PROVES: the program's tests of weights and lengths, their cost, and the formula for even weights; asked: slices in memory, lengths that an int holds.
-/
import Derived.Test.YtelfchoeielmhaaGreatDoorBe
import Derived.Test.YtelfchoeielmhaaGreatDoorIdxI
import Derived.Test.YtelfchoeielmhaaGreatDoorArith
import Derived.Test.YtelfchoeielmhaaGreatDoorKrI
import Derived.Test.YtelfchoeielmhaaGreatDoorInt
import Derived.OwnWalk
import Derived.BigQuiet
namespace Go.Proofs.YtelfchoeielmhaaGreatDoor
open Go.RowKit Go.Shelf

theorem all_any (m : Int) (z : List Int) : (!(z.any fun x => decide (x < 1) || decide (m < x))) = z.all fun x => decide (1 ≤ x ∧ x ≤ m) := by
  rw [List.not_any_eq_all_not]
  congr 1
  funext x
  rw [Bool.eq_iff_iff]
  simp only [Bool.not_eq_true', Bool.or_eq_false_iff, decide_eq_false_iff_not, decide_eq_true_eq]
  omega
theorem outside_box (m x : Int) (bx : Nat) (w : World) (hx : w.cell? ⟨bx, 0, none⟩ = some (.int .i64 m)) :
    Calls Tryz.prog 30 #[.int .i64 x, .pointer (some ⟨bx, 0, none⟩)] w fun e w' => e = .returned (.bool (decide (x < 1) || decide (m < x))) ∧ w = w' := by
  by_cases h1 : x < 1
  · rw [decide_eq_true h1, Bool.true_or]
    go_enter Tryz.func30, Tryz.ntmps30
    go_wp2
    go_ret
    exact ⟨rfl, rfl⟩
  · rw [decide_eq_false h1, Bool.false_or]
    by_cases h2 : m < x
    all_goals
      first | rw [decide_eq_true h2] | rw [decide_eq_false h2]
      go_enter Tryz.func30, Tryz.ntmps30
      go_wp2
      go_ret
      exact ⟨rfl, rfl⟩
set_option maxHeartbeats 800000 in
theorem impl_areNumbers (m : Int) (A : Option Addr) (z : List Int) (c : Nat) (w : World) (h : Row w w.heap.size A (ints z)) (hl : z.length ≤ 9223372036854775807) :
    Calls Tryz.prog 18 #[.slice A z.length c, .int .i64 m] w fun e w' => e = .returned (.bool (W.beN m z)) ∧ Below w.heap.size w w' := by
  have hc := fun (u : World) (hu : Row u u.heap.size A (ints z)) (bx : Nat) (hx : u.cell? ⟨bx, 0, none⟩ = some (.int .i64 m)) => contains_funcI 30 #[.pointer (some ⟨bx, 0, none⟩)] (enters_of Tryz.func30 (by kernel_rfl) rfl) (fun x => decide (x < 1) || decide (m < x)) A z c u hu hl (fun x => outside_box m x bx u hx)
  have hB := Lib.hid ((Below.refl w.heap.size w).alloc (Nat.le_refl _) (.cells #[.int .i64 m] 3))
  have hu := Lib.hid (hc (w.alloc (.cells #[.int .i64 m] 3)) ((h.below hB.out).more hB.out.size) w.heap.size (by rw [World.cell?_alloc_at _ _ _ _ rfl]; rfl))
  have hdef : W.beN m z = (decide (1 ≤ z.length ∧ z.length ≤ 12) && !(z.any fun x => decide (x < 1) || decide (m < x))) := by rw [all_any]; rfl
  rw [hdef]
  clear hdef hc
  generalize (z.any fun x => decide (x < 1) || decide (m < x)) = r at hu ⊢
  clear h
  by_cases h1 : 1 ≤ z.length
  · have h1' : (0 : Int) < (z.length : Int) := by omega
    by_cases h2 : z.length ≤ 12
    · have h2' : (z.length : Int) ≤ 12 := by omega
      rw [decide_eq_true ⟨h1, h2⟩, Bool.true_and]
      go_enter Tryz.func18, Tryz.ntmps18
      go_wp2_with fail
      refine hu.out.mono ?_
      rintro e w' ⟨rfl, rfl⟩
      go_wp2
      go_ret
      exact ⟨rfl, hB.out⟩
    · have h2' : ¬ (z.length : Int) ≤ 12 := by omega
      rw [decide_eq_false (fun h => h2 h.2), Bool.false_and]
      go_enter Tryz.func18, Tryz.ntmps18
      go_wp2
      go_ret
      exact ⟨rfl, hB.out⟩
  · have h1' : ¬ (0 : Int) < (z.length : Int) := by omega
    rw [decide_eq_false (fun h => h1 h.1), Bool.false_and]
    go_enter Tryz.func18, Tryz.ntmps18
    go_wp2
    go_ret
    exact ⟨rfl, hB.out⟩
theorem coOf_no {ws ls : List Int} (h : W.coOk ws ls = false) : W.coOf ws ls = 0 := by unfold W.coOf; rw [h]; rfl
theorem coOf_yes {ws ls : List Int} (h : W.coOk ws ls = true) : W.coOf ws ls = W.costI ws ls := by unfold W.coOf; rw [h]; rfl
end Go.Proofs.YtelfchoeielmhaaGreatDoor
