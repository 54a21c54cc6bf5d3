/-
  WHAT THIS FILE PROVES: the specification's tests of weights and lengths, their cost, Kraft's sum of lengths up to eleven, and the formula for even weights; asked: slices in memory, lengths that an int holds.
-/
import Derived.Test.YtelfchoeielmhaaBe
import Derived.Test.YtelfchoeielmhaaIn
import Derived.Test.YtelfchoeielmhaaArith
import Derived.Test.YtelfchoeielmhaaKrS
import Derived.OwnWalk
import Derived.BigQuiet
namespace Go.Proofs.Ytelfchoeielmhaa
open Go.RowKit Go.Shelf

theorem beN_all (m : Int) (z : List Int) (h : 1 ≤ z.length ∧ z.length ≤ 12) : W.beN m z = z.all (inR 1 m) := by
  unfold W.beN
  rw [decide_eq_true h]
  rfl
theorem beN_no (m : Int) (z : List Int) (h : ¬ (1 ≤ z.length ∧ z.length ≤ 12)) : W.beN m z = false := by
  unfold W.beN
  rw [decide_eq_false h]
  rfl
theorem spec_beWeights (A : Option Addr) (z : List Int) (c : Nat) (w : World) (h : Row w w.heap.size A (ints z)) (hl : z.length ≤ 9223372036854775807) :
    Calls Try.prog 42 #[.slice A z.length c] w fun e w' => e = .returned (.bool (W.beN 100 z)) ∧ w = w' := by
  have hin := fun u => spec_l1In (z.length : Int) 1 12 u
  by_cases h1 : 1 ≤ z.length ∧ z.length ≤ 12
  · rw [beN_all 100 z h1]
    have ha := fun u (hu : Row u u.heap.size A (ints z)) => spec_l1AllR A z c 1 100 u hu (by omega)
    rw [decide_eq_true (show (1 : Int) ≤ z.length ∧ (z.length : Int) ≤ 12 by omega)] at hin
    have ha1 := Lib.hid (ha w h)
    generalize z.all (inR 1 100) = r at ha1 ⊢
    replace hin := Lib.hid hin
    clear ha h h1
    go_enter Try.func42, Try.ntmps42
    go_wp2_with (first | (go_at_call 31; refine (hin.out _).mono ?_; rintro e w' ⟨rfl, rfl⟩) | (go_at_call 46; refine ha1.out.mono ?_; rintro e w' ⟨rfl, rfl⟩))
    go_ret
    exact ⟨rfl, rfl⟩
  · rw [beN_no 100 z h1]
    rw [decide_eq_false (show ¬ ((1 : Int) ≤ z.length ∧ (z.length : Int) ≤ 12) by omega)] at hin
    replace hin := Lib.hid hin
    clear h h1
    go_enter Try.func42, Try.ntmps42
    go_wp2_with (go_at_call 31; refine (hin.out _).mono ?_; rintro e w' ⟨rfl, rfl⟩)
    go_ret
    exact ⟨rfl, rfl⟩
theorem spec_beLengths (A : Option Addr) (z : List Int) (c : Nat) (w : World) (h : Row w w.heap.size A (ints z)) (hl : z.length ≤ 9223372036854775807) :
    Calls Try.prog 26 #[.slice A z.length c] w fun e w' => e = .returned (.bool (W.beN 11 z)) ∧ w = w' := by
  have hin := fun u => spec_l1In (z.length : Int) 1 12 u
  by_cases h1 : 1 ≤ z.length ∧ z.length ≤ 12
  · rw [beN_all 11 z h1]
    have ha := fun u (hu : Row u u.heap.size A (ints z)) => spec_l1AllR A z c 1 11 u hu (by omega)
    rw [decide_eq_true (show (1 : Int) ≤ z.length ∧ (z.length : Int) ≤ 12 by omega)] at hin
    have ha1 := Lib.hid (ha w h)
    generalize z.all (inR 1 11) = r at ha1 ⊢
    replace hin := Lib.hid hin
    clear ha h h1
    go_enter Try.func26, Try.ntmps26
    go_wp2_with (first | (go_at_call 31; refine (hin.out _).mono ?_; rintro e w' ⟨rfl, rfl⟩) | (go_at_call 46; refine ha1.out.mono ?_; rintro e w' ⟨rfl, rfl⟩))
    go_ret
    exact ⟨rfl, rfl⟩
  · rw [beN_no 11 z h1]
    rw [decide_eq_false (show ¬ ((1 : Int) ≤ z.length ∧ (z.length : Int) ≤ 12) by omega)] at hin
    replace hin := Lib.hid hin
    clear h h1
    go_enter Try.func26, Try.ntmps26
    go_wp2_with (go_at_call 31; refine (hin.out _).mono ?_; rintro e w' ⟨rfl, rfl⟩)
    go_ret
    exact ⟨rfl, rfl⟩
set_option maxHeartbeats 800000 in
theorem spec_beCost (A B : Option Addr) (ws ls : List Int) (c d : Nat) (w : World) (h : Row w w.heap.size A (ints ws)) (g : Row w w.heap.size B (ints ls)) (h1 : ws.all (fun x => decide (1 ≤ x ∧ x ≤ 100)) = true) (h2 : ls.all (fun x => decide (1 ≤ x ∧ x ≤ 11)) = true) (hw : ws.length = ls.length) (h12 : ws.length ≤ 12) :
    Calls Try.prog 28 #[.slice A ws.length c, .slice B ls.length d] w fun e w' => e = .returned (.int .i64 (W.costI ws ls)) ∧ w = w' := by
  obtain ⟨r, hr⟩ : ∃ r, r = W.costI ws ls := ⟨_, rfl⟩
  rw [← hr]
  have Hall := Lib.hid (show W.costI ws (ls.take ws.length) = r by rw [hr, hw, List.take_length])
  have Hst := Lib.hid (fun k (hk : k < ls.length) (hk2 : k < ws.length) => W.costI_take_succ ws ls k hk hk2)
  have Hb := Lib.hid (fun k (hk : k ≤ ls.length) => W.costI_bounds h1 h2 (by omega) (by omega) (by omega) k hk)
  have Hw := Lib.hid (fun k (hk : k < ws.length) => W.all_at h1 k hk)
  have Hl := Lib.hid (fun k (hk : k < ls.length) => W.all_at h2 k hk)
  have H0 := Lib.hid (show W.costI ws (ls.take 0) = 0 by rw [List.take_zero, W.costI_nil])
  replace h := Lib.hid h
  replace g := Lib.hid g
  have hwl : Hid (ws.length = ls.length) := hw
  clear h1 h2 hr hw
  go_enter Try.func28, Try.ntmps28
  go_wp2
  go_loop [5, 10] (fun s i => ∃ (k : Nat) (q : Int), k ≤ ws.length ∧ i = .int .i64 k ∧ s = .int .i64 q ∧ Hid (q = W.costI ws (ls.take k))) (fun _ i => ws.length - (intOf i).toNat)
  case atStart => exact ⟨0, 0, Nat.zero_le _, rfl, rfl, H0.out.symm⟩
  case round =>
    obtain ⟨k, q, hk, rfl, rfl, hq⟩ := hrel
    by_cases hlt : k < ws.length
    · have hll : k < ls.length := by have := hwl.out; omega
      obtain ⟨b, off, rfl, hb, hcc⟩ := Row.int_at h.out (by omega)
      obtain ⟨b', off', rfl, hb', hcc'⟩ := Row.int_at g.out (by omega)
      have hlt' : (k : Int) < (ls.length : Int) := by omega
      have hlw : (k : Int) < (ws.length : Int) := by omega
      have c1 := hcc k (by omega)
      have c2 := hcc' k hll
      clear hcc hcc'
      have hs := Hst.out k hll hlt
      have hb1 := Hb.out k (by omega)
      have hx := Hw.out k (by omega)
      have hy := Hl.out k hll
      rw [← hq.out] at hs hb1
      generalize ws[k] = x at c1 hs hx
      generalize ls[k] = y at c2 hs hy
      have p1 : 0 ≤ x * y := Int.mul_nonneg (by omega) (by omega)
      have p2 : x * y ≤ 1000 * 1000 := Int.mul_le_mul (by omega) (by omega) (by omega) (by omega)
      have e1 : wrap64 (x * y) = x * y := IntWalk.wrap64_in _ (by omega)
      have e2 : wrap64 (q + x * y) = q + x * y := IntWalk.wrap64_in _ (by omega)
      have hs2 := Lib.hid hs
      clear hs p1 p2
      go_wp2
      go_round
      case rel => exact ⟨k + 1, q + x * y, by omega, by go_num, by go_num, hs2.out.symm⟩
      case measure => simp [intOf]; omega
    · obtain rfl : k = ws.length := by omega
      obtain rfl := hq.out.trans Hall.out
      go_wp2
      go_ret
      exact ⟨rfl, rfl⟩
theorem scoOf_no {ws ls : List Int} (h : W.coOk ws ls = false) : W.coOf ws ls = 0 := by unfold W.coOf; rw [h]; rfl
theorem scoOf_yes {ws ls : List Int} (h : W.coOk ws ls = true) : W.coOf ws ls = W.costI ws ls := by unfold W.coOf; rw [h]; rfl
end Go.Proofs.Ytelfchoeielmhaa
