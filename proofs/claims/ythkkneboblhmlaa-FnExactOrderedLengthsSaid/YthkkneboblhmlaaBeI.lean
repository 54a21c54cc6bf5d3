/-
  WHAT THIS FILE PROVES: the program's tests of weights and lengths, their cost, and the formula for even weights; asked: slices in memory, lengths that an int holds.
-/
import Derived.Test.YthkkneboblhmlaaBe
import Derived.Test.YthkkneboblhmlaaIdxI
import Derived.Test.YthkkneboblhmlaaArith
import Derived.Test.YthkkneboblhmlaaKrI
import Derived.Test.YthkkneboblhmlaaInt
import Derived.OwnWalk
import Derived.BigQuiet
namespace Go.Proofs.Ythkkneboblhmlaa
open Go.RowKit Go.Shelf

theorem all_any (m : Int) (z : List Int) : (!(z.any fun x => decide (x < 1) || decide (m < x))) = z.all fun x => decide (1 ≤ x ∧ x ≤ m) := by
  rw [List.not_any_eq_all_not]
  congr 1
  funext x
  rw [Bool.eq_iff_iff]
  simp only [Bool.not_eq_true', Bool.or_eq_false_iff, decide_eq_false_iff_not, decide_eq_true_eq]
  omega
theorem outside_box (m x : Int) (bx : Nat) (w : World) (hx : w.cell? ⟨bx, 0, none⟩ = some (.int .i64 m)) :
    Calls Try.prog 60 #[.int .i64 x, .pointer (some ⟨bx, 0, none⟩)] w fun e w' => e = .returned (.bool (decide (x < 1) || decide (m < x))) ∧ w = w' := by
  by_cases h1 : x < 1
  · rw [decide_eq_true h1, Bool.true_or]
    go_enter Try.func60, Try.ntmps60
    go_wp2
    go_ret
    exact ⟨rfl, rfl⟩
  · rw [decide_eq_false h1, Bool.false_or]
    by_cases h2 : m < x
    all_goals
      first | rw [decide_eq_true h2] | rw [decide_eq_false h2]
      go_enter Try.func60, Try.ntmps60
      go_wp2
      go_ret
      exact ⟨rfl, rfl⟩
set_option maxHeartbeats 800000 in
theorem impl_areNumbers (m : Int) (A : Option Addr) (z : List Int) (c : Nat) (w : World) (h : Row w w.heap.size A (ints z)) (hl : z.length ≤ 9223372036854775807) :
    Calls Try.prog 52 #[.slice A z.length c, .int .i64 m] w fun e w' => e = .returned (.bool (W.beN m z)) ∧ Below w.heap.size w w' := by
  have hc := fun (u : World) (hu : Row u u.heap.size A (ints z)) (bx : Nat) (hx : u.cell? ⟨bx, 0, none⟩ = some (.int .i64 m)) => contains_funcI 60 #[.pointer (some ⟨bx, 0, none⟩)] (enters_of Try.func60 (by kernel_rfl) rfl) (fun x => decide (x < 1) || decide (m < x)) A z c u hu hl (fun x => outside_box m x bx u hx)
  have hB := Lib.hid ((Below.refl w.heap.size w).alloc (Nat.le_refl _) (.cells #[.int .i64 m] 3))
  have hu := Lib.hid (hc (w.alloc (.cells #[.int .i64 m] 3)) ((h.below hB.out).more hB.out.size) w.heap.size (by rw [World.cell?_alloc_at _ _ _ _ rfl]; rfl))
  have hdef : W.beN m z = (decide (1 ≤ z.length ∧ z.length ≤ 12) && !(z.any fun x => decide (x < 1) || decide (m < x))) := by rw [all_any]; rfl
  rw [hdef]
  clear hdef hc
  generalize (z.any fun x => decide (x < 1) || decide (m < x)) = r at hu ⊢
  clear h
  by_cases h1 : 1 ≤ z.length
  · have h1' : (0 : Int) < (z.length : Int) := by omega
    by_cases h2 : z.length ≤ 12
    · have h2' : (z.length : Int) ≤ 12 := by omega
      rw [decide_eq_true ⟨h1, h2⟩, Bool.true_and]
      go_enter Try.func52, Try.ntmps52
      go_wp2_with fail
      refine hu.out.mono ?_
      rintro e w' ⟨rfl, rfl⟩
      go_wp2
      go_ret
      exact ⟨rfl, hB.out⟩
    · have h2' : ¬ (z.length : Int) ≤ 12 := by omega
      rw [decide_eq_false (fun h => h2 h.2), Bool.false_and]
      go_enter Try.func52, Try.ntmps52
      go_wp2
      go_ret
      exact ⟨rfl, hB.out⟩
  · have h1' : ¬ (0 : Int) < (z.length : Int) := by omega
    rw [decide_eq_false (fun h => h1 h.1), Bool.false_and]
    go_enter Try.func52, Try.ntmps52
    go_wp2
    go_ret
    exact ⟨rfl, hB.out⟩
theorem impl_areWeights (A : Option Addr) (z : List Int) (c : Nat) (w : World) (h : Row w w.heap.size A (ints z)) (hl : z.length ≤ 9223372036854775807) :
    Calls Try.prog 34 #[.slice A z.length c] w fun e w' => e = .returned (.bool (W.beN 100 z)) ∧ Below w.heap.size w w' := by
  have hc := Lib.hid (impl_areNumbers 100 A z c w h hl)
  generalize W.beN 100 z = r at hc ⊢
  clear h
  go_enter Try.func34, Try.ntmps34
  go_wp2_with fail
  refine hc.out.mono ?_
  rintro e w' ⟨rfl, hB⟩
  replace hB := Lib.hid hB
  go_wp2
  go_ret
  exact ⟨rfl, hB.out⟩
set_option maxHeartbeats 800000 in
theorem impl_costOf (A B : Option Addr) (ws ls : List Int) (c d : Nat) (w : World) (h : Row w w.heap.size A (ints ws)) (g : Row w w.heap.size B (ints ls)) (h1 : ws.all (fun x => decide (1 ≤ x ∧ x ≤ 100)) = true) (h2 : ls.all (fun x => decide (1 ≤ x ∧ x ≤ 11)) = true) (hw : ls.length ≤ ws.length) (h12 : ws.length ≤ 12) :
    Calls Try.prog 48 #[.slice A ws.length c, .slice B ls.length d] w fun e w' => e = .returned (.int .i64 (W.costI ws ls)) ∧ w = w' := by
  obtain ⟨r, hr⟩ : ∃ r, r = W.costI ws ls := ⟨_, rfl⟩
  rw [← hr]
  have Hall := Lib.hid (show W.costI ws (ls.take ls.length) = r by rw [hr, List.take_length])
  have Hst := Lib.hid (fun k (hk : k < ls.length) => W.costI_take_succ ws ls k hk (by omega))
  have Hb := Lib.hid (fun k (hk : k ≤ ls.length) => W.costI_bounds h1 h2 (by omega) (by omega) hw k hk)
  have Hw := Lib.hid (fun k (hk : k < ws.length) => W.all_at h1 k hk)
  have Hl := Lib.hid (fun k (hk : k < ls.length) => W.all_at h2 k hk)
  have H0 := Lib.hid (show W.costI ws (ls.take 0) = 0 by rw [List.take_zero, W.costI_nil])
  replace h := Lib.hid h
  replace g := Lib.hid g
  clear h1 h2 hr
  go_enter Try.func48, Try.ntmps48
  go_wp2
  go_loop [5, 10] (fun s i => ∃ (k : Nat) (q : Int), k ≤ ls.length ∧ i = .int .i64 k ∧ s = .int .i64 q ∧ Hid (q = W.costI ws (ls.take k))) (fun _ i => ls.length - (intOf i).toNat)
  case atStart => exact ⟨0, 0, Nat.zero_le _, rfl, rfl, H0.out.symm⟩
  case round =>
    obtain ⟨k, q, hk, rfl, rfl, hq⟩ := hrel
    by_cases hlt : k < ls.length
    · obtain ⟨b, off, rfl, hb, hcc⟩ := Row.int_at h.out (by omega)
      obtain ⟨b', off', rfl, hb', hcc'⟩ := Row.int_at g.out (by omega)
      have hlt' : (k : Int) < (ls.length : Int) := by omega
      have hlw : (k : Int) < (ws.length : Int) := by omega
      have c1 := hcc k (by omega)
      have c2 := hcc' k hlt
      clear hcc hcc'
      have hs := Hst.out k hlt
      have hb1 := Hb.out k hk
      have hx := Hw.out k (by omega)
      have hy := Hl.out k hlt
      rw [← hq.out] at hs hb1
      generalize ws[k] = x at c1 hs hx
      generalize ls[k] = y at c2 hs hy
      have p1 : 0 ≤ x * y := Int.mul_nonneg (by omega) (by omega)
      have p2 : x * y ≤ 1000 * 1000 := Int.mul_le_mul (by omega) (by omega) (by omega) (by omega)
      have e1 : wrap64 (x * y) = x * y := IntWalk.wrap64_in _ (by omega)
      have e2 : wrap64 (q + x * y) = q + x * y := IntWalk.wrap64_in _ (by omega)
      have hs2 := Lib.hid hs
      clear hs p1 p2
      go_wp2
      go_round
      case rel => exact ⟨k + 1, q + x * y, by omega, by go_num, by go_num, hs2.out.symm⟩
      case measure => simp [intOf]; omega
    · obtain rfl : k = ls.length := by omega
      obtain rfl := hq.out.trans Hall.out
      go_wp2
      go_ret
      exact ⟨rfl, rfl⟩
theorem coOf_no {ws ls : List Int} (h : W.coOk ws ls = false) : W.coOf ws ls = 0 := by unfold W.coOf; rw [h]; rfl
theorem coOf_yes {ws ls : List Int} (h : W.coOk ws ls = true) : W.coOf ws ls = W.costI ws ls := by unfold W.coOf; rw [h]; rfl
theorem impl_quotientUp (a d : Nat) (w : World) (ha : a ≤ 1000000000) (hd : 1 ≤ d) (hd2 : d ≤ 1000000000) :
    Calls Try.prog 54 #[.int .i64 a, .int .i64 d] w fun e w' => e = .returned (.int .i64 (((a + d - 1) / d : Nat) : Int)) ∧ w = w' := by
  have e1 : ((a : Int) + (d : Int) - 1) / (d : Int) = (((a + d - 1) / d : Nat) : Int) := by
    rw [show ((a : Int) + (d : Int) - 1) = ((a + d - 1 : Nat) : Int) by omega, Int.natCast_ediv]
  have hle : (a + d - 1) / d ≤ 2000000000 := Nat.le_trans (Nat.div_le_self _ _) (by omega)
  generalize (a + d - 1) / d = q at e1 hle ⊢
  have e2 : wrap64 (((a : Int) + (d : Int) - 1) / (d : Int)) = (q : Int) := by rw [e1]; exact IntWalk.wrap64_in _ (by omega)
  have hd0 : ((d : Int) == 0) = false := beq_eq_false_iff_ne.2 (by omega)
  have hdp : (0 : Int) < (d : Int) := by omega
  have hn0 : (0 : Int) ≤ (a : Int) + (d : Int) - 1 := by omega
  go_enter Try.func54, Try.ntmps54
  go_wp2
  go_ret
  refine ⟨?_, rfl⟩
  simp
  exact e1
end Go.Proofs.Ythkkneboblhmlaa
