/-
  WHAT THIS FILE PROVES: the specification's tests of weights and lengths, their cost, Kraft's sum of lengths up to eleven, and the formula for even weights; asked: slices in memory, lengths that an int holds.
-/
import Derived.Test.YtopjhelpoigjbaaBe
import Derived.Test.YtopjhelpoigjbaaIn
import Derived.Test.YtopjhelpoigjbaaArith
import Derived.Test.YtopjhelpoigjbaaKrS
import Derived.OwnWalk
import Derived.BigQuiet
namespace Go.Proofs.Ytopjhelpoigjbaa
open Go.RowKit Go.Shelf

theorem beN_all (m : Int) (z : List Int) (h : 1 ≤ z.length ∧ z.length ≤ 12) : W.beN m z = z.all (inR 1 m) := by
  unfold W.beN
  rw [decide_eq_true h]
  rfl
theorem beN_no (m : Int) (z : List Int) (h : ¬ (1 ≤ z.length ∧ z.length ≤ 12)) : W.beN m z = false := by
  unfold W.beN
  rw [decide_eq_false h]
  rfl
theorem spec_beWeights (A : Option Addr) (z : List Int) (c : Nat) (w : World) (h : Row w w.heap.size A (ints z)) (hl : z.length ≤ 9223372036854775807) :
    Calls Try.prog 31 #[.slice A z.length c] w fun e w' => e = .returned (.bool (W.beN 100 z)) ∧ w = w' := by
  have hin := fun u => spec_l1In (z.length : Int) 1 12 u
  by_cases h1 : 1 ≤ z.length ∧ z.length ≤ 12
  · rw [beN_all 100 z h1]
    have ha := fun u (hu : Row u u.heap.size A (ints z)) => spec_l1AllR A z c 1 100 u hu (by omega)
    rw [decide_eq_true (show (1 : Int) ≤ z.length ∧ (z.length : Int) ≤ 12 by omega)] at hin
    have ha1 := Lib.hid (ha w h)
    generalize z.all (inR 1 100) = r at ha1 ⊢
    replace hin := Lib.hid hin
    clear ha h h1
    go_enter Try.func31, Try.ntmps31
    go_wp2_with (first | (go_at_call 27; refine (hin.out _).mono ?_; rintro e w' ⟨rfl, rfl⟩) | (go_at_call 47; refine ha1.out.mono ?_; rintro e w' ⟨rfl, rfl⟩))
    go_ret
    exact ⟨rfl, rfl⟩
  · rw [beN_no 100 z h1]
    rw [decide_eq_false (show ¬ ((1 : Int) ≤ z.length ∧ (z.length : Int) ≤ 12) by omega)] at hin
    replace hin := Lib.hid hin
    clear h h1
    go_enter Try.func31, Try.ntmps31
    go_wp2_with (go_at_call 27; refine (hin.out _).mono ?_; rintro e w' ⟨rfl, rfl⟩)
    go_ret
    exact ⟨rfl, rfl⟩
theorem spec_beLengths (A : Option Addr) (z : List Int) (c : Nat) (w : World) (h : Row w w.heap.size A (ints z)) (hl : z.length ≤ 9223372036854775807) :
    Calls Try.prog 32 #[.slice A z.length c] w fun e w' => e = .returned (.bool (W.beN 11 z)) ∧ w = w' := by
  have hin := fun u => spec_l1In (z.length : Int) 1 12 u
  by_cases h1 : 1 ≤ z.length ∧ z.length ≤ 12
  · rw [beN_all 11 z h1]
    have ha := fun u (hu : Row u u.heap.size A (ints z)) => spec_l1AllR A z c 1 11 u hu (by omega)
    rw [decide_eq_true (show (1 : Int) ≤ z.length ∧ (z.length : Int) ≤ 12 by omega)] at hin
    have ha1 := Lib.hid (ha w h)
    generalize z.all (inR 1 11) = r at ha1 ⊢
    replace hin := Lib.hid hin
    clear ha h h1
    go_enter Try.func32, Try.ntmps32
    go_wp2_with (first | (go_at_call 27; refine (hin.out _).mono ?_; rintro e w' ⟨rfl, rfl⟩) | (go_at_call 47; refine ha1.out.mono ?_; rintro e w' ⟨rfl, rfl⟩))
    go_ret
    exact ⟨rfl, rfl⟩
  · rw [beN_no 11 z h1]
    rw [decide_eq_false (show ¬ ((1 : Int) ≤ z.length ∧ (z.length : Int) ≤ 12) by omega)] at hin
    replace hin := Lib.hid hin
    clear h h1
    go_enter Try.func32, Try.ntmps32
    go_wp2_with (go_at_call 27; refine (hin.out _).mono ?_; rintro e w' ⟨rfl, rfl⟩)
    go_ret
    exact ⟨rfl, rfl⟩
set_option maxHeartbeats 800000 in
theorem spec_beCost (A B : Option Addr) (ws ls : List Int) (c d : Nat) (w : World) (h : Row w w.heap.size A (ints ws)) (g : Row w w.heap.size B (ints ls)) (h1 : ws.all (fun x => decide (1 ≤ x ∧ x ≤ 100)) = true) (h2 : ls.all (fun x => decide (1 ≤ x ∧ x ≤ 11)) = true) (hw : ws.length = ls.length) (h12 : ws.length ≤ 12) :
    Calls Try.prog 33 #[.slice A ws.length c, .slice B ls.length d] w fun e w' => e = .returned (.int .i64 (W.costI ws ls)) ∧ w = w' := by
  obtain ⟨r, hr⟩ : ∃ r, r = W.costI ws ls := ⟨_, rfl⟩
  rw [← hr]
  have Hall := Lib.hid (show W.costI ws (ls.take ws.length) = r by rw [hr, hw, List.take_length])
  have Hst := Lib.hid (fun k (hk : k < ls.length) (hk2 : k < ws.length) => W.costI_take_succ ws ls k hk hk2)
  have Hb := Lib.hid (fun k (hk : k ≤ ls.length) => W.costI_bounds h1 h2 (by omega) (by omega) (by omega) k hk)
  have Hw := Lib.hid (fun k (hk : k < ws.length) => W.all_at h1 k hk)
  have Hl := Lib.hid (fun k (hk : k < ls.length) => W.all_at h2 k hk)
  have H0 := Lib.hid (show W.costI ws (ls.take 0) = 0 by rw [List.take_zero, W.costI_nil])
  replace h := Lib.hid h
  replace g := Lib.hid g
  have hwl : Hid (ws.length = ls.length) := hw
  clear h1 h2 hr hw
  go_enter Try.func33, Try.ntmps33
  go_wp2
  go_loop [5, 10] (fun s i => ∃ (k : Nat) (q : Int), k ≤ ws.length ∧ i = .int .i64 k ∧ s = .int .i64 q ∧ Hid (q = W.costI ws (ls.take k))) (fun _ i => ws.length - (intOf i).toNat)
  case atStart => exact ⟨0, 0, Nat.zero_le _, rfl, rfl, H0.out.symm⟩
  case round =>
    obtain ⟨k, q, hk, rfl, rfl, hq⟩ := hrel
    by_cases hlt : k < ws.length
    · have hll : k < ls.length := by have := hwl.out; omega
      obtain ⟨b, off, rfl, hb, hcc⟩ := Row.int_at h.out (by omega)
      obtain ⟨b', off', rfl, hb', hcc'⟩ := Row.int_at g.out (by omega)
      have hlt' : (k : Int) < (ls.length : Int) := by omega
      have hlw : (k : Int) < (ws.length : Int) := by omega
      have c1 := hcc k (by omega)
      have c2 := hcc' k hll
      clear hcc hcc'
      have hs := Hst.out k hll hlt
      have hb1 := Hb.out k (by omega)
      have hx := Hw.out k (by omega)
      have hy := Hl.out k hll
      rw [← hq.out] at hs hb1
      generalize ws[k] = x at c1 hs hx
      generalize ls[k] = y at c2 hs hy
      have p1 : 0 ≤ x * y := Int.mul_nonneg (by omega) (by omega)
      have p2 : x * y ≤ 1000 * 1000 := Int.mul_le_mul (by omega) (by omega) (by omega) (by omega)
      have e1 : wrap64 (x * y) = x * y := IntWalk.wrap64_in _ (by omega)
      have e2 : wrap64 (q + x * y) = q + x * y := IntWalk.wrap64_in _ (by omega)
      have hs2 := Lib.hid hs
      clear hs p1 p2
      go_wp2
      go_round
      case rel => exact ⟨k + 1, q + x * y, by omega, by go_num, by go_num, hs2.out.symm⟩
      case measure => simp [intOf]; omega
    · obtain rfl : k = ws.length := by omega
      obtain rfl := hq.out.trans Hall.out
      go_wp2
      go_ret
      exact ⟨rfl, rfl⟩
theorem scoOf_no {ws ls : List Int} (h : W.coOk ws ls = false) : W.coOf ws ls = 0 := by unfold W.coOf; rw [h]; rfl
theorem scoOf_yes {ws ls : List Int} (h : W.coOk ws ls = true) : W.coOf ws ls = W.costI ws ls := by unfold W.coOf; rw [h]; rfl
set_option maxHeartbeats 1600000 in
theorem spec_CostOf (A : Option Addr) (ws : List Int) (c : Nat) (B : Option Addr) (ls : List Int) (d : Nat) (w : World) (h : Row w w.heap.size A (ints ws)) (hl : ws.length ≤ 9223372036854775807) (g : Row w w.heap.size B (ints ls)) (hl2 : ls.length ≤ 9223372036854775807) :
    Calls Try.prog 11 #[.slice A ws.length c, .slice B ls.length d] w fun e w' => e = .returned (.tuple #[.int .i64 (W.coOf ws ls), .bool (W.coOk ws ls)]) ∧ Below w.heap.size w w' := by
  have hc := spec_beWeights A ws c w h hl
  cases hq : W.beN 100 ws
  · have hno : W.coOk ws ls = false := by unfold W.coOk; rw [hq]; rfl
    rw [scoOf_no hno, hno]
    rw [hq] at hc
    replace hc := Lib.hid hc
    clear h g hq hno
    go_enter Try.func11, Try.ntmps11
    go_wp2_with (go_at_call 31; refine hc.out.mono ?_; rintro e w' ⟨rfl, rfl⟩)
    go_ret2
    exact ⟨rfl, Below.refl _ _⟩
  · rw [hq] at hc
    replace hc := Lib.hid hc
    have hd := spec_beLengths B ls d w g hl2
    cases hq2 : W.beN 11 ls
    · have hno : W.coOk ws ls = false := by unfold W.coOk; rw [hq2, Bool.false_and, Bool.and_false]
      rw [scoOf_no hno, hno]
      rw [hq2] at hd
      replace hd := Lib.hid hd
      clear h g hq hq2 hno
      go_enter Try.func11, Try.ntmps11
      go_wp2_with (first | (go_at_call 31; refine hc.out.mono ?_; rintro e w' ⟨rfl, rfl⟩) | (go_at_call 32; refine hd.out.mono ?_; rintro e w' ⟨rfl, rfl⟩))
      go_ret2
      exact ⟨rfl, Below.refl _ _⟩
    · rw [hq2] at hd
      replace hd := Lib.hid hd
      obtain ⟨hw12, hwa⟩ := W.beN_parts hq
      obtain ⟨hl12, hla⟩ := W.beN_parts hq2
      by_cases hlen : ws.length = ls.length
      · have hyes : W.coOk ws ls = true := by unfold W.coOk; rw [hq, hq2, decide_eq_true hlen]; rfl
        rw [scoOf_yes hyes, hyes]
        have hcost := spec_beCost A B ws ls c d w h g hwa hla hlen hw12.2
        replace hcost := Lib.hid hcost
        have hlen' : ((ws.length : Int) != (ls.length : Int)) = false := by rw [hlen]; simp
        have hlen2 : ((ws.length : Int) == (ls.length : Int)) = true := by rw [hlen]; simp
        clear h g hq hq2 hyes hwa hla hlen
        go_enter Try.func11, Try.ntmps11
        go_wp2_with (first | (go_at_call 31; refine hc.out.mono ?_; rintro e w' ⟨rfl, rfl⟩) | (go_at_call 32; refine hd.out.mono ?_; rintro e w' ⟨rfl, rfl⟩) | (go_at_call 33; refine hcost.out.mono ?_; rintro e w' ⟨rfl, rfl⟩))
        go_ret2
        exact ⟨rfl, Below.refl _ _⟩
      · have hno : W.coOk ws ls = false := by unfold W.coOk; rw [decide_eq_false hlen, Bool.and_false, Bool.and_false]
        rw [scoOf_no hno, hno]
        have hlen' : ((ws.length : Int) != (ls.length : Int)) = true := by simp; omega
        have hlen2 : ((ws.length : Int) == (ls.length : Int)) = false := by rw [beq_eq_false_iff_ne]; omega
        clear h g hq hq2 hno hwa hla hlen
        go_enter Try.func11, Try.ntmps11
        go_wp2_with (first | (go_at_call 31; refine hc.out.mono ?_; rintro e w' ⟨rfl, rfl⟩) | (go_at_call 32; refine hd.out.mono ?_; rintro e w' ⟨rfl, rfl⟩))
        go_ret2
        exact ⟨rfl, Below.refl _ _⟩
set_option maxHeartbeats 1600000 in
theorem spec_EvenCost (n L : Int) (w : World) :
    Calls Try.prog 9 #[.int .i64 n, .int .i64 L] w fun e w' => e = .returned (.tuple #[.int .i64 ((W.evOf n L : Nat) : Int), .bool (W.evOk n L)]) ∧ Below w.heap.size w w' := by
  have hk := fun u => spec_krLetters L u
  have hin := fun u => spec_l1In n 1 1000000 u
  by_cases h12 : 1 ≤ n ∧ n ≤ 1000000
  · rw [decide_eq_true h12] at hin
    replace hin := Lib.hid hin
    cases hq : W.krLet L
    · have hno : W.evOk n L = false := by unfold W.evOk; rw [hq, Bool.and_false]
      rw [W.evOf_no hno, hno]
      rw [hq] at hk
      replace hk := Lib.hid hk
      clear hq hno h12
      go_enter Try.func9, Try.ntmps9
      go_wp2_with (first | (go_at_call 28; refine (hk.out _).mono ?_; rintro e w' ⟨rfl, rfl⟩) | (go_at_call 27; refine (hin.out _).mono ?_; rintro e w' ⟨rfl, rfl⟩))
      go_ret2
      exact ⟨rfl, Below.refl _ _⟩
    · rw [hq] at hk
      replace hk := Lib.hid hk
      have hok : W.evOk n L = true := by unfold W.evOk; rw [hq, decide_eq_true h12]; rfl
      by_cases h3 : n = 1
      · subst h3
        rw [W.evOf_one hok, hok]
        clear hq hok h12
        go_enter Try.func9, Try.ntmps9
        go_wp2_with (first | (go_at_call 28; refine (hk.out _).mono ?_; rintro e w' ⟨rfl, rfl⟩) | (go_at_call 27; refine (hin.out _).mono ?_; rintro e w' ⟨rfl, rfl⟩))
        go_ret2
        exact ⟨rfl, Below.refl _ _⟩
      · obtain ⟨m, rfl⟩ := Int.eq_ofNat_of_zero_le (show 0 ≤ n by omega)
        obtain ⟨l, rfl, hl2, hl3⟩ := W.let_nat hq
        rw [W.evOf_yes hok (by omega), hok]
        have Hend := Lib.hid (fun d h4 h5 => W.evV_of (L := l) (n := m) (d := d) hl2 (by omega) h4 h5)
        have Hsm := Lib.hid (fun d h4 => W.log_small (L := l) (n := m) (d := d) hl2 h4 (by omega))
        generalize W.evV l m = r at Hend ⊢
        have hne : ((m : Int) == 1) = false := beq_eq_false_iff_ne.2 h3
        have hl2' : (2 : Int) ≤ l := by omega
        have hl3' : (l : Int) ≤ 3 := by omega
        clear hq hok
        go_enter Try.func9, Try.ntmps9
        go_wp2_with (first | (go_at_call 28; refine (hk.out _).mono ?_; rintro e w' ⟨rfl, rfl⟩) | (go_at_call 27; refine (hin.out _).mono ?_; rintro e w' ⟨rfl, rfl⟩))
        go_loop [6, 7] (fun dv pv => ∃ d p : Nat, dv = .int .i64 d ∧ pv = .int .i64 p ∧ p ≤ m ∧ d < 20 ∧ Hid (p = l ^ d)) (fun dv _ => 20 - (intOf dv).toNat)
        case atStart => exact ⟨0, 1, rfl, rfl, by omega, by omega, rfl⟩
        case round =>
          obtain ⟨d, p, rfl, rfl, hpm, hd, hp⟩ := hrel
          have hpl3 : p * l ≤ p * 3 := Nat.mul_le_mul_left _ hl3
          have e1 : wrap64 ((p : Int) * (l : Int)) = ((p * l : Nat) : Int) := mul_wrap p l (by omega)
          have hnx := Lib.hid (show p * l = l ^ (d + 1) by rw [hp.out, Nat.pow_succ])
          by_cases hlt : p * l ≤ m
          · have hlt' : ((p * l : Nat) : Int) ≤ (m : Int) := by omega
            have hd2 := Hsm.out (d + 1) (by rw [← hnx.out]; exact hlt)
            generalize p * l = pl at *
            go_wp2
            go_round
            case rel => exact ⟨d + 1, pl, by go_num, by rw [e1], hlt, hd2, hnx.out⟩
            case measure => simp [intOf]; omega
          · have hend := Hend.out d (by rw [← hp.out]; exact hpm) (by rw [← hp.out]; omega)
            rw [← hp.out] at hend
            have hlt' : ¬ ((p * l : Nat) : Int) ≤ (m : Int) := by omega
            have hle : (m - p + (l - 2)) / (l - 1) ≤ 2000000 := Nat.le_trans (Nat.div_le_self _ _) (by omega)
            have e3 : ((m : Int) - (p : Int) + (l : Int) - 2) / ((l : Int) - 1) = (((m - p + (l - 2)) / (l - 1) : Nat) : Int) := by
              rw [Int.natCast_ediv]
              congr 1 <;> omega
            generalize (m - p + (l - 2)) / (l - 1) = q at hend e3 hle
            have e4 : wrap64 (((m : Int) - (p : Int) + (l : Int) - 2) / ((l : Int) - 1)) = (q : Int) := by rw [e3]; exact IntWalk.wrap64_in _ (by omega)
            have hdm : d * m ≤ 20 * 1000000 := Nat.mul_le_mul (by omega) (by omega)
            have e2 : wrap64 ((d : Int) * (m : Int)) = ((d * m : Nat) : Int) := mul_wrap d m (by omega)
            generalize d * m = dm at hend hdm e2
            have hpmi : (p : Int) ≤ (m : Int) := by omega
            have hr : ((r : Nat) : Int) = (dm : Int) + ((m : Int) - (p : Int)) + (q : Int) := by omega
            replace hr := Lib.hid hr
            have hz0 : ((l : Int) - 1 == 0) = false := beq_eq_false_iff_ne.2 (by omega)
            have hz1 : (0 : Int) < (l : Int) - 1 := by omega
            have hz2 : (0 : Int) ≤ (m : Int) - (p : Int) + (l : Int) - 2 := by omega
            clear hend hnx
            generalize p * l = pl at *
            go_wp2
            go_ret2
            refine ⟨?_, Below.refl _ _⟩
            rw [hr.out]
            simp
  · have hno : W.evOk n L = false := by unfold W.evOk; rw [decide_eq_false h12]; rfl
    rw [W.evOf_no hno, hno]
    rw [decide_eq_false h12] at hin
    replace hin := Lib.hid hin
    clear hno h12
    go_enter Try.func9, Try.ntmps9
    go_wp2_with (go_at_call 27; refine (hin.out _).mono ?_; rintro e w' ⟨rfl, rfl⟩)
    go_ret2
    exact ⟨rfl, Below.refl _ _⟩
end Go.Proofs.Ytopjhelpoigjbaa
