/-
  WHAT THIS FILE PROVES: the program's tests of weights and lengths, their cost, and the formula for even weights; asked: slices in memory, lengths that an int holds.
-/
import Derived.Test.YtopjhelpoigjbaaBe
import Derived.Test.YtopjhelpoigjbaaIdxI
import Derived.Test.YtopjhelpoigjbaaArith
import Derived.Test.YtopjhelpoigjbaaKrI
import Derived.Test.YtopjhelpoigjbaaInt
import Derived.OwnWalk
import Derived.BigQuiet
namespace Go.Proofs.Ytopjhelpoigjbaa
open Go.RowKit Go.Shelf

theorem all_any (m : Int) (z : List Int) : (!(z.any fun x => decide (x < 1) || decide (m < x))) = z.all fun x => decide (1 ≤ x ∧ x ≤ m) := by
  rw [List.not_any_eq_all_not]
  congr 1
  funext x
  rw [Bool.eq_iff_iff]
  simp only [Bool.not_eq_true', Bool.or_eq_false_iff, decide_eq_false_iff_not, decide_eq_true_eq]
  omega
theorem outside_box (m x : Int) (bx : Nat) (w : World) (hx : w.cell? ⟨bx, 0, none⟩ = some (.int .i64 m)) :
    Calls Try.prog 53 #[.int .i64 x, .pointer (some ⟨bx, 0, none⟩)] w fun e w' => e = .returned (.bool (decide (x < 1) || decide (m < x))) ∧ w = w' := by
  by_cases h1 : x < 1
  · rw [decide_eq_true h1, Bool.true_or]
    go_enter Try.func53, Try.ntmps53
    go_wp2
    go_ret
    exact ⟨rfl, rfl⟩
  · rw [decide_eq_false h1, Bool.false_or]
    by_cases h2 : m < x
    all_goals
      first | rw [decide_eq_true h2] | rw [decide_eq_false h2]
      go_enter Try.func53, Try.ntmps53
      go_wp2
      go_ret
      exact ⟨rfl, rfl⟩
set_option maxHeartbeats 800000 in
theorem impl_areNumbers (m : Int) (A : Option Addr) (z : List Int) (c : Nat) (w : World) (h : Row w w.heap.size A (ints z)) (hl : z.length ≤ 9223372036854775807) :
    Calls Try.prog 48 #[.slice A z.length c, .int .i64 m] w fun e w' => e = .returned (.bool (W.beN m z)) ∧ Below w.heap.size w w' := by
  have hc := fun (u : World) (hu : Row u u.heap.size A (ints z)) (bx : Nat) (hx : u.cell? ⟨bx, 0, none⟩ = some (.int .i64 m)) => contains_funcI 53 #[.pointer (some ⟨bx, 0, none⟩)] (enters_of Try.func53 (by kernel_rfl) rfl) (fun x => decide (x < 1) || decide (m < x)) A z c u hu hl (fun x => outside_box m x bx u hx)
  have hB := Lib.hid ((Below.refl w.heap.size w).alloc (Nat.le_refl _) (.cells #[.int .i64 m] 3))
  have hu := Lib.hid (hc (w.alloc (.cells #[.int .i64 m] 3)) ((h.below hB.out).more hB.out.size) w.heap.size (by rw [World.cell?_alloc_at _ _ _ _ rfl]; rfl))
  have hdef : W.beN m z = (decide (1 ≤ z.length ∧ z.length ≤ 12) && !(z.any fun x => decide (x < 1) || decide (m < x))) := by rw [all_any]; rfl
  rw [hdef]
  clear hdef hc
  generalize (z.any fun x => decide (x < 1) || decide (m < x)) = r at hu ⊢
  clear h
  by_cases h1 : 1 ≤ z.length
  · have h1' : (0 : Int) < (z.length : Int) := by omega
    by_cases h2 : z.length ≤ 12
    · have h2' : (z.length : Int) ≤ 12 := by omega
      rw [decide_eq_true ⟨h1, h2⟩, Bool.true_and]
      go_enter Try.func48, Try.ntmps48
      go_wp2_with fail
      refine hu.out.mono ?_
      rintro e w' ⟨rfl, rfl⟩
      go_wp2
      go_ret
      exact ⟨rfl, hB.out⟩
    · have h2' : ¬ (z.length : Int) ≤ 12 := by omega
      rw [decide_eq_false (fun h => h2 h.2), Bool.false_and]
      go_enter Try.func48, Try.ntmps48
      go_wp2
      go_ret
      exact ⟨rfl, hB.out⟩
  · have h1' : ¬ (0 : Int) < (z.length : Int) := by omega
    rw [decide_eq_false (fun h => h1 h.1), Bool.false_and]
    go_enter Try.func48, Try.ntmps48
    go_wp2
    go_ret
    exact ⟨rfl, hB.out⟩
theorem impl_areWeights (A : Option Addr) (z : List Int) (c : Nat) (w : World) (h : Row w w.heap.size A (ints z)) (hl : z.length ≤ 9223372036854775807) :
    Calls Try.prog 34 #[.slice A z.length c] w fun e w' => e = .returned (.bool (W.beN 100 z)) ∧ Below w.heap.size w w' := by
  have hc := Lib.hid (impl_areNumbers 100 A z c w h hl)
  generalize W.beN 100 z = r at hc ⊢
  clear h
  go_enter Try.func34, Try.ntmps34
  go_wp2_with fail
  refine hc.out.mono ?_
  rintro e w' ⟨rfl, hB⟩
  replace hB := Lib.hid hB
  go_wp2
  go_ret
  exact ⟨rfl, hB.out⟩
theorem impl_areDeepLengths (A : Option Addr) (z : List Int) (c : Nat) (w : World) (h : Row w w.heap.size A (ints z)) (hl : z.length ≤ 9223372036854775807) :
    Calls Try.prog 35 #[.slice A z.length c] w fun e w' => e = .returned (.bool (W.beN 11 z)) ∧ Below w.heap.size w w' := by
  have hc := Lib.hid (impl_areNumbers 11 A z c w h hl)
  generalize W.beN 11 z = r at hc ⊢
  clear h
  go_enter Try.func35, Try.ntmps35
  go_wp2_with fail
  refine hc.out.mono ?_
  rintro e w' ⟨rfl, hB⟩
  replace hB := Lib.hid hB
  go_wp2
  go_ret
  exact ⟨rfl, hB.out⟩
set_option maxHeartbeats 800000 in
theorem impl_costOf (A B : Option Addr) (ws ls : List Int) (c d : Nat) (w : World) (h : Row w w.heap.size A (ints ws)) (g : Row w w.heap.size B (ints ls)) (h1 : ws.all (fun x => decide (1 ≤ x ∧ x ≤ 100)) = true) (h2 : ls.all (fun x => decide (1 ≤ x ∧ x ≤ 11)) = true) (hw : ls.length ≤ ws.length) (h12 : ws.length ≤ 12) :
    Calls Try.prog 36 #[.slice A ws.length c, .slice B ls.length d] w fun e w' => e = .returned (.int .i64 (W.costI ws ls)) ∧ w = w' := by
  obtain ⟨r, hr⟩ : ∃ r, r = W.costI ws ls := ⟨_, rfl⟩
  rw [← hr]
  have Hall := Lib.hid (show W.costI ws (ls.take ls.length) = r by rw [hr, List.take_length])
  have Hst := Lib.hid (fun k (hk : k < ls.length) => W.costI_take_succ ws ls k hk (by omega))
  have Hb := Lib.hid (fun k (hk : k ≤ ls.length) => W.costI_bounds h1 h2 (by omega) (by omega) hw k hk)
  have Hw := Lib.hid (fun k (hk : k < ws.length) => W.all_at h1 k hk)
  have Hl := Lib.hid (fun k (hk : k < ls.length) => W.all_at h2 k hk)
  have H0 := Lib.hid (show W.costI ws (ls.take 0) = 0 by rw [List.take_zero, W.costI_nil])
  replace h := Lib.hid h
  replace g := Lib.hid g
  clear h1 h2 hr
  go_enter Try.func36, Try.ntmps36
  go_wp2
  go_loop [5, 10] (fun s i => ∃ (k : Nat) (q : Int), k ≤ ls.length ∧ i = .int .i64 k ∧ s = .int .i64 q ∧ Hid (q = W.costI ws (ls.take k))) (fun _ i => ls.length - (intOf i).toNat)
  case atStart => exact ⟨0, 0, Nat.zero_le _, rfl, rfl, H0.out.symm⟩
  case round =>
    obtain ⟨k, q, hk, rfl, rfl, hq⟩ := hrel
    by_cases hlt : k < ls.length
    · obtain ⟨b, off, rfl, hb, hcc⟩ := Row.int_at h.out (by omega)
      obtain ⟨b', off', rfl, hb', hcc'⟩ := Row.int_at g.out (by omega)
      have hlt' : (k : Int) < (ls.length : Int) := by omega
      have hlw : (k : Int) < (ws.length : Int) := by omega
      have c1 := hcc k (by omega)
      have c2 := hcc' k hlt
      clear hcc hcc'
      have hs := Hst.out k hlt
      have hb1 := Hb.out k hk
      have hx := Hw.out k (by omega)
      have hy := Hl.out k hlt
      rw [← hq.out] at hs hb1
      generalize ws[k] = x at c1 hs hx
      generalize ls[k] = y at c2 hs hy
      have p1 : 0 ≤ x * y := Int.mul_nonneg (by omega) (by omega)
      have p2 : x * y ≤ 1000 * 1000 := Int.mul_le_mul (by omega) (by omega) (by omega) (by omega)
      have e1 : wrap64 (x * y) = x * y := IntWalk.wrap64_in _ (by omega)
      have e2 : wrap64 (q + x * y) = q + x * y := IntWalk.wrap64_in _ (by omega)
      have hs2 := Lib.hid hs
      clear hs p1 p2
      go_wp2
      go_round
      case rel => exact ⟨k + 1, q + x * y, by omega, by go_num, by go_num, hs2.out.symm⟩
      case measure => simp [intOf]; omega
    · obtain rfl : k = ls.length := by omega
      obtain rfl := hq.out.trans Hall.out
      go_wp2
      go_ret
      exact ⟨rfl, rfl⟩
theorem coOf_no {ws ls : List Int} (h : W.coOk ws ls = false) : W.coOf ws ls = 0 := by unfold W.coOf; rw [h]; rfl
theorem coOf_yes {ws ls : List Int} (h : W.coOk ws ls = true) : W.coOf ws ls = W.costI ws ls := by unfold W.coOf; rw [h]; rfl
set_option maxHeartbeats 1600000 in
theorem impl_CostOf (A : Option Addr) (ws : List Int) (c : Nat) (B : Option Addr) (ls : List Int) (d : Nat) (w : World) (h : Row w w.heap.size A (ints ws)) (hl : ws.length ≤ 9223372036854775807) (g : Row w w.heap.size B (ints ls)) (hl2 : ls.length ≤ 9223372036854775807) :
    Calls Try.prog 13 #[.slice A ws.length c, .slice B ls.length d] w fun e w' => e = .returned (.tuple #[.int .i64 (W.coOf ws ls), .bool (W.coOk ws ls)]) ∧ Below w.heap.size w w' := by
  have hc := impl_areWeights A ws c w h hl
  cases hq : W.beN 100 ws
  · have hno : W.coOk ws ls = false := by unfold W.coOk; rw [hq]; rfl
    rw [coOf_no hno, hno]
    rw [hq] at hc
    replace hc := Lib.hid hc
    clear h g hq hno
    go_enter Try.func13, Try.ntmps13
    go_wp2_with fail
    refine hc.out.mono ?_
    rintro e w1 ⟨rfl, hB⟩
    replace hB := Lib.hid hB
    go_wp2
    go_ret2
    exact ⟨rfl, hB.out⟩
  · rw [hq] at hc
    replace hc := Lib.hid hc
    have hd := fun (u : World) (hu : Below w.heap.size w u) => impl_areDeepLengths B ls d u ((g.below hu).more hu.size) hl2
    cases hq2 : W.beN 11 ls
    · have hno : W.coOk ws ls = false := by unfold W.coOk; rw [hq2, Bool.false_and, Bool.and_false]
      rw [coOf_no hno, hno]
      rw [hq2] at hd
      replace hd := Lib.hid hd
      clear h g hq hq2 hno
      go_enter Try.func13, Try.ntmps13
      go_wp2_with fail
      refine hc.out.mono ?_
      rintro e w1 ⟨rfl, hB⟩
      have hd1 := Lib.hid (hd.out w1 hB)
      replace hB := Lib.hid hB
      go_wp2_with fail
      refine hd1.out.mono ?_
      rintro e w2 ⟨rfl, hB2⟩
      have hB3 := Lib.hid (hB.out.trans (hB2.mono hB.out.size))
      clear hB2
      go_wp2
      go_ret2
      exact ⟨rfl, hB3.out⟩
    · rw [hq2] at hd
      replace hd := Lib.hid hd
      obtain ⟨hw12, hwa⟩ := W.beN_parts hq
      obtain ⟨hl12, hla⟩ := W.beN_parts hq2
      by_cases hlen : ws.length = ls.length
      · have hyes : W.coOk ws ls = true := by unfold W.coOk; rw [hq, hq2, decide_eq_true hlen]; rfl
        rw [coOf_yes hyes, hyes]
        have hcost := fun (u : World) (hu : Below w.heap.size w u) => impl_costOf A B ws ls c d u ((h.below hu).more hu.size) ((g.below hu).more hu.size) hwa hla (by omega) hw12.2
        replace hcost := Lib.hid hcost
        have hlen' : ((ws.length : Int) != (ls.length : Int)) = false := by rw [hlen]; simp
        have hlen2 : ((ws.length : Int) == (ls.length : Int)) = true := by rw [hlen]; simp
        clear h g hq hq2 hyes hwa hla hlen
        go_enter Try.func13, Try.ntmps13
        go_wp2_with fail
        refine hc.out.mono ?_
        rintro e w1 ⟨rfl, hB⟩
        have hd1 := Lib.hid (hd.out w1 hB)
        replace hB := Lib.hid hB
        go_wp2_with fail
        refine hd1.out.mono ?_
        rintro e w2 ⟨rfl, hB2⟩
        have hB3 := Lib.hid (hB.out.trans (hB2.mono hB.out.size))
        have hc3 := Lib.hid (hcost.out w2 hB3.out)
        clear hB2
        go_wp2_with fail
        refine hc3.out.mono ?_
        rintro e w3 ⟨rfl, rfl⟩
        go_wp2
        go_ret2
        exact ⟨rfl, hB3.out⟩
      · have hno : W.coOk ws ls = false := by unfold W.coOk; rw [decide_eq_false hlen, Bool.and_false, Bool.and_false]
        rw [coOf_no hno, hno]
        have hlen' : ((ws.length : Int) != (ls.length : Int)) = true := by simp; omega
        have hlen2 : ((ws.length : Int) == (ls.length : Int)) = false := by rw [beq_eq_false_iff_ne]; omega
        clear h g hq hq2 hno hwa hla hlen
        go_enter Try.func13, Try.ntmps13
        go_wp2_with fail
        refine hc.out.mono ?_
        rintro e w1 ⟨rfl, hB⟩
        have hd1 := Lib.hid (hd.out w1 hB)
        replace hB := Lib.hid hB
        go_wp2_with fail
        refine hd1.out.mono ?_
        rintro e w2 ⟨rfl, hB2⟩
        have hB3 := Lib.hid (hB.out.trans (hB2.mono hB.out.size))
        clear hB2
        go_wp2
        go_ret2
        exact ⟨rfl, hB3.out⟩
theorem impl_quotientUp (a d : Nat) (w : World) (ha : a ≤ 1000000000) (hd : 1 ≤ d) (hd2 : d ≤ 1000000000) :
    Calls Try.prog 30 #[.int .i64 a, .int .i64 d] w fun e w' => e = .returned (.int .i64 (((a + d - 1) / d : Nat) : Int)) ∧ w = w' := by
  have e1 : ((a : Int) + (d : Int) - 1) / (d : Int) = (((a + d - 1) / d : Nat) : Int) := by
    rw [show ((a : Int) + (d : Int) - 1) = ((a + d - 1 : Nat) : Int) by omega, Int.natCast_ediv]
  have hle : (a + d - 1) / d ≤ 2000000000 := Nat.le_trans (Nat.div_le_self _ _) (by omega)
  generalize (a + d - 1) / d = q at e1 hle ⊢
  have e2 : wrap64 (((a : Int) + (d : Int) - 1) / (d : Int)) = (q : Int) := by rw [e1]; exact IntWalk.wrap64_in _ (by omega)
  have hd0 : ((d : Int) == 0) = false := beq_eq_false_iff_ne.2 (by omega)
  have hdp : (0 : Int) < (d : Int) := by omega
  have hn0 : (0 : Int) ≤ (a : Int) + (d : Int) - 1 := by omega
  go_enter Try.func30, Try.ntmps30
  go_wp2
  go_ret
  refine ⟨?_, rfl⟩
  simp
  exact e1
set_option maxHeartbeats 1600000 in
theorem impl_EvenCost (n L : Int) (w : World) :
    Calls Try.prog 10 #[.int .i64 n, .int .i64 L] w fun e w' => e = .returned (.tuple #[.int .i64 ((W.evOf n L : Nat) : Int), .bool (W.evOk n L)]) ∧ Below w.heap.size w w' := by
  have hk := fun u => impl_areLetters L u
  cases hq : W.krLet L
  · have hno : W.evOk n L = false := by unfold W.evOk; rw [hq, Bool.and_false]
    rw [W.evOf_no hno, hno]
    rw [hq] at hk
    replace hk := Lib.hid hk
    clear hq hno
    go_enter Try.func10, Try.ntmps10
    go_wp2_with (go_at_call 29; refine (hk.out _).mono ?_; rintro e w' ⟨rfl, rfl⟩)
    go_ret2
    exact ⟨rfl, Below.refl _ _⟩
  · rw [hq] at hk
    replace hk := Lib.hid hk
    by_cases h1 : 1 ≤ n
    · by_cases h2 : n ≤ 1000000
      · have hok : W.evOk n L = true := by unfold W.evOk; rw [hq, decide_eq_true ⟨h1, h2⟩]; rfl
        have hnl : ¬ (n < 1) := by omega
        have hng : ¬ (1000000 < n) := by omega
        by_cases h3 : n = 1
        · subst h3
          rw [W.evOf_one hok, hok]
          clear hq hok
          go_enter Try.func10, Try.ntmps10
          go_wp2_with (go_at_call 29; refine (hk.out _).mono ?_; rintro e w' ⟨rfl, rfl⟩)
          go_ret2
          exact ⟨rfl, Below.refl _ _⟩
        · obtain ⟨m, rfl⟩ := Int.eq_ofNat_of_zero_le (show 0 ≤ n by omega)
          obtain ⟨l, rfl, hl2, hl3⟩ := W.let_nat hq
          rw [W.evOf_yes hok (by omega), hok]
          have Hend := Lib.hid (fun d h4 h5 => W.evV_of (L := l) (n := m) (d := d) hl2 (by omega) h4 h5)
          have Hsm := Lib.hid (fun d h4 => W.log_small (L := l) (n := m) (d := d) hl2 h4 (by omega))
          generalize W.evV l m = r at Hend ⊢
          have hne : ((m : Int) == 1) = false := beq_eq_false_iff_ne.2 h3
          have hl2' : (2 : Int) ≤ l := by omega
          have hl3' : (l : Int) ≤ 3 := by omega
          clear hq hok
          go_enter Try.func10, Try.ntmps10
          go_wp2_with (go_at_call 29; refine (hk.out _).mono ?_; rintro e w' ⟨rfl, rfl⟩)
          go_loop [6, 7] (fun dv pv => ∃ d p : Nat, dv = .int .i64 d ∧ pv = .int .i64 p ∧ p ≤ m ∧ d < 20 ∧ Hid (p = l ^ d)) (fun dv _ => 20 - (intOf dv).toNat)
          case atStart => exact ⟨0, 1, rfl, rfl, by omega, by omega, rfl⟩
          case round =>
            obtain ⟨d, p, rfl, rfl, hpm, hd, hp⟩ := hrel
            have hpl3 : p * l ≤ p * 3 := Nat.mul_le_mul_left _ hl3
            have e1 : wrap64 ((p : Int) * (l : Int)) = ((p * l : Nat) : Int) := mul_wrap p l (by omega)
            have hnx := Lib.hid (show p * l = l ^ (d + 1) by rw [hp.out, Nat.pow_succ])
            by_cases hlt : p * l ≤ m
            · have hlt' : ((p * l : Nat) : Int) ≤ (m : Int) := by omega
              have hd2 := Hsm.out (d + 1) (by rw [← hnx.out]; exact hlt)
              generalize p * l = pl at *
              go_wp2
              go_round
              case rel => exact ⟨d + 1, pl, by go_num, by rw [e1], hlt, hd2, hnx.out⟩
              case measure => simp [intOf]; omega
            · have hend := Hend.out d (by rw [← hp.out]; exact hpm) (by rw [← hp.out]; omega)
              rw [← hp.out] at hend
              have hlt' : ¬ ((p * l : Nat) : Int) ≤ (m : Int) := by omega
              have hqc := fun u => impl_quotientUp (m - p) (l - 1) u (by omega) (by omega) (by omega)
              rw [show m - p + (l - 1) - 1 = m - p + (l - 2) by omega] at hqc
              have hle : (m - p + (l - 2)) / (l - 1) ≤ 2000000 := Nat.le_trans (Nat.div_le_self _ _) (by omega)
              generalize (m - p + (l - 2)) / (l - 1) = q at hend hqc hle
              have hc1 : ((m - p : Nat) : Int) = (m : Int) - (p : Int) := by omega
              have hc2 : ((l - 1 : Nat) : Int) = (l : Int) - 1 := by omega
              rw [hc1, hc2] at hqc
              have hdm : d * m ≤ 20 * 1000000 := Nat.mul_le_mul (by omega) (by omega)
              have e2 : wrap64 ((d : Int) * (m : Int)) = ((d * m : Nat) : Int) := mul_wrap d m (by omega)
              generalize d * m = dm at hend hdm e2
              have hpmi : (p : Int) ≤ (m : Int) := by omega
              have hr : ((r : Nat) : Int) = (dm : Int) + ((m : Int) - (p : Int)) + (q : Int) := by omega
              replace hr := Lib.hid hr
              replace hqc := Lib.hid hqc
              clear hend hnx hc1 hc2
              generalize p * l = pl at *
              go_wp2_with (go_at_call 30; refine (hqc.out _).mono ?_; rintro e w' ⟨rfl, rfl⟩)
              go_ret2
              refine ⟨?_, Below.refl _ _⟩
              rw [hr.out]
              simp
      · have hno : W.evOk n L = false := by unfold W.evOk; rw [decide_eq_false (fun h => h2 h.2)]; rfl
        rw [W.evOf_no hno, hno]
        have hnl : ¬ (n < 1) := by omega
        have hng : 1000000 < n := by omega
        clear hq hno
        go_enter Try.func10, Try.ntmps10
        go_wp2_with (go_at_call 29; refine (hk.out _).mono ?_; rintro e w' ⟨rfl, rfl⟩)
        go_ret2
        exact ⟨rfl, Below.refl _ _⟩
    · have hno : W.evOk n L = false := by unfold W.evOk; rw [decide_eq_false (fun h => h1 h.1)]; rfl
      rw [W.evOf_no hno, hno]
      have hnl : n < 1 := by omega
      clear hq hno
      go_enter Try.func10, Try.ntmps10
      go_wp2_with (go_at_call 29; refine (hk.out _).mono ?_; rintro e w' ⟨rfl, rfl⟩)
      go_ret2
      exact ⟨rfl, Below.refl _ _⟩
end Go.Proofs.Ytopjhelpoigjbaa
