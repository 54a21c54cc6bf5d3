/-
  WHAT THIS FILE PROVES: merging, the cost of best lengths and whether lengths are best: the specification's exported functions give the plain values; asked: slices in memory, lengths that an int holds.
-/
import Derived.Test.YtelfchoeielmhaaMrS
namespace Go.Proofs.Ytelfchoeielmhaa
open Go.RowKit Go.Shelf

theorem spec_beAsked (A : Option Addr) (z : List Int) (c : Nat) (L : Int) (w : World) (h : Row w w.heap.size A (ints z)) (hl : z.length ≤ 9223372036854775807) :
    Calls Try.prog 19 #[.slice A z.length c, .int .i64 L] w fun e w' => e = .returned (.bool (W.mrOk z L)) ∧ w = w' := by
  have hk := fun u => spec_krLetters L u
  have hw := spec_beWeights A z c w h hl
  unfold W.mrOk
  generalize W.beN 100 z = r at hw ⊢
  cases hq : W.krLet L
  all_goals
    rw [hq] at hk
    first | rw [Bool.and_false] | rw [Bool.and_true]
    replace hk := Lib.hid hk
    replace hw := Lib.hid hw
    clear h hq
    go_enter Try.func19, Try.ntmps19
    go_wp2_with (first | (go_at_call 41; refine (hk.out _).mono ?_; rintro e w' ⟨rfl, rfl⟩) | (go_at_call 42; refine hw.out.mono ?_; rintro e w' ⟨rfl, rfl⟩))
    go_ret
    exact ⟨rfl, rfl⟩
set_option maxHeartbeats 1600000 in
theorem spec_MergeRun (A : Option Addr) (z : List Int) (c : Nat) (L : Int) (w : World) (h : Row w w.heap.size A (ints z)) (hl : z.length ≤ 9223372036854775807) :
    Calls Try.prog 7 #[.slice A z.length c, .int .i64 L] w (OkInts w (W.mrOf z L) (W.mrOk z L)) := by
  have hc := spec_beAsked A z c L w h hl
  cases hq : W.mrOk z L
  · rw [W.mrOf_no hq]
    rw [hq] at hc
    replace hc := Lib.hid hc
    clear h hq
    go_enter Try.func7, Try.ntmps7
    go_wp2_with (go_at_call 19; refine hc.out.mono ?_; rintro e w' ⟨rfl, rfl⟩)
    go_ret2
    exact okInts_nil _ _ _ (Below.refl _ _)
  · rw [hq] at hc
    replace hc := Lib.hid hc
    obtain ⟨hw, hlt⟩ := W.mrOk_parts hq
    obtain ⟨l, rfl, hl2, hl3⟩ := W.let_nat hlt
    rw [W.mrOf_yes hq]
    have hm := Lib.hid (spec_beMerge l A z c w h hw hl2 hl3)
    generalize W.mgAll l z = T at hm ⊢
    clear h hq hw hlt
    go_enter Try.func7, Try.ntmps7
    go_wp2_with (go_at_call 19; refine hc.out.mono ?_; rintro e w' ⟨rfl, rfl⟩)
    refine hm.out.mono ?_
    rintro e w2 ⟨A', c', rfl, ho, hB2⟩
    have hF := Lib.hid (And.intro ho hB2)
    clear ho hB2
    go_wp2
    go_ret2
    exact okInts_of hF.out.1 rfl hF.out.2
set_option maxHeartbeats 1600000 in
theorem spec_beBest (L : Nat) (A : Option Addr) (z : List Int) (c : Nat) (w : World) (h : Row w w.heap.size A (ints z)) (hz : W.beN 100 z = true) (h2 : 2 ≤ L) (h3 : L ≤ 3) :
    Calls Try.prog 24 #[.slice A z.length c, .int .i64 L] w fun e w' => e = .returned (.int .i64 (W.bcI L z)) ∧ Below w.heap.size w w' := by
  obtain ⟨⟨hz1, hz12⟩, _⟩ := W.beN_parts hz
  by_cases h1 : z.length = 1
  · obtain ⟨x, rfl⟩ := List.length_eq_one_iff.1 h1
    obtain ⟨b, off, rfl, hb, hcc⟩ := Row.int_at h (by simp)
    have c1 : w.cell? ⟨b, off, none⟩ = some (.int .i64 x) := hcc 0 (by simp)
    rw [show W.bcI L [x] = x from rfl, show ([x] : List Int).length = 1 from rfl]
    clear hcc h hz h1 hz1 hz12
    go_enter Try.func24, Try.ntmps24
    go_wp2
    go_ret
    exact ⟨rfl, Below.refl _ _⟩
  · have hr : W.bcI L z = (W.mgAll L z).sum := if_neg h1
    have hm := Lib.hid (spec_beMerge L A z c w h hz h2 h3)
    have hsm := W.mgR_small (S := 1200) L 12 (W.mgT L z.length) z (W.beN_small hz)
    have hlen := W.mgR_length L 12 (W.mgT L z.length) z
    rw [show W.mgR L 12 (W.mgT L z.length) z = W.mgAll L z from rfl] at hsm hlen
    obtain ⟨R, hR⟩ : ∃ R, R = W.bcI L z := ⟨_, rfl⟩
    rw [← hR]
    rw [hr] at hR
    generalize W.mgAll L z = T at hm hsm hlen hR
    have Hst := Lib.hid (fun k (hk : k < T.length) => W.sum_take_succ T k hk)
    have Hle := Lib.hid (fun k (hk : k ≤ T.length) => W.sum_take_le (B := 1200) (by omega) hsm k hk)
    have Hx := Lib.hid (fun k (hk : k < T.length) => hsm T[k] (List.getElem_mem hk))
    have H0 := Lib.hid (show (T.take 0).sum = 0 from rfl)
    have Hall := Lib.hid (show (T.take T.length).sum = R by rw [hR, List.take_length])
    have h1' : ((z.length : Int) == 1) = false := beq_eq_false_iff_ne.2 (by omega)
    have h1n : (z.length == 1) = false := beq_eq_false_iff_ne.2 h1
    clear hr h hz hsm hR
    go_enter Try.func24, Try.ntmps24
    go_wp2_with fail
    refine hm.out.mono ?_
    rintro e w1 ⟨A', c', rfl, ho, hB⟩
    have HO := Lib.hid (And.intro (Row.of_own ho) hB)
    clear ho hB
    go_wp2_with fail
    go_loop [5, 18] (fun s i => ∃ (k : Nat) (q : Int), k ≤ T.length ∧ i = .int .i64 k ∧ s = .int .i64 q ∧ Hid (q = (T.take k).sum)) (fun _ i => T.length - (intOf i).toNat)
    case atStart => exact ⟨0, 0, Nat.zero_le _, rfl, rfl, H0.out.symm⟩
    case round =>
      obtain ⟨k, q, hk, rfl, rfl, hq⟩ := hrel
      by_cases hlt : k < T.length
      · obtain ⟨b, off, rfl, hb, hcc⟩ := Row.int_at HO.out.1 (by omega)
        have hlt' : (k : Int) < (T.length : Int) := by omega
        have c1 := hcc k hlt
        clear hcc
        have hs := Hst.out k hlt
        have hq4 := Hle.out k hk
        have hx := Hx.out k hlt
        rw [← hq.out] at hs hq4
        generalize T[k] = x at c1 hs hx
        replace hs := Lib.hid hs
        go_wp2
        go_round
        case rel => exact ⟨k + 1, q + x, by omega, by go_num, by go_num, hs.out.symm⟩
        case measure => simp [intOf]; omega
      · obtain rfl : k = T.length := by omega
        obtain rfl := hq.out.trans Hall.out
        go_wp2
        go_ret
        exact ⟨rfl, HO.out.2⟩
set_option maxHeartbeats 1600000 in
theorem spec_BestCost (A : Option Addr) (z : List Int) (c : Nat) (L : Int) (w : World) (h : Row w w.heap.size A (ints z)) (hl : z.length ≤ 9223372036854775807) :
    Calls Try.prog 13 #[.slice A z.length c, .int .i64 L] w fun e w' => e = .returned (.tuple #[.int .i64 (W.bcOf z L), .bool (W.mrOk z L)]) ∧ Below w.heap.size w w' := by
  have hc := spec_beAsked A z c L w h hl
  cases hq : W.mrOk z L
  · rw [W.bcOf_no hq]
    rw [hq] at hc
    replace hc := Lib.hid hc
    clear h hq
    go_enter Try.func13, Try.ntmps13
    go_wp2_with (go_at_call 19; refine hc.out.mono ?_; rintro e w' ⟨rfl, rfl⟩)
    go_ret2
    exact ⟨rfl, Below.refl _ _⟩
  · rw [hq] at hc
    replace hc := Lib.hid hc
    obtain ⟨hw, hlt⟩ := W.mrOk_parts hq
    obtain ⟨l, rfl, hl2, hl3⟩ := W.let_nat hlt
    rw [W.bcOf_yes hq]
    have hm := Lib.hid (spec_beBest l A z c w h hw hl2 hl3)
    generalize W.bcI l z = T at hm ⊢
    clear h hq hw hlt
    go_enter Try.func13, Try.ntmps13
    go_wp2_with (go_at_call 19; refine hc.out.mono ?_; rintro e w' ⟨rfl, rfl⟩)
    refine hm.out.mono ?_
    rintro e w2 ⟨rfl, hB2⟩
    replace hB2 := Lib.hid hB2
    go_wp2
    go_ret2
    exact ⟨rfl, hB2.out⟩
set_option maxHeartbeats 1600000 in
theorem spec_beFit (A : Option Addr) (z : List Int) (c L : Nat) (w : World) (h : Row w w.heap.size A (ints z)) (h12 : z.length ≤ 12) (hz : z.all (fun x => decide (1 ≤ x ∧ x ≤ 11)) = true) (h2 : 2 ≤ L) (h3 : L ≤ 3) :
    Calls Try.prog 27 #[.slice A z.length c, .int .i64 L] w fun e w' => e = .returned (.bool (W.fitD L z)) ∧ w = w' := by
  have Hdef := Lib.hid (show W.fitD L z = decide ((0 : Int) ≤ ((L ^ 11 : Nat) : Int) - ((W.sharesD L (z.take z.length) : Nat) : Int)) by
    rw [List.take_length]
    unfold W.fitD
    generalize L ^ 11 = D
    generalize W.sharesD L z = S
    rw [Bool.eq_iff_iff, decide_eq_true_eq, decide_eq_true_eq]
    omega)
  have hw := fun u => spec_krPower L 11 u (pow_small L _ h3 (by omega)) (by omega)
  have hD := W.wholeD_le L h3
  have Hst := Lib.hid (fun k (hk : k < z.length) => W.sharesD_succ L z k hk)
  have Hle := Lib.hid (fun k => Nat.le_trans (W.sharesD_take_le L z k) (W.sharesD_le L h2 h3 z hz))
  have Hz := Lib.hid (fun k (hk : k < z.length) => W.all_at hz k hk)
  have Hpl := Lib.hid (fun k (hk : k < z.length) => W.partD_le L h2 h3 z[k] (W.all_at hz k hk).1)
  have Hpw := Lib.hid (fun (l : Int) (h1 : 1 ≤ l) (h8 : l ≤ 11) => by
    have hc := spec_krPower L (11 - l.toNat) w (pow_small L _ h3 (by omega)) (by omega)
    rw [show ((11 - l.toNat : Nat) : Int) = 11 - l by omega, show L ^ (11 - l.toNat) = W.partD L l from rfl] at hc
    exact hc)
  rw [show ((11 : Nat) : Int) = 11 from rfl] at hw
  generalize L ^ 11 = D at hw hD Hdef
  have hL3 : (L : Int) ≤ 3 := by omega
  replace hw := Lib.hid hw
  replace h := Lib.hid h
  generalize W.fitD L z = r at Hdef ⊢
  clear hz
  go_enter Try.func27, Try.ntmps27
  go_wp2_with (go_at_call 34; refine (hw.out _).mono ?_; rintro e w' ⟨rfl, rfl⟩)
  go_loop [5, 12] (fun s i => ∃ k q : Nat, k ≤ z.length ∧ i = .int .i64 k ∧ s = .int .i64 ((D : Int) - (q : Int)) ∧ Hid (q = W.sharesD L (z.take k))) (fun _ i => z.length - (intOf i).toNat)
  case atStart => exact ⟨0, 0, Nat.zero_le _, rfl, by simp, rfl⟩
  case round =>
    obtain ⟨k, q, hk, rfl, rfl, hq⟩ := hrel
    have hq4 := Hle.out k
    rw [← hq.out] at hq4
    by_cases hlt : k < z.length
    · obtain ⟨b, off, rfl, hb, hcc⟩ := Row.int_at h.out (by omega)
      have hlt' : (k : Int) < (z.length : Int) := by omega
      have c1 := hcc k hlt
      clear hcc
      have hl := Hz.out k hlt
      have hs := Hst.out k hlt
      have hp := Hpl.out k hlt
      have hpw := Hpw.out _ hl.1 hl.2
      generalize z[k] = l at c1 hl hs hp hpw
      rw [← hq.out] at hs
      generalize W.partD L l = p at hs hp hpw
      have hpi : (p : Int) ≤ 59049 := by omega
      have hqi : (q : Int) ≤ 708588 := by omega
      have hDi : (D : Int) ≤ 177147 := by omega
      replace hs := Lib.hid hs
      replace hpw := Lib.hid hpw
      go_wp2_with (go_at_call 34; refine hpw.out.mono ?_; rintro e w' ⟨rfl, rfl⟩)
      go_round
      case rel => exact ⟨k + 1, q + p, by omega, by go_num, by go_num, hs.out.symm⟩
      case measure => simp [intOf]; omega
    · obtain rfl : k = z.length := by omega
      have hd := Hdef.out
      rw [← hq.out] at hd
      replace hd := Lib.hid hd
      go_wp2
      go_ret
      refine ⟨?_, rfl⟩
      rw [hd.out]
      simp
theorem ab_no2 {ws ls : List Int} {L : Int} (h : ¬ (W.mrOk ws L = true ∧ W.beN 11 ls = true ∧ ls.length = ws.length)) : W.abOf ws ls L = false ∧ W.abOk ws ls L = false := by
  apply W.ab_no
  cases hq : (W.coOk ws ls && W.krLet L)
  · rfl
  · rw [Bool.and_eq_true] at hq
    obtain ⟨h1, h2, h3⟩ := W.coOk_parts hq.1
    exact absurd ⟨by unfold W.mrOk; rw [h1, hq.2]; rfl, h2, h3.symm⟩ h
set_option maxHeartbeats 3200000 in
theorem spec_AreBest (A : Option Addr) (ws : List Int) (c : Nat) (B : Option Addr) (ls : List Int) (d : Nat) (L : Int) (w : World) (h : Row w w.heap.size A (ints ws)) (hl : ws.length ≤ 9223372036854775807) (g : Row w w.heap.size B (ints ls)) (hl2 : ls.length ≤ 9223372036854775807) :
    Calls Try.prog 15 #[.slice A ws.length c, .slice B ls.length d, .int .i64 L] w fun e w' => e = .returned (.tuple #[.bool (W.abOf ws ls L), .bool (W.abOk ws ls L)]) ∧ Below w.heap.size w w' := by
  have hc := spec_beAsked A ws c L w h hl
  have hbl := spec_beLengths B ls d w g hl2
  cases hq : W.mrOk ws L
  · obtain ⟨e1, e2⟩ := ab_no2 (ws := ws) (ls := ls) (L := L) (by rw [hq]; simp)
    rw [e1, e2]
    rw [hq] at hc
    replace hc := Lib.hid hc
    clear h g hq e1 e2 hbl
    go_enter Try.func15, Try.ntmps15
    go_wp2_with (go_at_call 19; refine hc.out.mono ?_; rintro e w' ⟨rfl, rfl⟩)
    go_ret2
    exact ⟨rfl, Below.refl _ _⟩
  · rw [hq] at hc
    replace hc := Lib.hid hc
    cases hql : W.beN 11 ls
    · obtain ⟨e1, e2⟩ := ab_no2 (ws := ws) (ls := ls) (L := L) (by rw [hql]; simp)
      rw [e1, e2]
      rw [hql] at hbl
      replace hbl := Lib.hid hbl
      clear h g hq e1 e2 hql
      go_enter Try.func15, Try.ntmps15
      go_wp2_with (first | (go_at_call 19; refine hc.out.mono ?_; rintro e w' ⟨rfl, rfl⟩) | (go_at_call 26; refine hbl.out.mono ?_; rintro e w' ⟨rfl, rfl⟩))
      go_ret2
      exact ⟨rfl, Below.refl _ _⟩
    · rw [hql] at hbl
      replace hbl := Lib.hid hbl
      by_cases hlen : ls.length = ws.length
      · obtain ⟨hw, hlt⟩ := W.mrOk_parts hq
        obtain ⟨l, rfl, hl2, hl3⟩ := W.let_nat hlt
        obtain ⟨hl12, hla⟩ := W.beN_parts hql
        obtain ⟨hw12, hwa⟩ := W.beN_parts hw
        obtain ⟨e1, e2⟩ := W.ab_yes (ws := ws) (ls := ls) (L := l) (by unfold W.coOk; rw [hw, hql, hlt, decide_eq_true hlen.symm]; rfl)
        rw [e1, e2]
        have hf := spec_beFit B ls d l w g hl12.2 hla hl2 hl3
        have hco := Lib.hid (spec_beCost A B ws ls c d w h g hwa hla hlen.symm hw12.2)
        have hb := Lib.hid (spec_beBest l A ws c w h hw hl2 hl3)
        generalize W.costI ws ls = x at hco ⊢
        generalize W.bcI l ws = y at hb ⊢
        have hne : ((ls.length : Int) != (ws.length : Int)) = false := by rw [hlen]; simp
        have hne2 : ((ls.length : Int) == (ws.length : Int)) = true := by rw [hlen]; simp
        have hne3 : (ls.length == ws.length) = true := by rw [hlen]; simp
        cases hft : W.fitD l ls
        · rw [hft] at hf
          rw [Bool.false_and]
          replace hf := Lib.hid hf
          clear h g hq e1 e2 hql hlt hft hw hwa hla hlen
          go_enter Try.func15, Try.ntmps15
          go_wp2_with (first | (go_at_call 19; refine hc.out.mono ?_; rintro e w' ⟨rfl, rfl⟩) | (go_at_call 26; refine hbl.out.mono ?_; rintro e w' ⟨rfl, rfl⟩) | (go_at_call 27; refine hf.out.mono ?_; rintro e w' ⟨rfl, rfl⟩))
          go_ret2
          exact ⟨rfl, Below.refl _ _⟩
        · rw [hft] at hf
          rw [Bool.true_and]
          replace hf := Lib.hid hf
          clear h g hq e1 e2 hql hlt hft hw hwa hla hlen
          go_enter Try.func15, Try.ntmps15
          go_wp2_with (first | (go_at_call 19; refine hc.out.mono ?_; rintro e w' ⟨rfl, rfl⟩) | (go_at_call 26; refine hbl.out.mono ?_; rintro e w' ⟨rfl, rfl⟩) | (go_at_call 27; refine hf.out.mono ?_; rintro e w' ⟨rfl, rfl⟩) | (go_at_call 28; refine hco.out.mono ?_; rintro e w' ⟨rfl, rfl⟩))
          refine hb.out.mono ?_
          rintro e w2 ⟨rfl, hB2⟩
          replace hB2 := Lib.hid hB2
          go_wp2
          go_ret2
          refine ⟨?_, hB2.out⟩
          simp
      · obtain ⟨e1, e2⟩ := ab_no2 (ws := ws) (ls := ls) (L := L) (fun h => hlen h.2.2)
        rw [e1, e2]
        have hne : ((ls.length : Int) != (ws.length : Int)) = true := by simp; omega
        have hne2 : ((ls.length : Int) == (ws.length : Int)) = false := by rw [beq_eq_false_iff_ne]; omega
        have hne3 : (ls.length == ws.length) = false := by rw [beq_eq_false_iff_ne]; exact hlen
        clear h g hq e1 e2 hql hlen
        go_enter Try.func15, Try.ntmps15
        go_wp2_with (first | (go_at_call 19; refine hc.out.mono ?_; rintro e w' ⟨rfl, rfl⟩) | (go_at_call 26; refine hbl.out.mono ?_; rintro e w' ⟨rfl, rfl⟩))
        go_ret2
        exact ⟨rfl, Below.refl _ _⟩
end Go.Proofs.Ytelfchoeielmhaa
