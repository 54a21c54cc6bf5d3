/-
  WHAT THIS FILE PROVES: Kraft's sums, room and first prefix sets: the program's functions give what the plain ones say; asked: slices in memory, lengths that an int holds, no more than capacities.
-/
import Derived.Test.YtbgodomfniafeaaDoorKrV
import Derived.Test.YtbgodomfniafeaaDoorKrE
import Derived.Test.YtbgodomfniafeaaDoorLens
namespace Go.Proofs.YtbgodomfniafeaaDoor
open Go.RowKit Go.Shelf

theorem method_given (v : Value) (w : World) : (method 234 52 v "loop.example/g01164/impl.lengths").run Tryd.prog w = .ok (134, v) w := by kernel_rfl
theorem method_words (v : Value) (w : World) : (method 234 51 v "loop.example/g01164/impl.lengths").run Tryd.prog w = .ok (131, v) w := by kernel_rfl
theorem given_lengths (v : Value) (w : World) : Calls Tryd.prog 134 #[v] w fun e w' => e = .returned v ∧ w = w' := by
  go_enter Tryd.func134, Tryd.ntmps134
  go_wp2
  go_ret
  exact ⟨rfl, rfl⟩
theorem words_lengths (A : Option Addr) (ss : List ByteArray) (c : Nat) (w : World) (h : Row w w.heap.size A (strs ss)) (hl : ss.length ≤ 1048576) (hs : ∀ s ∈ ss, s.size ≤ 9223372036854775807) :
    Calls Tryd.prog 131 #[.slice A ss.length c] w (GivesInts w (W.lens ss)) := by
  have hc := Lib.hid (listOf_length A ss c w h hl hs)
  clear h hs
  go_enter Tryd.func131, Tryd.ntmps131
  go_wp2_with fail
  refine hc.out.mono ?_
  rintro e w1 ⟨A', c', rfl, ho, hB⟩
  go_wp2
  go_ret
  exact ⟨A', c', rfl, ho, hB⟩
set_option maxRecDepth 100000 in
set_option maxHeartbeats 1600000 in
theorem parts_given (A : Option Addr) (z : List Int) (c L : Nat) (w : World) (h : Row w w.heap.size A (ints z)) (h12 : z.length ≤ 12) (hz : W.lenAll z = true) (h2 : 2 ≤ L) (h3 : L ≤ 3) :
    Calls Tryd.prog 53 #[.iface 52 (.slice A z.length c), .int .i64 L] w fun e w' => e = .returned (.int .i64 ((W.shares L z : Nat) : Int)) ∧ w = w' := by
  obtain ⟨r, hr⟩ : ∃ r, r = W.shares L z := ⟨_, rfl⟩
  rw [← hr]
  have Hst := Lib.hid (fun k (hk : k < z.length) => W.shares_succ L z k hk)
  have Hle := Lib.hid (fun k => Nat.le_trans (W.shares_take_le L z k) (W.shares_le L h2 h3 z hz))
  have Hz := Lib.hid (fun k (hk : k < z.length) => W.lenAll_at hz k hk)
  have Hpl := Lib.hid (fun k (hk : k < z.length) => W.part_le L h2 h3 z[k] (W.lenAll_at hz k hk).1)
  have Hall := Lib.hid (show W.shares L (z.take z.length) = r by rw [hr, List.take_length])
  have Hpw := Lib.hid (fun (l : Int) (h1 : 1 ≤ l) (h8 : l ≤ 8) => impl_partsOf L l w h3 h1 h8)
  have hmt := method_given (.slice A z.length c)
  have hgl := Lib.hid (given_lengths (.slice A z.length c) w)
  replace h := Lib.hid h
  clear hz hr
  go_enter Tryd.func53, Tryd.ntmps53
  go_wp2_with (go_at_call 134; refine hgl.out.mono ?_; rintro e w' ⟨rfl, rfl⟩)
  go_loop [5, 11] (fun s i => ∃ k q : Nat, k ≤ z.length ∧ i = .int .i64 k ∧ s = .int .i64 q ∧ Hid (q = W.shares L (z.take k))) (fun _ i => z.length - (intOf i).toNat)
  case atStart => exact ⟨0, 0, Nat.zero_le _, rfl, rfl, rfl⟩
  case round =>
    obtain ⟨k, q, hk, rfl, rfl, hq⟩ := hrel
    have hq4 := Hle.out k
    rw [← hq.out] at hq4
    by_cases hlt : k < z.length
    · obtain ⟨b, off, rfl, hb, hcc⟩ := Row.int_at h.out (by omega)
      have hlt' : (k : Int) < (z.length : Int) := by omega
      have c1 := hcc k hlt
      clear hcc
      have hl := Hz.out k hlt
      have hs := Hst.out k hlt
      have hp := Hpl.out k hlt
      have hpw := Hpw.out _ hl.1 hl.2
      generalize z[k] = l at c1 hl hs hp hpw
      rw [← hq.out] at hs
      generalize W.part L l = p at hs hp hpw
      replace hs := Lib.hid hs
      replace hpw := Lib.hid hpw
      go_wp2_with (go_at_call 43; refine hpw.out.mono ?_; rintro e w' ⟨rfl, rfl⟩)
      go_round
      case rel => exact ⟨k + 1, q + p, by omega, by go_num, by go_num, hs.out.symm⟩
      case measure => simp [intOf]; omega
    · obtain rfl : k = z.length := by omega
      obtain rfl := hq.out.trans Hall.out
      go_wp2
      go_ret
      exact ⟨rfl, rfl⟩
set_option maxRecDepth 100000 in
set_option maxHeartbeats 1600000 in
theorem parts_words (A : Option Addr) (ss : List ByteArray) (c L : Nat) (w : World) (hrow : Row w w.heap.size A (strs ss)) (hl : ss.length ≤ 12) (hs : ∀ s ∈ ss, s.size ≤ 9223372036854775807) (hz : W.lenAll (W.lens ss) = true) (h2 : 2 ≤ L) (h3 : L ≤ 3) :
    Calls Tryd.prog 53 #[.iface 51 (.slice A ss.length c), .int .i64 L] w fun e w' => e = .returned (.int .i64 ((W.shares L (W.lens ss) : Nat) : Int)) ∧ Below w.heap.size w w' := by
  have hwl := words_lengths A ss c w hrow (by omega) hs
  have h12 : (W.lens ss).length ≤ 12 := by rw [lens_len]; exact hl
  generalize W.lens ss = z at hz h12 hwl ⊢
  obtain ⟨r, hr⟩ : ∃ r, r = W.shares L z := ⟨_, rfl⟩
  rw [← hr]
  have Hst := Lib.hid (fun k (hk : k < z.length) => W.shares_succ L z k hk)
  have Hle := Lib.hid (fun k => Nat.le_trans (W.shares_take_le L z k) (W.shares_le L h2 h3 z hz))
  have Hz := Lib.hid (fun k (hk : k < z.length) => W.lenAll_at hz k hk)
  have Hpl := Lib.hid (fun k (hk : k < z.length) => W.part_le L h2 h3 z[k] (W.lenAll_at hz k hk).1)
  have Hall := Lib.hid (show W.shares L (z.take z.length) = r by rw [hr, List.take_length])
  replace hwl := Lib.hid hwl
  have hmt := method_words (.slice A ss.length c)
  clear hz hr hrow hs
  go_enter Tryd.func53, Tryd.ntmps53
  go_wp2_with (go_at_call 131; refine hwl.out.mono ?_; rintro e w1 ⟨A', c', rfl, ho, hB⟩)
  have h := Lib.hid (Row.of_own ho)
  have HB := Lib.hid hB
  have Hpw := Lib.hid (fun (l : Int) (h1 : 1 ≤ l) (h8 : l ≤ 8) => impl_partsOf L l w1 h3 h1 h8)
  clear ho hB
  go_loop [5, 11] (fun s i => ∃ k q : Nat, k ≤ z.length ∧ i = .int .i64 k ∧ s = .int .i64 q ∧ Hid (q = W.shares L (z.take k))) (fun _ i => z.length - (intOf i).toNat)
  case atStart => exact ⟨0, 0, Nat.zero_le _, rfl, rfl, rfl⟩
  case round =>
    obtain ⟨k, q, hk, rfl, rfl, hq⟩ := hrel
    have hq4 := Hle.out k
    rw [← hq.out] at hq4
    by_cases hlt : k < z.length
    · obtain ⟨b, off, rfl, hb, hcc⟩ := Row.int_at h.out (by omega)
      have hlt' : (k : Int) < (z.length : Int) := by omega
      have c1 := hcc k hlt
      clear hcc
      have hl := Hz.out k hlt
      have hs := Hst.out k hlt
      have hp := Hpl.out k hlt
      have hpw := Hpw.out _ hl.1 hl.2
      generalize z[k] = l at c1 hl hs hp hpw
      rw [← hq.out] at hs
      generalize W.part L l = p at hs hp hpw
      replace hs := Lib.hid hs
      replace hpw := Lib.hid hpw
      go_wp2_with (go_at_call 43; refine hpw.out.mono ?_; rintro e w' ⟨rfl, rfl⟩)
      go_round
      case rel => exact ⟨k + 1, q + p, by omega, by go_num, by go_num, hs.out.symm⟩
      case measure => simp [intOf]; omega
    · obtain rfl : k = z.length := by omega
      obtain rfl := hq.out.trans Hall.out
      go_wp2
      go_ret
      exact ⟨rfl, HB.out⟩

set_option maxHeartbeats 1600000 in
theorem sum_given (A : Option Addr) (z : List Int) (c : Nat) (L : Int) (w : World) (h : Row w w.heap.size A (ints z)) (hl : z.length ≤ 1099511627776) :
    Calls Tryd.prog 36 #[.iface 52 (.slice A z.length c), .int .i64 L] w fun e w' => e = .returned (.tuple #[ratV ((slOf z L).1 : Nat) ((slOf z L).2 : Nat), .bool (W.krList z L)]) ∧ Below w.heap.size w w' := by
  have hB := Lib.hid (resW_below w)
  have hrow := (h.below hB.out).more hB.out.size
  have hc := isValid_given A z c L (resW w) hrow hl
  cases hq : W.krList z L
  · rw [slOf_no hq]
    rw [hq] at hc
    replace hc := Lib.hid hc
    clear h hq hrow
    go_enter Tryd.func36, Tryd.ntmps36
    go_wp2_with (go_at_call 51; refine hc.out.mono ?_; rintro e w' ⟨rfl, n, rfl⟩)
    exact bodyPost_ret (v := .tuple #[ratV 0 0, .bool false]) (by simp [results, Tryd.results36, go_sem]) rfl ⟨rfl, ((below_drewN hB.out n).setCell (Nat.le_refl _) _).setCell (Nat.le_refl _) _⟩
  · rw [slOf_yes hq]
    rw [hq] at hc
    replace hc := Lib.hid hc
    obtain ⟨hlt, h12, hall, _⟩ := W.krList_parts hq
    obtain ⟨m, rfl, hm2, hm3⟩ := let_nat hlt
    rw [Int.toNat_natCast]
    have hpa := fun (u : World) (g : Row u u.heap.size A (ints z)) => parts_given A z c m u g h12 hall hm2 hm3
    have hwh := fun u => impl_wholeOf m u hm3
    have hS := shares_26 hm2 hm3 h12 hall
    have hD := W.whole_le m hm3
    have hD0 := W.whole_pos m hm2
    unfold W.krSum W.low
    generalize W.shares m z = S at hpa hS ⊢
    generalize m ^ 8 = D at hwh hD hD0 ⊢
    have hdv := fun u => impl_divisorOf S D u (Nat.le_trans hS (by decide)) (Nat.le_trans hD (by decide))
    have hgp := Nat.gcd_pos_of_pos_right S hD0
    generalize Nat.gcd S D = g at hdv hgp ⊢
    have hS6 : S ≤ 4611686018427387904 := Nat.le_trans hS (by decide)
    have hD6 : D ≤ 4611686018427387904 := Nat.le_trans hD (by decide)
    have hg1 : (0 : Int) < (g : Int) := by omega
    have hg0 : ((g : Int) == 0) = false := beq_eq_false_iff_ne.2 (by omega)
    replace hpa := Lib.hid hpa
    replace hwh := Lib.hid hwh
    replace hdv := Lib.hid hdv
    replace hrow := Lib.hid hrow
    clear h hq hlt hall
    go_enter Tryd.func36, Tryd.ntmps36
    go_wp2_with (go_at_call 51; refine hc.out.mono ?_; rintro e w' ⟨rfl, n, rfl⟩)
    have hB1 := Lib.hid (below_drewN (Below.refl (resW w).heap.size (resW w)) n)
    have hp1 := Lib.hid (hpa.out ((resW w).drewN n) ((hrow.out.below hB1.out).more hB1.out.size))
    go_wp2_with (first | (go_at_call 53; refine hp1.out.mono ?_; rintro e w' ⟨rfl, rfl⟩) | (go_at_call 54; refine (hwh.out _).mono ?_; rintro e w' ⟨rfl, rfl⟩) | (go_at_call 58; refine (hdv.out _).mono ?_; rintro e w' ⟨rfl, n2, rfl⟩))
    go_region
    go_wp2
    rw [div_wrap S g hS6, div_wrap D g hD6]
    exact bodyPost_ret (v := .tuple #[ratV (S / g : Nat) (D / g : Nat), .bool true]) (by simp [results, Tryd.results36, go_sem]) rfl ⟨rfl, ((below_drewN hB.out _).setCell (Nat.le_refl _) _).setCell (Nat.le_refl _) _⟩
set_option maxHeartbeats 1600000 in
theorem sum_words (A : Option Addr) (ss : List ByteArray) (c : Nat) (L : Int) (w : World) (h : Row w w.heap.size A (strs ss)) (hcap : ss.length ≤ c) (hl : ss.length ≤ 9223372036854775807) (hs : ∀ s ∈ ss, s.size ≤ 9223372036854775807) :
    Calls Tryd.prog 36 #[.iface 51 (.slice A ss.length c), .int .i64 L] w fun e w' => e = .returned (.tuple #[ratV ((ksOf ss L).1 : Nat) ((ksOf ss L).2 : Nat), .bool (W.krSet ss L)]) ∧ Below w.heap.size w w' := by
  have hB := Lib.hid (resW_below w)
  have hrow := (h.below hB.out).more hB.out.size
  have hc := isValid_words A ss c L (resW w) hrow hcap hl hs
  cases hq : W.krSet ss L
  · rw [ksOf_no hq]
    rw [hq] at hc
    replace hc := Lib.hid hc
    clear h hs hq hrow
    go_enter Tryd.func36, Tryd.ntmps36
    go_wp2_with fail
    refine hc.out.mono ?_
    rintro e w1 ⟨rfl, hB1⟩
    obtain ⟨c0, c1, f0, f1⟩ := res_cells hB1
    have hB2 := Lib.hid (hB.out.trans (hB1.mono hB.out.size))
    go_wp2
    exact bodyPost_ret (v := .tuple #[ratV 0 0, .bool false]) (by simp [results, Tryd.results36, go_sem, c0, c1]) rfl ⟨rfl, (hB2.out.setCell (Nat.le_refl _) _).setCell (Nat.le_refl _) _⟩
  · rw [ksOf_yes hq]
    rw [hq] at hc
    replace hc := Lib.hid hc
    have hset := W.krSet_set hq
    have h12 := W.isSet_len ss hset
    have hall := lens_all hset
    obtain ⟨m, rfl, hm2, hm3⟩ := let_nat (W.krSet_let hq)
    rw [Int.toNat_natCast]
    have hpa := fun (u : World) (g : Row u u.heap.size A (strs ss)) => parts_words A ss c m u g h12 hs hall hm2 hm3
    have hwh := fun u => impl_wholeOf m u hm3
    have hS := shares_26 hm2 hm3 (by rw [lens_len]; exact h12) hall
    have hD := W.whole_le m hm3
    have hD0 := W.whole_pos m hm2
    unfold W.krSum W.low
    generalize W.shares m (W.lens ss) = S at hpa hS ⊢
    generalize m ^ 8 = D at hwh hD hD0 ⊢
    have hdv := fun u => impl_divisorOf S D u (Nat.le_trans hS (by decide)) (Nat.le_trans hD (by decide))
    have hgp := Nat.gcd_pos_of_pos_right S hD0
    generalize Nat.gcd S D = g at hdv hgp ⊢
    have hS6 : S ≤ 4611686018427387904 := Nat.le_trans hS (by decide)
    have hD6 : D ≤ 4611686018427387904 := Nat.le_trans hD (by decide)
    have hg1 : (0 : Int) < (g : Int) := by omega
    have hg0 : ((g : Int) == 0) = false := beq_eq_false_iff_ne.2 (by omega)
    replace hpa := Lib.hid hpa
    replace hwh := Lib.hid hwh
    replace hdv := Lib.hid hdv
    replace hrow := Lib.hid hrow
    clear h hs hq hset hall
    go_enter Tryd.func36, Tryd.ntmps36
    go_wp2_with (go_at_call 51; refine hc.out.mono ?_; rintro e w1 ⟨rfl, hB0⟩)
    have hB1 := Lib.hid hB0
    clear hB0
    have hp1 := Lib.hid (hpa.out w1 ((hrow.out.below hB1.out).more hB1.out.size))
    go_wp2_with (first | (go_at_call 53; refine hp1.out.mono ?_; rintro e w2 ⟨rfl, hB2⟩) | (go_at_call 54; refine (hwh.out _).mono ?_; rintro e w' ⟨rfl, rfl⟩) | (go_at_call 58; refine (hdv.out _).mono ?_; rintro e w' ⟨rfl, n2, rfl⟩))
    have hB3 := hB1.out.trans (hB2.mono hB1.out.size)
    have hB4 := Lib.hid (hB.out.trans (hB3.mono hB.out.size))
    obtain ⟨c0, c1, f0, f1⟩ := res_cells hB3
    clear hB2 hB3
    go_region
    go_wp2
    rw [div_wrap S g hS6, div_wrap D g hD6]
    exact bodyPost_ret (v := .tuple #[ratV (S / g : Nat) (D / g : Nat), .bool true]) (by simp [results, Tryd.results36, go_sem, c0, c1]) rfl ⟨rfl, ((below_drewN hB4.out _).setCell (Nat.le_refl _) _).setCell (Nat.le_refl _) _⟩
end Go.Proofs.YtbgodomfniafeaaDoor
