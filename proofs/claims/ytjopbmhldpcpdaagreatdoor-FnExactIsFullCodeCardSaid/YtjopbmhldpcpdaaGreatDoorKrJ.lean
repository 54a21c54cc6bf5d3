/-
  WHAT THIS FILE PROVES: Kraft's sums, room and first prefix sets: the program's functions give what the plain ones say; asked: slices in memory, lengths that an int holds, no more than capacities.
-/
import Derived.Test.YtjopbmhldpcpdaaGreatDoorKrP
import Derived.Test.YtjopbmhldpcpdaaGreatDoorKrE
namespace Go.Proofs.YtjopbmhldpcpdaaGreatDoor
open Go.RowKit Go.Shelf

set_option maxHeartbeats 1600000 in
theorem sum_given (A : Option Addr) (z : List Int) (c : Nat) (L : Int) (w : World) (h : Row w w.heap.size A (ints z)) (hl : z.length ≤ 1099511627776) :
    Calls Tryz.prog 24 #[.iface 64 (.slice A z.length c), .int .i64 L] w fun e w' => e = .returned (.tuple #[ratV ((slOf z L).1 : Nat) ((slOf z L).2 : Nat), .bool (W.krList z L)]) ∧ Below w.heap.size w w' := by
  have hB := Lib.hid (resW_below w)
  have hrow := (h.below hB.out).more hB.out.size
  have hc := isValid_given A z c L (resW w) hrow hl
  cases hq : W.krList z L
  · rw [slOf_no hq]
    rw [hq] at hc
    replace hc := Lib.hid hc
    clear h hq hrow
    go_enter Tryz.func24, Tryz.ntmps24
    go_wp2_with (go_at_call 32; refine hc.out.mono ?_; rintro e w' ⟨rfl, n, rfl⟩)
    exact bodyPost_ret (v := .tuple #[ratV 0 0, .bool false]) (by simp [results, Tryz.results24, go_sem]) rfl ⟨rfl, ((below_drewN hB.out n).setCell (Nat.le_refl _) _).setCell (Nat.le_refl _) _⟩
  · rw [slOf_yes hq]
    rw [hq] at hc
    replace hc := Lib.hid hc
    obtain ⟨hlt, h12, hall, _⟩ := W.krList_parts hq
    obtain ⟨m, rfl, hm2, hm3⟩ := let_nat hlt
    rw [Int.toNat_natCast]
    have hpa := fun (u : World) (g : Row u u.heap.size A (ints z)) => parts_given A z c m u g h12 hall hm2 hm3
    have hwh := fun u => impl_wholeOf m u hm3
    have hS : W.sharesD m z ≤ 708588 := Nat.le_trans (W.sharesD_le m hm2 hm3 z (W.lenAll_deep hall)) (by omega)
    have hD := W.wholeD_le m hm3
    have hD0 := W.wholeD_pos m hm2
    rw [W.krSum_D m hm2 z hall]
    generalize W.sharesD m z = S at hpa hS ⊢
    generalize m ^ 11 = D at hwh hD hD0 ⊢
    have hra := fun u => impl_ratioOf S D u (Nat.le_trans hS (by decide)) (Nat.le_trans hD (by decide)) hD0
    generalize W.low S D = pq at hra ⊢
    obtain ⟨p, q⟩ := pq
    dsimp only at hra ⊢
    replace hpa := Lib.hid hpa
    replace hwh := Lib.hid hwh
    replace hra := Lib.hid hra
    replace hrow := Lib.hid hrow
    clear h hq hlt hall hS hD hD0
    go_enter Tryz.func24, Tryz.ntmps24
    go_wp2_with (go_at_call 32; refine hc.out.mono ?_; rintro e w' ⟨rfl, n, rfl⟩)
    have hB1 := Lib.hid (below_drewN (Below.refl (resW w).heap.size (resW w)) n)
    have hp1 := Lib.hid (hpa.out ((resW w).drewN n) ((hrow.out.below hB1.out).more hB1.out.size))
    go_wp2_with (first | (go_at_call 34; refine hp1.out.mono ?_; rintro e w' ⟨rfl, rfl⟩) | (go_at_call 35; refine (hwh.out _).mono ?_; rintro e w' ⟨rfl, rfl⟩))
    refine (hra.out _).mono ?_
    rintro e w2 ⟨rfl, hB2⟩
    have hB3 := hB1.out.trans (hB2.mono hB1.out.size)
    have hB4 := Lib.hid (hB.out.trans (hB3.mono hB.out.size))
    obtain ⟨c0, c1, f0, f1⟩ := res_cells hB3
    clear hB2 hB3
    go_wp2
    exact bodyPost_ret (v := .tuple #[ratV p q, .bool true]) (by simp [results, Tryz.results24, go_sem, c0, c1]) rfl ⟨rfl, (hB4.out.setCell (Nat.le_refl _) _).setCell (Nat.le_refl _) _⟩
set_option maxHeartbeats 1600000 in
theorem sum_words (A : Option Addr) (ss : List ByteArray) (c : Nat) (L : Int) (w : World) (h : Row w w.heap.size A (strs ss)) (hcap : ss.length ≤ c) (hl : ss.length ≤ 9223372036854775807) (hs : ∀ s ∈ ss, s.size ≤ 9223372036854775807) :
    Calls Tryz.prog 24 #[.iface 47 (.slice A ss.length c), .int .i64 L] w fun e w' => e = .returned (.tuple #[ratV ((ksOf ss L).1 : Nat) ((ksOf ss L).2 : Nat), .bool (W.krSet ss L)]) ∧ Below w.heap.size w w' := by
  have hB := Lib.hid (resW_below w)
  have hrow := (h.below hB.out).more hB.out.size
  have hc := isValid_words A ss c L (resW w) hrow hcap hl hs
  cases hq : W.krSet ss L
  · rw [ksOf_no hq]
    rw [hq] at hc
    replace hc := Lib.hid hc
    clear h hs hq hrow
    go_enter Tryz.func24, Tryz.ntmps24
    go_wp2_with fail
    refine hc.out.mono ?_
    rintro e w1 ⟨rfl, hB1⟩
    obtain ⟨c0, c1, f0, f1⟩ := res_cells hB1
    have hB2 := Lib.hid (hB.out.trans (hB1.mono hB.out.size))
    go_wp2
    exact bodyPost_ret (v := .tuple #[ratV 0 0, .bool false]) (by simp [results, Tryz.results24, go_sem, c0, c1]) rfl ⟨rfl, (hB2.out.setCell (Nat.le_refl _) _).setCell (Nat.le_refl _) _⟩
  · rw [ksOf_yes hq]
    rw [hq] at hc
    replace hc := Lib.hid hc
    have hset := W.krSet_set hq
    have h12 := W.isSet_len ss hset
    have hall := lens_all hset
    obtain ⟨m, rfl, hm2, hm3⟩ := let_nat (W.krSet_let hq)
    rw [Int.toNat_natCast]
    have hpa := fun (u : World) (g : Row u u.heap.size A (strs ss)) => parts_words A ss c m u g h12 hs hall hm2 hm3
    have hwh := fun u => impl_wholeOf m u hm3
    have hS : W.sharesD m (W.lens ss) ≤ 708588 := Nat.le_trans (W.sharesD_le m hm2 hm3 _ (W.lenAll_deep hall)) (by have : (W.lens ss).length ≤ 12 := (by rw [lens_len]; exact h12); omega)
    have hD := W.wholeD_le m hm3
    have hD0 := W.wholeD_pos m hm2
    rw [W.krSum_D m hm2 _ hall]
    generalize W.sharesD m (W.lens ss) = S at hpa hS ⊢
    generalize m ^ 11 = D at hwh hD hD0 ⊢
    have hra := fun u => impl_ratioOf S D u (Nat.le_trans hS (by decide)) (Nat.le_trans hD (by decide)) hD0
    generalize W.low S D = pq at hra ⊢
    obtain ⟨p, q⟩ := pq
    dsimp only at hra ⊢
    replace hpa := Lib.hid hpa
    replace hwh := Lib.hid hwh
    replace hra := Lib.hid hra
    replace hrow := Lib.hid hrow
    clear h hs hq hset hall hS hD hD0
    go_enter Tryz.func24, Tryz.ntmps24
    go_wp2_with (go_at_call 32; refine hc.out.mono ?_; rintro e w1 ⟨rfl, hB0⟩)
    have hB1 := Lib.hid hB0
    clear hB0
    have hp1 := Lib.hid (hpa.out w1 ((hrow.out.below hB1.out).more hB1.out.size))
    go_wp2_with (first | (go_at_call 34; refine hp1.out.mono ?_; rintro e w2 ⟨rfl, hB2⟩) | (go_at_call 35; refine (hwh.out _).mono ?_; rintro e w' ⟨rfl, rfl⟩))
    refine (hra.out _).mono ?_
    rintro e w3 ⟨rfl, hB3'⟩
    have hB3 := (hB1.out.trans (hB2.mono hB1.out.size)).trans (hB3'.mono (Nat.le_trans hB1.out.size hB2.size))
    have hB4 := Lib.hid (hB.out.trans (hB3.mono hB.out.size))
    obtain ⟨c0, c1, f0, f1⟩ := res_cells hB3
    clear hB2 hB3 hB3'
    go_wp2
    exact bodyPost_ret (v := .tuple #[ratV p q, .bool true]) (by simp [results, Tryz.results24, go_sem, c0, c1]) rfl ⟨rfl, (hB4.out.setCell (Nat.le_refl _) _).setCell (Nat.le_refl _) _⟩
end Go.Proofs.YtjopbmhldpcpdaaGreatDoor
