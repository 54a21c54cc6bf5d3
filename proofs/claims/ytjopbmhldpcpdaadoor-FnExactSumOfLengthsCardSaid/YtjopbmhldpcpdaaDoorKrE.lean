/-
  WHAT THIS FILE PROVES: Kraft's sums of sets and of lengths, and whether lengths are those of a prefix set: the specification's functions give what the plain ones say; asked: slices in memory, lengths that an int holds.
-/
import Derived.Test.YtjopbmhldpcpdaaDoorKrS
import Derived.Test.YtjopbmhldpcpdaaDoorKrT
namespace Go.Proofs.YtjopbmhldpcpdaaDoor
open Go.RowKit Go.Shelf

/-- the world in which the result's two cells are made -/
abbrev resW (w : World) : World := w.alloc (.cells #[.int .i64 0, .int .i64 0] 25)
theorem resW_below (w : World) : Below w.heap.size w (w.alloc (.cells #[.int .i64 0, .int .i64 0] 25)) := (Below.refl w.heap.size w).alloc (Nat.le_refl _) _
set_option maxHeartbeats 800000 in
theorem spec_KraftSum (A : Option Addr) (ss : List ByteArray) (c : Nat) (L : Int) (w : World) (h : Row w w.heap.size A (strs ss)) (_ : ss.length ≤ c) (hl : ss.length ≤ 9223372036854775807) (hs : ∀ s ∈ ss, s.size ≤ 9223372036854775807) :
    Calls Tryd.prog 6 #[.slice A ss.length c, .int .i64 L] w fun e w' => e = .returned (.tuple #[ratV ((ksOf ss L).1 : Nat) ((ksOf ss L).2 : Nat), .bool (W.krSet ss L)]) ∧ Below w.heap.size w w' := by
  have hB := Lib.hid (resW_below w)
  have hrow := (h.below hB.out).more hB.out.size
  have hc := spec_krSet A ss c L (resW w) hrow hl hs
  cases hq : W.krSet ss L
  · rw [ksOf_no hq]
    rw [hq] at hc
    replace hc := Lib.hid hc
    clear h hs hq hrow
    go_enter Tryd.func6, Tryd.ntmps6
    go_wp2_with (go_at_call 15; refine hc.out.mono ?_; rintro e w' ⟨rfl, rfl⟩)
    exact bodyPost_ret (v := .tuple #[ratV 0 0, .bool false]) (by simp [results, Tryd.results6, go_sem]) rfl ⟨rfl, hB.out⟩
  · rw [ksOf_yes hq]
    rw [hq] at hc
    replace hc := Lib.hid hc
    have hset := W.krSet_set hq
    have h12 := W.isSet_len ss hset
    obtain ⟨m, rfl, hm2, hm3⟩ := let_nat (W.krSet_let hq)
    rw [Int.toNat_natCast]
    have hle := spec_krLengths A ss c (resW w) hrow h12 (fun k hk => (W.short_size _ (W.isSet_short ss hset k hk)).2)
    have hsum := fun (A' : Option Addr) (c' : Nat) (u : World) (g : Row u u.heap.size A' (ints (W.lens ss))) => spec_krSum A' (W.lens ss) c' m u g (by rw [lens_len]; exact h12) (lens_all hset) hm2 hm3
    generalize W.lens ss = z at hle hsum ⊢
    unfold sumV at hsum
    generalize W.krSum m z = pq at hsum ⊢
    obtain ⟨p, q⟩ := pq
    replace hle := Lib.hid hle
    replace hsum := Lib.hid hsum
    clear h hs hq hrow hset
    go_enter Tryd.func6, Tryd.ntmps6
    go_wp2_with (first | (go_at_call 15; refine hc.out.mono ?_; rintro e w' ⟨rfl, rfl⟩) | (go_at_call 17; refine hle.out.mono ?_; rintro e w1 ⟨A', c', rfl, ho, hB1⟩))
    have hs1 := Lib.hid (hsum.out A' c' w1 (Row.of_own ho))
    have hB1' := Lib.hid hB1
    clear ho hB1
    go_wp2_with fail
    refine hs1.out.mono ?_
    rintro e w2 ⟨rfl, hB2⟩
    have hB3 := hB1'.out.trans (hB2.mono hB1'.out.size)
    have hB4 := Lib.hid (hB.out.trans (hB3.mono hB.out.size))
    obtain ⟨c0, c1, f0, f1⟩ := res_cells hB3
    clear hB2 hB3
    go_wp2
    exact bodyPost_ret (v := .tuple #[ratV p q, .bool true]) (by simp [results, Tryd.results6, go_sem, c0, c1]) rfl ⟨rfl, (hB4.out.setCell (Nat.le_refl _) _).setCell (Nat.le_refl _) _⟩
set_option maxHeartbeats 800000 in
theorem spec_SumOfLengths (A : Option Addr) (z : List Int) (c : Nat) (L : Int) (w : World) (h : Row w w.heap.size A (ints z)) (hl : z.length ≤ 9223372036854775807) :
    Calls Tryd.prog 11 #[.slice A z.length c, .int .i64 L] w fun e w' => e = .returned (.tuple #[ratV ((slOf z L).1 : Nat) ((slOf z L).2 : Nat), .bool (W.krList z L)]) ∧ Below w.heap.size w w' := by
  have hB := Lib.hid (resW_below w)
  have hrow := (h.below hB.out).more hB.out.size
  have hc := spec_krList A z c L (resW w) hrow hl
  cases hq : W.krList z L
  · rw [slOf_no hq]
    rw [hq] at hc
    replace hc := Lib.hid hc
    clear h hq hrow
    go_enter Tryd.func11, Tryd.ntmps11
    go_wp2_with (go_at_call 19; refine hc.out.mono ?_; rintro e w' ⟨rfl, n, rfl⟩)
    exact bodyPost_ret (v := .tuple #[ratV 0 0, .bool false]) (by simp [results, Tryd.results11, go_sem]) rfl ⟨rfl, ((below_drewN hB.out n).setCell (Nat.le_refl _) _).setCell (Nat.le_refl _) _⟩
  · rw [slOf_yes hq]
    rw [hq] at hc
    replace hc := Lib.hid hc
    obtain ⟨hlt, h12, hall, _⟩ := W.krList_parts hq
    obtain ⟨m, rfl, hm2, hm3⟩ := let_nat hlt
    rw [Int.toNat_natCast]
    have hsum := fun (u : World) (g : Row u u.heap.size A (ints z)) => spec_krSum A z c m u g h12 hall hm2 hm3
    unfold sumV at hsum
    generalize W.krSum m z = pq at hsum ⊢
    obtain ⟨p, q⟩ := pq
    replace hsum := Lib.hid hsum
    replace hrow := Lib.hid hrow
    clear h hq hlt hall
    go_enter Tryd.func11, Tryd.ntmps11
    go_wp2_with (go_at_call 19; refine hc.out.mono ?_; rintro e w' ⟨rfl, n, rfl⟩)
    have hB1' := Lib.hid (below_drewN (Below.refl (resW w).heap.size (resW w)) n)
    have hs1 := Lib.hid (hsum.out ((resW w).drewN n) ((hrow.out.below hB1'.out).more hB1'.out.size))
    go_wp2_with fail
    refine hs1.out.mono ?_
    rintro e w2 ⟨rfl, hB2⟩
    have hB3 := hB1'.out.trans (hB2.mono hB1'.out.size)
    have hB4 := Lib.hid (hB.out.trans (hB3.mono hB.out.size))
    obtain ⟨c0, c1, f0, f1⟩ := res_cells hB3
    clear hB2 hB3
    go_wp2
    exact bodyPost_ret (v := .tuple #[ratV p q, .bool true]) (by simp [results, Tryd.results11, go_sem, c0, c1]) rfl ⟨rfl, (hB4.out.setCell (Nat.le_refl _) _).setCell (Nat.le_refl _) _⟩
theorem cbOf_no {z : List Int} {L : Int} (h : W.krList z L = false) : cbOf z L = false := by unfold cbOf; rw [h]; rfl
theorem cbOf_yes {z : List Int} {m : Nat} (h : W.krList z m = true) : cbOf z m = decide (W.shares m z ≤ m ^ 8) := by unfold cbOf; rw [h, Int.toNat_natCast]; rfl
end Go.Proofs.YtjopbmhldpcpdaaDoor
