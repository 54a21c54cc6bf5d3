/-
  WHAT THIS FILE PROVES: whether a set is a maximal prefix set: the program's function gives what the plain one says; asked: a slice of texts in memory, no more than its capacity.
-/
import Derived.Test.YtlapmjligdjniaaGreatDoorKrP
import Derived.Test.YtlapmjligdjniaaGreatDoorIm
import Derived.Test.YtlapmjligdjniaaGreatDoorIsPfx
namespace Go.Proofs.YtlapmjligdjniaaGreatDoor
open Go.RowKit Go.Shelf

set_option maxHeartbeats 1600000 in
theorem impl_IsMaximalPrefix (A : Option Addr) (ss : List ByteArray) (c : Nat) (L : Int) (w : World) (h : Row w w.heap.size A (strs ss)) (hcap : ss.length ≤ c) (hl : ss.length ≤ 9223372036854775807) (hs : ∀ s ∈ ss, s.size ≤ 9223372036854775807) :
    Calls Tryz.prog 30 #[.slice A ss.length c, .int .i64 L] w fun e w' => e = .returned (.tuple #[.bool (imOf ss L), .bool (W.krSet ss L)]) ∧ Below w.heap.size w w' := by
  have hc := isValid_words A ss c L w h hcap hl hs
  cases hq : W.krSet ss L
  · rw [imOf_no hq]
    rw [hq] at hc
    replace hc := Lib.hid hc
    clear h hs hq
    go_enter Tryz.func30, Tryz.ntmps30
    go_wp2_with (go_at_call 47; refine hc.out.mono ?_; rintro e w1 ⟨rfl, hB⟩)
    go_ret2
    exact ⟨rfl, hB⟩
  · rw [hq] at hc
    replace hc := Lib.hid hc
    have hset := W.krSet_set hq
    have h12 := W.isSet_len ss hset
    obtain ⟨m, rfl, hm2, hm3⟩ := let_nat (W.krSet_let hq)
    have hp := fun (u : World) (g : Row u u.heap.size A (strs ss)) => impl_isPrefixSet A ss c u g (by omega)
    have Hrow := Lib.hid (fun u (hb : Below w.heap.size w u) => (h.below hb).more hb.size)
    cases hpf : pfxB ss
    · rw [imOf_pfx hpf]
      rw [hpf] at hp
      replace hp := Lib.hid hp
      clear h hs hq hset hpf
      go_enter Tryz.func30, Tryz.ntmps30
      go_wp2_with (go_at_call 47; refine hc.out.mono ?_; rintro e w1 ⟨rfl, hB0⟩)
      have hB := Lib.hid hB0
      have hp1 := Lib.hid (hp.out w1 (Hrow.out w1 hB0))
      clear hB0
      go_wp2_with (go_at_call 48; refine hp1.out.mono ?_; rintro e w2 ⟨rfl, hB2⟩)
      go_ret2
      exact ⟨rfl, hB.out.trans (hB2.mono hB.out.size)⟩
    · rw [imOf_yes hq hpf]
      rw [hpf] at hp
      replace hp := Lib.hid hp
      have hpa := fun (u : World) (g : Row u u.heap.size A (strs ss)) => parts_words A ss c m u g h12 hs (lens_all hset) hm2 hm3
      have hwh := fun u => impl_wholeOf m u hm3
      rw [show decide (W.shares m (W.lens ss) = m ^ 8) = decide (W.sharesD m (W.lens ss) = m ^ 11) by
        rw [W.sharesD_shares m _ (lens_all hset), W.wholeD_eq, Bool.eq_iff_iff, decide_eq_true_eq, decide_eq_true_eq]
        exact (Nat.mul_right_inj (Nat.ne_of_gt (Nat.pow_pos (by omega)))).symm]
      generalize W.sharesD m (W.lens ss) = S at hpa ⊢
      generalize m ^ 11 = D at hwh ⊢
      have e : ((S : Int) == (D : Int)) = decide (S = D) := by
        rw [Bool.eq_iff_iff, beq_iff_eq, decide_eq_true_eq]
        omega
      generalize decide (S = D) = r at e ⊢
      replace hpa := Lib.hid hpa
      replace hwh := Lib.hid hwh
      clear h hs hq hset hpf
      go_enter Tryz.func30, Tryz.ntmps30
      go_wp2_with (go_at_call 47; refine hc.out.mono ?_; rintro e w1 ⟨rfl, hB0⟩)
      have hB := Lib.hid hB0
      have hp1 := Lib.hid (hp.out w1 (Hrow.out w1 hB0))
      clear hB0
      go_wp2_with (go_at_call 48; refine hp1.out.mono ?_; rintro e w2 ⟨rfl, hB2⟩)
      have hB3 := Lib.hid (hB.out.trans (hB2.mono hB.out.size))
      have hpa1 := Lib.hid (hpa.out w2 (Hrow.out w2 hB3.out))
      clear hB2
      go_wp2_with (first | (go_at_call 49; refine hpa1.out.mono ?_; rintro e w3 ⟨rfl, hB4⟩) | (go_at_call 50; refine (hwh.out _).mono ?_; rintro e w' ⟨rfl, rfl⟩))
      go_ret2
      exact ⟨rfl, hB3.out.trans (hB4.mono hB3.out.size)⟩
end Go.Proofs.YtlapmjligdjniaaGreatDoor
