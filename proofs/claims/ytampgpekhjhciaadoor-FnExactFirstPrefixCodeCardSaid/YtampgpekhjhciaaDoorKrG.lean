/-
  WHAT THIS FILE PROVES: powers of Kraft's sums, and whether a set is a prefix set whose sum is 1: the specification's functions give what the plain ones say; asked: slices in memory, lengths that an int holds.
-/
import Derived.Test.YtampgpekhjhciaaDoorKrF
import Derived.Test.YtampgpekhjhciaaDoorIsPfx
import Derived.Test.YtampgpekhjhciaaDoorIm
namespace Go.Proofs.YtampgpekhjhciaaDoor
open Go.RowKit Go.Shelf

set_option maxHeartbeats 1600000 in
theorem spec_SumsOfPowers (A : Option Addr) (ss : List ByteArray) (c : Nat) (L K : Int) (w : World) (h : Row w w.heap.size A (strs ss)) (_ : ss.length ≤ c) (hl : ss.length ≤ 9223372036854775807) (hs : ∀ s ∈ ss, s.size ≤ 9223372036854775807) :
    Calls Tryd.prog 29 #[.slice A ss.length c, .int .i64 L, .int .i64 K] w fun e w' => e = .returned (.tuple #[ratV ((spOf ss L K).1 : Nat) ((spOf ss L K).2 : Nat), .bool (spOk ss L K)]) ∧ Below w.heap.size w w' := by
  have hB := Lib.hid (resW_below w)
  have hrow := (h.below hB.out).more hB.out.size
  have hc := spec_krSet A ss c L (resW w) hrow hl hs
  cases hq : W.krSet ss L
  · have hno : spOk ss L K = false := by unfold spOk; rw [hq]; rfl
    rw [spOf_no hno, hno]
    rw [hq] at hc
    replace hc := Lib.hid hc
    clear h hs hq hrow hno
    go_enter Tryd.func29, Tryd.ntmps29
    go_wp2_with (go_at_call 33; refine hc.out.mono ?_; rintro e w' ⟨rfl, rfl⟩)
    exact bodyPost_ret (v := .tuple #[ratV 0 0, .bool false]) (by simp [results, Tryd.results29, go_sem]) rfl ⟨rfl, hB.out⟩
  · rw [hq] at hc
    replace hc := Lib.hid hc
    have hin := fun u => spec_l1In K 0 4 u
    by_cases hk : 0 ≤ K ∧ K ≤ 4
    · have hyes : spOk ss L K = true := by unfold spOk; rw [hq, decide_eq_true hk]; rfl
      rw [spOf_yes hyes, hyes]
      rw [decide_eq_true hk] at hin
      replace hin := Lib.hid hin
      have hset := W.krSet_set hq
      have h12 := W.isSet_len ss hset
      obtain ⟨m, rfl, hm2, hm3⟩ := let_nat (W.krSet_let hq)
      obtain ⟨n, rfl⟩ := Int.eq_ofNat_of_zero_le hk.1
      have hn4 : n ≤ 4 := by omega
      rw [Int.toNat_natCast, Int.toNat_natCast]
      have hle := spec_krLengths A ss c (resW w) hrow h12 (fun k hk => (W.short_size _ (W.isSet_short ss hset k hk)).2)
      have hsum := fun (A' : Option Addr) (c' : Nat) (u : World) (g : Row u u.heap.size A' (ints (W.lens ss))) => spec_krSum A' (W.lens ss) c' m u g (by rw [lens_len]; exact h12) (lens_all hset) hm2 hm3
      have hsm := sum_small hm2 hm3 (by rw [lens_len]; exact h12) (lens_all hset)
      generalize W.lens ss = z at hle hsum hsm ⊢
      unfold sumV at hsum
      generalize W.krSum m z = pq at hsum hsm ⊢
      have Hst := Lib.hid (fun k => W.powR_succ hsm.2.2.2 k)
      have Hlo := Lib.hid (W.powR_low hsm.2.2.2 n)
      have Hb1 := Lib.hid (fun k (hk : k ≤ 4) => pow_26 (x := pq.1) (by omega) hk)
      have Hb2 := Lib.hid (fun k (hk : k ≤ 4) => pow_26 (x := pq.2) (by omega) hk)
      have Hp := Lib.hid (fun k => show 0 < pq.2 ^ k from Nat.pow_pos hsm.2.2.1)
      obtain ⟨p, q⟩ := pq
      have hp1 : p ≤ 26244 := hsm.1
      have hq1 : q ≤ 6561 := hsm.2.1
      obtain ⟨R, hR⟩ : ∃ R, R = W.powR (p, q) n := ⟨_, rfl⟩
      rw [← hR]
      replace hR := Lib.hid hR
      replace hle := Lib.hid hle
      replace hsum := Lib.hid hsum
      clear h hs hq hrow hset hsm hk hyes
      go_enter Tryd.func29, Tryd.ntmps29
      go_wp2_with (first | (go_at_call 33; refine hc.out.mono ?_; rintro e w' ⟨rfl, rfl⟩) | (go_at_call 45; refine (hin.out _).mono ?_; rintro e w' ⟨rfl, rfl⟩) | (go_at_call 35; refine hle.out.mono ?_; rintro e w1 ⟨A', c', rfl, ho, hB1⟩))
      have hs1 := Lib.hid (hsum.out A' c' w1 (Row.of_own ho))
      have hB1' := Lib.hid hB1
      clear ho hB1
      go_wp2_with fail
      refine hs1.out.mono ?_
      rintro e w2 ⟨rfl, hB2⟩
      have hB3 := Lib.hid (hB1'.out.trans (hB2.mono hB1'.out.size))
      clear hB2
      go_wp2_with fail
      have hBV := Lib.hid ((Below.refl w2.heap.size w2).alloc (Nat.le_refl _) (.cells #[.int .i64 p, .int .i64 q] 25))
      obtain ⟨V, hV⟩ : ∃ V, V = w2.alloc (.cells #[.int .i64 p, .int .i64 q] 25) := ⟨_, rfl⟩
      have hcs := Lib.hid (show ∀ u : World, Below V.heap.size V u → u.cell? ⟨w2.heap.size, 0, none⟩ = some (.int .i64 p) ∧ u.cell? ⟨w2.heap.size, 1, none⟩ = some (.int .i64 q) from fun u hb => by
        subst hV
        have := res_cells (w := w2) (a := .int .i64 p) (b := .int .i64 q) (t := 25) hb
        exact ⟨this.1, this.2.1⟩)
      rw [← hV] at hBV ⊢
      have hB3V := Lib.hid (hB3.out.trans (hBV.out.mono hB3.out.size))
      clear hV hBV hB3
      go_loopw [9, 10, 11] (fun av bv iv wr => ∃ k a b : Nat, k ≤ n ∧ iv = .int .i64 k ∧ av = .int .i64 a ∧ bv = .int .i64 b ∧ Hid ((a, b) = W.powR (p, q) k) ∧ Below V.heap.size V wr) (fun _ _ iv _ => n - (intOf iv).toNat)
      case atStart => exact ⟨0, 1, 1, Nat.zero_le _, rfl, rfl, rfl, rfl, Below.refl _ _⟩
      case round =>
        obtain ⟨k, a, b, hk, rfl, rfl, rfl, hab, hBr⟩ := hrel
        have hBR := Lib.hid hBr
        clear hBr
        have ha : a = p ^ k := congrArg Prod.fst hab.out
        have hb : b = q ^ k := congrArg Prod.snd hab.out
        have hka : a ≤ 4611686018427387904 := by rw [ha]; exact Hb1.out k (Nat.le_trans hk hn4)
        have hkb : b ≤ 4611686018427387904 := by rw [hb]; exact Hb2.out k (Nat.le_trans hk hn4)
        have hb0 : 0 < b := by rw [hb]; exact Hp.out k
        by_cases hlt : k < n
        · have hlt' : (k : Int) < (n : Int) := by omega
          obtain ⟨d0, d1⟩ := hcs.out wr hBR.out
          have hap : a * p ≤ 4611686018427387904 := by rw [ha]; exact Hb1.out (k + 1) (Nat.le_trans hlt hn4)
          have hbq : b * q ≤ 4611686018427387904 := by rw [hb]; exact Hb2.out (k + 1) (Nat.le_trans hlt hn4)
          have hbq0 : 0 < b * q := by rw [hb]; exact Hp.out (k + 1)
          have hm1 := Lib.hid (mul_wrap a p hap)
          have hm2 := Lib.hid (mul_wrap b q hbq)
          have hst : W.low (a * p) (b * q) = W.powR (p, q) (k + 1) := by rw [ha, hb]; exact Hst.out k
          have hr := fun u => spec_krRatio (a * p) (b * q) u hap hbq hbq0
          rw [hst] at hr
          generalize a * p = ap at hr hm1
          generalize b * q = bq at hr hm2
          have hab2 : Hid (W.powR (p, q) (k + 1) = W.powR (p, q) (k + 1)) := rfl
          obtain ⟨r, hr2⟩ : ∃ r, r = W.powR (p, q) (k + 1) := ⟨_, rfl⟩
          rw [← hr2] at hr
          replace hr2 := Lib.hid hr2
          obtain ⟨a', b'⟩ := r
          replace hr := Lib.hid hr
          clear ha hb hka hkb hb0 hap hbq hbq0 hst hab2
          go_wp2_with fail
          rw [hm1.out, hm2.out]
          refine (hr.out _).mono ?_
          rintro e w3 ⟨rfl, hB3⟩
          have hB4 := Lib.hid ((hBR.out.trans (hB3.mono hBR.out.size)).alloc (by have := hBR.out.size; have := hB3.size; omega) (.cells #[.int .i64 a', .int .i64 b'] 25))
          clear hB3
          go_wp2
          go_roundw
          case rel => exact ⟨k + 1, a', b', by omega, by go_num, rfl, rfl, hr2.out, hB4.out⟩
          case measure => simp [intOf]; omega
        · obtain rfl : k = n := by omega
          have hlo := Hlo.out
          rw [← hab.out] at hlo
          have hr := fun u => spec_krRatio a b u hka hkb hb0
          rw [hlo] at hr
          have hR2 := hR.out.trans hab.out.symm
          subst hR2
          replace hr := Lib.hid hr
          clear ha hb hka hkb hb0 hlo
          go_wp2_with fail
          refine (hr.out _).mono ?_
          rintro e w3 ⟨rfl, hB3⟩
          have hB4 := hBR.out.trans (hB3.mono hBR.out.size)
          have hB5 := hB3V.out.trans (hB4.mono hB3V.out.size)
          have hB6 := Lib.hid (hB.out.trans (hB5.mono hB.out.size))
          obtain ⟨c0, c1, f0, f1⟩ := res_cells hB5
          clear hB3 hB4 hB5
          go_wp2
          exact bodyPost_ret (v := .tuple #[ratV a b, .bool true]) (by simp [results, Tryd.results29, go_sem, c0, c1]) rfl ⟨rfl, (hB6.out.setCell (Nat.le_refl _) _).setCell (Nat.le_refl _) _⟩
    · have hno : spOk ss L K = false := by unfold spOk; rw [decide_eq_false hk]; simp
      rw [spOf_no hno, hno]
      rw [decide_eq_false hk] at hin
      replace hin := Lib.hid hin
      clear h hs hq hrow hno hk
      go_enter Tryd.func29, Tryd.ntmps29
      go_wp2_with (first | (go_at_call 33; refine hc.out.mono ?_; rintro e w' ⟨rfl, rfl⟩) | (go_at_call 45; refine (hin.out _).mono ?_; rintro e w' ⟨rfl, rfl⟩))
      exact bodyPost_ret (v := .tuple #[ratV 0 0, .bool false]) (by simp [results, Tryd.results29, go_sem]) rfl ⟨rfl, hB.out⟩
set_option maxHeartbeats 1600000 in
theorem spec_IsMaximalPrefix (A : Option Addr) (ss : List ByteArray) (c : Nat) (L : Int) (w : World) (h : Row w w.heap.size A (strs ss)) (hcap : ss.length ≤ c) (hl : ss.length ≤ 9223372036854775807) (hs : ∀ s ∈ ss, s.size ≤ 9223372036854775807) :
    Calls Tryd.prog 31 #[.slice A ss.length c, .int .i64 L] w fun e w' => e = .returned (.tuple #[.bool (imOf ss L), .bool (W.krSet ss L)]) ∧ Below w.heap.size w w' := by
  have hc := spec_krSet A ss c L w h hl hs
  cases hq : W.krSet ss L
  · rw [imOf_no hq]
    rw [hq] at hc
    replace hc := Lib.hid hc
    clear h hs hq
    go_enter Tryd.func31, Tryd.ntmps31
    go_wp2_with (go_at_call 33; refine hc.out.mono ?_; rintro e w' ⟨rfl, rfl⟩)
    go_ret2
    exact ⟨rfl, Below.refl _ _⟩
  · rw [hq] at hc
    replace hc := Lib.hid hc
    have hset := W.krSet_set hq
    have h12 := W.isSet_len ss hset
    have hp := spec_krPrefix A ss c w h hset hcap
    cases hpf : pfxB ss
    · rw [imOf_pfx hpf]
      rw [hpf] at hp
      replace hp := Lib.hid hp
      clear h hs hq hpf hset
      go_enter Tryd.func31, Tryd.ntmps31
      go_wp2_with (first | (go_at_call 33; refine hc.out.mono ?_; rintro e w' ⟨rfl, rfl⟩) | (go_at_call 49; refine hp.out.mono ?_; rintro e w' ⟨rfl, rfl⟩))
      go_ret2
      exact ⟨rfl, Below.refl _ _⟩
    · rw [hpf] at hp
      replace hp := Lib.hid hp
      obtain ⟨m, rfl, hm2, hm3⟩ := let_nat (W.krSet_let hq)
      rw [imOf_yes hq hpf]
      have hle := spec_krLengths A ss c w h h12 (fun k hk => (W.short_size _ (W.isSet_short ss hset k hk)).2)
      have hsh := fun (A' : Option Addr) (c' : Nat) (u : World) (g : Row u u.heap.size A' (ints (W.lens ss))) => spec_krShares A' (W.lens ss) c' m u g (by rw [lens_len]; exact h12) (lens_all hset) hm2 hm3
      have hpw := fun u => spec_krPower m 8 u (pow_small m _ hm3 (by omega)) (by omega)
      generalize W.lens ss = z at hle hsh ⊢
      generalize W.shares m z = S at hsh ⊢
      generalize m ^ 8 = D at hpw ⊢
      replace hle := Lib.hid hle
      replace hsh := Lib.hid hsh
      replace hpw := Lib.hid hpw
      have e : ((S : Int) == (D : Int)) = decide (S = D) := by
        rw [Bool.eq_iff_iff, beq_iff_eq, decide_eq_true_eq]
        omega
      generalize decide (S = D) = r at e ⊢
      clear h hs hq hpf hset
      go_enter Tryd.func31, Tryd.ntmps31
      go_wp2_with (first | (go_at_call 33; refine hc.out.mono ?_; rintro e w' ⟨rfl, rfl⟩) | (go_at_call 49; refine hp.out.mono ?_; rintro e w' ⟨rfl, rfl⟩) | (go_at_call 35; refine hle.out.mono ?_; rintro e w1 ⟨A', c', rfl, ho, hB1⟩))
      have hs1 := Lib.hid (hsh.out A' c' w1 (Row.of_own ho))
      go_wp2_with (first | (go_at_call 50; refine hs1.out.mono ?_; rintro e w' ⟨rfl, rfl⟩) | (go_at_call 40; refine (hpw.out _).mono ?_; rintro e w' ⟨rfl, rfl⟩))
      go_ret2
      exact ⟨rfl, hB1⟩
end Go.Proofs.YtampgpekhjhciaaDoor
