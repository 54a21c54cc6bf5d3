/-
  WHAT THIS FILE PROVES: the specification's tests of weights and counts, and words with given counts: they give what the plain ones say; asked: slices in memory, lengths that an int holds.
-/
import Derived.Test.YtkgoglmhojppbaaLe
import Derived.Test.YtkgoglmhojppbaaIn
import Derived.Test.YtkgoglmhojppbaaArith
import Derived.OwnWalk
import Derived.BigQuiet
namespace Go.Proofs.Ytkgoglmhojppbaa
open Go.RowKit Go.Shelf

theorem all3 (m a b c : Int) : ([a, b, c] : List Int).all (inR 0 m) = decide ((0 ≤ a ∧ a ≤ m) ∧ (0 ≤ b ∧ b ≤ m) ∧ (0 ≤ c ∧ c ≤ m)) := by
  rw [Bool.eq_iff_iff]
  simp [inR]
theorem div_wrapL (a g : Nat) (h : a ≤ 4611686018427387904) : wrap64 ((a : Int) / (g : Int)) = ((a / g : Nat) : Int) := by
  have h1 := Nat.div_le_self a g
  rw [← Int.natCast_ediv]
  generalize a / g = q at h1 ⊢
  exact IntWalk.wrap64_in _ (by omega)
set_option maxHeartbeats 1600000 in
theorem spec_leCounts (A : Option Addr) (z : List Int) (c : Nat) (w : World) (h : Row w w.heap.size A (ints z)) :
    Calls Try.prog 8 #[.slice A z.length c] w fun e w' => e = .returned (.bool (W.flB 12 z)) ∧ ∃ n, w' = w.drewN n := by
  by_cases hl : z.length = 3
  · obtain ⟨x, y, v, rfl⟩ := W.three hl
    have hc : ∀ (u : World), Row u u.heap.size A (ints [x, y, v]) → Calls Try.prog 10 #[.slice A 3 c, .int .i64 0, .int .i64 12] u fun e w' => e = .returned (.bool ([x, y, v].all (inR 0 12))) ∧ u = w' := fun u hu => spec_l1AllR A [x, y, v] c 0 12 u hu (by simp)
    rw [all3] at hc
    obtain ⟨b, off, rfl, hb, hcc⟩ := Row.int_at h (by simp)
    have c0 : w.cell? ⟨b, off, none⟩ = some (.int .i64 x) := hcc 0 (by simp)
    have c1 : w.cell? ⟨b, off + 1, none⟩ = some (.int .i64 y) := hcc 1 (by simp)
    have c2 : w.cell? ⟨b, off + 2, none⟩ = some (.int .i64 v) := hcc 2 (by simp)
    clear hcc
    replace h := Lib.hid h
    by_cases ha : (0 ≤ x ∧ x ≤ 12) ∧ (0 ≤ y ∧ y ≤ 12) ∧ (0 ≤ v ∧ v ≤ 12)
    · rw [decide_eq_true ha] at hc
      have e1 : IntKind.i64.wrap (x + y) = x + y := IntWalk.i64_in _ (by omega)
      have e2 : IntKind.i64.wrap (x + y + v) = x + y + v := IntWalk.i64_in _ (by omega)
      have hr : W.flB 12 [x, y, v] = decide (x + y + v ≤ 12) := by
        show decide (0 ≤ x ∧ 0 ≤ y ∧ 0 ≤ v ∧ x + y + v ≤ 12) = _
        rw [Bool.eq_iff_iff, decide_eq_true_eq, decide_eq_true_eq]
        omega
      rw [hr]
      clear hr
      replace hc := Lib.hid hc
      go_enter Try.func8, Try.ntmps8
      go_wp2
      go_quiet ((go_at_call 10; refine (hc.out _ (by first | exact h.out | (have h1 := below_drewN (Below.refl w.heap.size w) 1; exact (h.out.below h1).more h1.size))).mono ?_; rintro e w' ⟨rfl, rfl⟩; exact ⟨rfl, _, rfl⟩))
      go_wp2
      go_ret
      exact ⟨rfl, _, rfl⟩
    · rw [decide_eq_false ha] at hc
      have hr : W.flB 12 [x, y, v] = false := by
        show decide (0 ≤ x ∧ 0 ≤ y ∧ 0 ≤ v ∧ x + y + v ≤ 12) = _
        rw [decide_eq_false_iff_not]
        omega
      rw [hr]
      clear hr
      replace hc := Lib.hid hc
      go_enter Try.func8, Try.ntmps8
      go_wp2
      go_quiet ((go_at_call 10; refine (hc.out _ (by first | exact h.out | (have h1 := below_drewN (Below.refl w.heap.size w) 1; exact (h.out.below h1).more h1.size))).mono ?_; rintro e w' ⟨rfl, rfl⟩; exact ⟨rfl, _, rfl⟩))
      go_wp2
      go_ret
      exact ⟨rfl, _, rfl⟩
  · rw [W.flB_len hl]
    have hl2 : ((z.length : Int) == 3) = false := beq_eq_false_iff_ne.2 (by omega)
    have hl3 : ¬ ((z.length : Int) = 3) := by omega
    clear h hl
    go_enter Try.func8, Try.ntmps8
    go_wp2
    go_quiet (fail)
    go_wp2
    go_ret
    exact ⟨rfl, _, rfl⟩
set_option maxHeartbeats 1600000 in
theorem spec_CountWithCounts (A : Option Addr) (z : List Int) (c : Nat) (w : World) (h : Row w w.heap.size A (ints z)) (_hl : z.length ≤ 9223372036854775807) :
    Calls Try.prog 4 #[.slice A z.length c] w fun e w' => e = .returned (.tuple #[.int .i64 (W.cwcOf z), .bool (W.flB 12 z)]) ∧ Below w.heap.size w w' := by
  have hc := spec_leCounts A z c w h
  cases hq : W.flB 12 z
  · rw [W.cwcOf_no hq]
    rw [hq] at hc
    replace hc := Lib.hid hc
    clear h hq
    go_enter Try.func4, Try.ntmps4
    go_wp2_with (go_at_call 8; refine hc.out.mono ?_; rintro e w' ⟨rfl, n, rfl⟩)
    go_ret2
    exact ⟨rfl, below_drewN (Below.refl _ _) _⟩
  · rw [W.cwcOf_yes hq]
    obtain ⟨r, hr⟩ : ∃ r, r = (W.cwF z).1 := ⟨_, rfl⟩
    rw [← hr]
    have Hall := Lib.hid (show W.cwF (z.take z.length) = W.cwF z by rw [List.take_length])
    have Hst := Lib.hid (W.cwF_step hq)
    rw [hq] at hc
    replace hc := Lib.hid hc
    replace h := Lib.hid h
    replace hr := Lib.hid hr
    clear hq
    go_enter Try.func4, Try.ntmps4
    go_wp2_with (go_at_call 8; refine hc.out.mono ?_; rintro e w' ⟨rfl, n, rfl⟩)
    have hB := Lib.hid (below_drewN (Below.refl w.heap.size w) n)
    generalize w.drewN n = wd at hB ⊢
    have hrow := Lib.hid (h.out.below hB.out)
    go_loop [4, 5, 14] (fun q p i => ∃ (k o n : Nat), k ≤ z.length ∧ i = .int .i64 k ∧ q = .int .i64 o ∧ p = .int .i64 n ∧ Hid (W.cwF (z.take k) = (o, n))) (fun _ _ i => z.length - (intOf i).toNat)
    case atStart => exact ⟨0, 1, 0, Nat.zero_le _, rfl, rfl, rfl, rfl⟩
    case round =>
      obtain ⟨k, o, n', hk, rfl, rfl, rfl, hF⟩ := hrel
      by_cases hlt : k < z.length
      · obtain ⟨b, off, rfl, hb, hcc⟩ := Row.int_at hrow.out (by omega)
        have hlt' : (k : Int) < (z.length : Int) := by omega
        have c1 := hcc k hlt
        clear hcc
        obtain ⟨o2, n2, x, h1, h2, h3, h4, h5⟩ := Hst.out k hlt
        obtain ⟨rfl, rfl⟩ := Prod.mk.inj (hF.out.symm.trans h1)
        rw [h2] at c1
        have Hle := Lib.hid (W.cwK_le o n' h4)
        have H5 := Lib.hid h5
        clear h1 h2 h4 h5 hF
        go_wp2
        go_loop [4, 5, 8] (fun q p j => ∃ (d : Nat) (qn : Nat), d ≤ x ∧ j = .int .i64 ((d : Int) + 1) ∧ q = .int .i64 qn ∧ p = .int .i64 ((n' : Int) + d) ∧ Hid (qn = W.cwK o n' d)) (fun _ _ j => x + 1 - (intOf j).toNat)
        case atStart => exact ⟨0, o, Nat.zero_le _, rfl, rfl, by simp, rfl⟩
        case round =>
          obtain ⟨d, qn, hd, rfl, rfl, rfl, hqn⟩ := hrel
          by_cases hdx : d < x
          · have hdx' : (d : Int) + 1 ≤ (x : Int) := by omega
            have hle := Nat.le_trans (Hle.out d (by omega)) (W.pow12 (by omega))
            rw [← hqn.out] at hle
            have hmul : qn * (n' + d + 1) ≤ 8916100448256 * 13 := Nat.mul_le_mul hle (by omega)
            have e1 : wrap64 ((qn : Int) * ((n' : Int) + d + 1)) = ((qn * (n' + d + 1) : Nat) : Int) := mul_wrap qn (n' + d + 1) (by omega)
            have e2 : wrap64 (((qn * (n' + d + 1) : Nat) : Int) / ((d : Int) + 1)) = ((qn * (n' + d + 1) / (d + 1) : Nat) : Int) := div_wrapL (qn * (n' + d + 1)) (d + 1) (by omega)
            have Hq2 := Lib.hid (show qn * (n' + d + 1) / (d + 1) = W.cwK o n' (d + 1) by rw [W.cwK_succ, ← hqn.out])
            have hd0 : (((d : Int) + 1) == 0) = false := beq_eq_false_iff_ne.2 (by omega)
            generalize qn * (n' + d + 1) / (d + 1) = q2 at e2 Hq2
            generalize qn * (n' + d + 1) = q1 at e1 e2 hmul
            clear hmul hle hqn
            go_wp2
            go_round
            case rel => exact ⟨d + 1, q2, by omega, by go_num, by rw [e2], by go_num, Hq2.out⟩
            case measure => simp [intOf]; omega
          · obtain rfl : d = x := by omega
            have hdx' : ¬ ((d : Int) + 1 ≤ (d : Int)) := by omega
            have H6 := Lib.hid (show W.cwF (z.take (k + 1)) = (qn, n' + d) by rw [H5.out, hqn.out])
            go_wp2
            go_round
            case rel => exact ⟨k + 1, qn, n' + d, by omega, by go_num, rfl, by go_num, H6.out⟩
            case measure => simp [intOf]; omega
      · obtain rfl : k = z.length := by omega
        have e : r = o := by rw [hr.out, ← Hall.out, hF.out]
        subst e
        go_wp2
        go_ret2
        exact ⟨rfl, hB.out⟩
end Go.Proofs.Ytkgoglmhojppbaa
