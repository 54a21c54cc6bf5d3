/-
  WHAT THIS FILE PROVES: the number of complete prefix sets: the specification's functions give the plain one; nothing is asked of the memory.
-/
import Derived.Test.YtnbgehaliicbnaaCp
import Derived.Test.YtnbgehaliicbnaaKrS
namespace Go.Proofs.Ytnbgehaliicbnaa
open Go.RowKit Go.Shelf

def CpSplitAt (L m p : Nat) : Prop := ∀ (n : Nat) (w : World), n ≤ 9 →
  Calls Try.prog 14 #[.int .i64 L, .int .i64 p, .int .i64 n, .int .i64 m] w fun e w' => e = .returned (.int .i64 (cpS (cpC L m) p n : Nat)) ∧ w = w'
def CpCountAt (L m : Nat) : Prop := ∀ (n : Nat) (w : World), n ≤ 9 →
  Calls Try.prog 25 #[.int .i64 L, .int .i64 n, .int .i64 m] w fun e w' => e = .returned (.int .i64 (cpC L m n : Nat)) ∧ w = w'
theorem spec_pfSplit0 (L m : Nat) : CpSplitAt L m 0 := by
  intro n w hn
  by_cases h0 : n = 0
  · subst h0
    go_enter Try.func14, Try.ntmps14
    go_wp2
    go_ret
    exact ⟨rfl, rfl⟩
  · have e : cpS (cpC L m) 0 n = 0 := if_neg h0
    rw [e]
    have hne : ((n : Int) == 0) = false := beq_eq_false_iff_ne.2 (by omega)
    go_enter Try.func14, Try.ntmps14
    go_wp2
    go_ret
    exact ⟨rfl, rfl⟩
set_option maxHeartbeats 1600000 in
set_option maxRecDepth 100000 in
theorem spec_pfSplitS {L m p : Nat} (hL : L = 2 ∨ L = 3) (hm : m ≤ 7) (hp : p ≤ 2) (hc : CpCountAt L m) (hs : CpSplitAt L m p) : CpSplitAt L m (p + 1) := by
  intro n w hn
  have Hc := Lib.hid (fun k w hk => hc k w hk)
  have Hs := Lib.hid (fun k w hk => hs k w hk)
  have Hsu := Lib.hid (fun k => cpTo_succ (cpC L m) p n k)
  have Hal := Lib.hid (cpTo_all (cpC L m) p n)
  have Hbd := Lib.hid (show ∀ k, k ≤ n - p → cpTo (cpC L m) p n k ≤ 100000 from fun k hk => Nat.le_trans (cpTo_mono (cpC L m) p n k (n - p) hk) (by rw [cpTo_all]; exact (cp_bd hL hm (by omega) hn).1))
  have hp0 : (((p + 1 : Nat) : Int) == 0) = false := beq_eq_false_iff_ne.2 (by omega)
  have hp0' : (((p : Int) + 1) == 0) = false := beq_eq_false_iff_ne.2 (by omega)
  clear hc hs
  generalize cpS (cpC L m) (p + 1) n = tot at Hal ⊢
  generalize cpC L m = f at Hc Hs Hsu Hal Hbd
  go_enter Try.func14, Try.ntmps14
  go_wp2
  go_loopw [9, 10] (fun s i wr => ∃ k : Nat, k ≤ n - p ∧ i = .int .i64 ((k : Int) + 1) ∧ s = .int .i64 (cpTo f p n k : Nat) ∧ Hid (wr = w)) (fun _ i _ => n + 1 - (intOf i).toNat)
  case atStart => exact ⟨0, Nat.zero_le _, rfl, rfl, rfl⟩
  case round =>
    obtain ⟨k, hk, rfl, rfl, hw⟩ := hrel
    replace hw := hw.out
    subst hw
    by_cases hlt : k < n - p
    · have hlt' : (k : Int) + 1 ≤ (n : Int) - ((p : Int) + 1) + 1 := by omega
      have hc1 := Hc.out (k + 1) wr (by omega)
      have hs1 := Hs.out (n - (k + 1)) wr (by omega)
      have e1 : ((n - (k + 1) : Nat) : Int) = (n : Int) - ((k : Int) + 1) := by omega
      have e2 : ((k + 1 : Nat) : Int) = (k : Int) + 1 := by omega
      rw [e1] at hs1
      rw [e2] at hc1
      have hb0 := Hbd.out k hk
      have hb1 := Hbd.out (k + 1) (by omega)
      have hsu := Lib.hid (Hsu.out k)
      rw [hsu.out] at hb1
      generalize f (k + 1) = x at hc1 hsu hb1
      generalize cpS f p (n - (k + 1)) = y at hs1 hsu hb1
      generalize cpTo f p n k = z at hsu hb0 hb1 ⊢
      have hxy := Lib.hid (show wrap64 ((z : Int) + wrap64 ((x : Int) * (y : Int))) = ((z + x * y : Nat) : Int) by
        rw [← Int.natCast_mul, IntWalk.wrap64_in ((x * y : Nat) : Int) (by omega), ← Int.natCast_add]
        exact IntWalk.wrap64_in _ (by omega))
      replace hc1 := Lib.hid hc1
      replace hs1 := Lib.hid hs1
      clear hb1 e1 e2
      go_wp2_with fail
      refine hc1.out.mono ?_
      rintro e w1 ⟨rfl, rfl⟩
      go_wp2_with fail
      refine hs1.out.mono ?_
      rintro e w1 ⟨rfl, rfl⟩
      go_wp2
      refine ⟨?_, ?measure⟩
      · repeat apply Exists.intro
        refine ⟨?_, rfl⟩
        exact ⟨k + 1, by omega, by go_num, by rw [hxy.out, hsu.out], trivial⟩
      case measure => simp [intOf]; omega
    · obtain rfl : k = n - p := by omega
      have hle : ¬ ((n - p : Nat) : Int) + 1 ≤ (n : Int) - ((p : Int) + 1) + 1 := by omega
      rw [Hal.out]
      generalize ((n - p : Nat) : Int) = q at hle ⊢
      go_wp2
      go_ret
      exact ⟨rfl, rfl⟩
theorem spec_pfCount0 (L : Nat) : CpCountAt L 0 := by
  intro n w hn
  by_cases h1 : n = 1
  · subst h1
    go_enter Try.func25, Try.ntmps25
    go_wp2
    go_ret
    exact ⟨rfl, rfl⟩
  · have e : cpC L 0 n = 0 := if_neg h1
    rw [e]
    have hne : ((n : Int) == 1) = false := beq_eq_false_iff_ne.2 (by omega)
    go_enter Try.func25, Try.ntmps25
    go_wp2
    go_ret
    exact ⟨rfl, rfl⟩
theorem spec_pfCountS {L m : Nat} (hL : L = 2 ∨ L = 3) (hm : m + 1 ≤ 7) (hs : CpSplitAt L m L) : CpCountAt L (m + 1) := by
  intro n w hn
  have hs1 := hs n w hn
  have hbd := (cp_bd (p := L) hL (show m ≤ 7 by omega) (by omega) hn).1
  have hm0 : (0 : Int) < (m : Int) + 1 := by omega
  by_cases h1 : n = 1
  · subst h1
    have e : cpC L (m + 1) 1 = 1 + cpS (cpC L m) L 1 := rfl
    rw [e]
    generalize cpS (cpC L m) L 1 = x at hs1 hbd ⊢
    replace hs1 := Lib.hid hs1
    have hx : (x : Int) ≤ 100000 := by omega
    clear hs e
    go_enter Try.func25, Try.ntmps25
    go_wp2_with fail
    refine hs1.out.mono ?_
    rintro e w1 ⟨rfl, rfl⟩
    go_wp2
    go_ret
    exact ⟨by rw [Int.natCast_add]; rfl, rfl⟩
  · have e : cpC L (m + 1) n = 0 + cpS (cpC L m) L n := by
      show (if n = 1 then 1 else 0) + _ = _
      rw [if_neg h1]
    rw [e, Nat.zero_add]
    have hne : ((n : Int) == 1) = false := beq_eq_false_iff_ne.2 (by omega)
    generalize cpS (cpC L m) L n = x at hs1 hbd ⊢
    replace hs1 := Lib.hid hs1
    have hx : (x : Int) ≤ 100000 := by omega
    clear hs e
    go_enter Try.func25, Try.ntmps25
    go_wp2_with fail
    refine hs1.out.mono ?_
    rintro e w1 ⟨rfl, rfl⟩
    go_wp2
    go_ret
    exact ⟨rfl, rfl⟩
theorem cp_splits {L m : Nat} (hL : L = 2 ∨ L = 3) (hm : m ≤ 7) (hc : CpCountAt L m) : ∀ p, p ≤ 3 → CpSplitAt L m p := fun p hp => by
  induction p with
  | zero => exact spec_pfSplit0 L m
  | succ p ih => exact spec_pfSplitS hL hm (by omega) hc (ih (by omega))
theorem cp_counts {L : Nat} (hL : L = 2 ∨ L = 3) (m : Nat) (hm : m ≤ 7) : CpCountAt L m := by
  induction m with
  | zero => exact spec_pfCount0 L
  | succ m ih => exact spec_pfCountS hL hm (cp_splits hL (by omega) (ih (by omega)) L (by omega))
theorem spec_CountCompletePrefix0 (L n : Int) (w : World) :
    Calls Try.prog 5 #[.int .i64 L, .int .i64 n] w fun e w' => e = .returned (.tuple #[.int .i64 (cpOf L n : Nat), .bool (cpOk L n)]) ∧ w = w' := by
  have hk := spec_krLetters L w
  have hin := fun w => spec_l1In n 1 9 w
  cases hq : W.krLet L
  · have hno : cpOk L n = false := by unfold cpOk; rw [hq]; rfl
    rw [cpOf_no hno, hno]
    rw [hq] at hk
    replace hk := Lib.hid hk
    clear hno hq
    go_enter Try.func5, Try.ntmps5
    go_wp2_with fail
    refine hk.out.mono ?_
    rintro e w1 ⟨rfl, rfl⟩
    go_wp2_with fail
    go_ret2
    exact ⟨rfl, rfl⟩
  · rw [hq] at hk
    replace hk := Lib.hid hk
    by_cases hr : 1 ≤ n ∧ n ≤ 9
    · obtain ⟨j, rfl⟩ := Int.eq_ofNat_of_zero_le (show (0 : Int) ≤ n by omega)
      have hLc : L = ((L.toNat : Nat) : Int) ∧ (L.toNat = 2 ∨ L.toNat = 3) := by
        rcases W.krLet_cases hq with rfl | rfl <;> simp
      generalize L.toNat = l at hLc
      obtain ⟨rfl, hl⟩ := hLc
      have hok : cpOk (l : Int) (j : Int) = true := by unfold cpOk; rw [hq, decide_eq_true hr]; rfl
      rw [cpOf_yes hok, hok]
      have hs := cp_splits hl (Nat.le_refl 7) (cp_counts hl 7 (Nat.le_refl 7)) l (by omega) j w (by omega)
      rw [decide_eq_true hr] at hin
      replace hin := Lib.hid hin
      have hs2 : Hid (Calls Try.prog 14 #[.int .i64 l, .int .i64 l, .int .i64 j, .int .i64 7] w fun e w' => e = .returned (.int .i64 (cpS (cpC l 7) l j : Nat)) ∧ w = w') := hs
      generalize cpS (cpC l 7) l j = x at hs2 ⊢
      clear hs hok hq
      go_enter Try.func5, Try.ntmps5
      go_wp2_with fail
      refine hk.out.mono ?_
      rintro e w1 ⟨rfl, rfl⟩
      go_wp2_with fail
      refine (hin.out _).mono ?_
      rintro e w1 ⟨rfl, rfl⟩
      go_wp2_with fail
      refine hs2.out.mono ?_
      rintro e w1 ⟨rfl, rfl⟩
      go_wp2_with fail
      go_ret2
      exact ⟨rfl, rfl⟩
    · have hno : cpOk L n = false := by unfold cpOk; rw [decide_eq_false hr]; simp
      rw [cpOf_no hno, hno]
      rw [decide_eq_false hr] at hin
      replace hin := Lib.hid hin
      clear hno hq
      go_enter Try.func5, Try.ntmps5
      go_wp2_with fail
      refine hk.out.mono ?_
      rintro e w1 ⟨rfl, rfl⟩
      go_wp2_with fail
      refine (hin.out _).mono ?_
      rintro e w1 ⟨rfl, rfl⟩
      go_wp2_with fail
      go_ret2
      exact ⟨rfl, rfl⟩
theorem spec_CountCompletePrefix (L n : Int) (w : World) :
    Calls Try.prog 5 #[.int .i64 L, .int .i64 n] w fun e w' => e = .returned (.tuple #[.int .i64 ((cpOf L n : Nat) : Int), .bool (cpOk L n)]) ∧ Below w.heap.size w w' :=
  (spec_CountCompletePrefix0 L n w).mono fun e w' h => by
    obtain ⟨rfl, rfl⟩ := h
    exact ⟨rfl, Below.refl _ _⟩
end Go.Proofs.Ytnbgehaliicbnaa
