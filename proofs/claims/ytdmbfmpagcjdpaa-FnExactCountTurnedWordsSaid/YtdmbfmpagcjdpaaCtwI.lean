/-
  WHAT THIS FILE PROVES: how many words of n letters are no power, their turns counted as one: the program's functions give the plain number; nothing is asked of the memory.
-/
import Derived.Test.YtdmbfmpagcjdpaaCtw
import Derived.Test.YtdmbfmpagcjdpaaKrI
namespace Go.Proofs.Ytdmbfmpagcjdpaa
open Go.RowKit Go.Shelf

def OnceAll (n : Nat) : Prop := ∀ m, 1 ≤ m → m ≤ n → ∀ L, (L = 2 ∨ L = 3) → ∀ w : World, Calls Try.prog 22 #[.int .i64 (L : Nat), .int .i64 (m : Nat)] w fun e w' => e = .returned (.int .i64 ((once L m : Nat) : Int)) ∧ Below w.heap.size w w'
set_option maxHeartbeats 3200000 in
theorem once_step (n : Nat) (h8 : n + 1 ≤ 8) (ih : OnceAll n) (L : Nat) (hL : L = 2 ∨ L = 3) (w : World) :
    Calls Try.prog 22 #[.int .i64 L, .int .i64 ((n + 1 : Nat) : Int)] w fun e w' => e = .returned (.int .i64 ((once L (n + 1) : Nat) : Int)) ∧ Below w.heap.size w w' := by
  have hp := once_parts hL (show 1 ≤ n + 1 by omega) h8
  have HE := Lib.hid hp.1
  have HP := Lib.hid hp.2
  have Hst := Lib.hid (fun k => show onceTo L (n + 1) (k + 1) = if 1 ≤ k ∧ (n + 1) % k = 0 then onceTo L (n + 1) k - once L k else onceTo L (n + 1) k from rfl)
  have hpw := impl_power L (n + 1) w (fun i hi => by
    have : L ^ i ≤ 6561 := by
      rcases hL with rfl | rfl
      · have := Nat.pow_le_pow_right (show 0 < 2 by omega) (show i ≤ 8 by omega)
        omega
      · have := Nat.pow_le_pow_right (show 0 < 3 by omega) (show i ≤ 8 by omega)
        omega
    omega) (by omega)
  have h0 : Hid (L ^ (n + 1) = onceTo L (n + 1) 1) := by show _ = _; rw [show onceTo L (n + 1) 1 = if 1 ≤ 0 ∧ (n + 1) % 0 = 0 then onceTo L (n + 1) 0 - once L 0 else onceTo L (n + 1) 0 from rfl, if_neg (by omega)]; rfl
  have Hih := Lib.hid (fun k h1 h2 u => ih k h1 h2 L hL u)
  generalize once L (n + 1) = R at HE ⊢
  generalize L ^ (n + 1) = p at hpw h0
  replace hpw := Lib.hid hpw
  clear hp ih
  obtain ⟨m, hm⟩ : ∃ m, m = n + 1 := ⟨_, rfl⟩
  rw [← hm] at HE HP Hst hpw h0 ⊢
  have hm8 : m ≤ 8 := by omega
  have hm1 : 1 ≤ m := by omega
  have HM := Lib.hid hm
  clear hm
  go_enter Try.func22, Try.ntmps22
  go_wp2_with fail
  refine hpw.out.mono ?_
  rintro e w1 ⟨rfl, rfl⟩
  go_wp2_with fail
  go_loopw [5, 6] (fun cv v wr => ∃ (k q : Nat), 1 ≤ k ∧ k ≤ m ∧ v = .int .i64 k ∧ cv = .int .i64 q ∧ Hid (q = onceTo L m k) ∧ Hid (Below w.heap.size w wr)) (fun _ v _ => m - (intOf v).toNat)
  case atStart => exact ⟨1, p, Nat.le_refl _, hm1, rfl, rfl, h0, Below.refl _ _⟩
  case round =>
    obtain ⟨k, q, hk1, hk, rfl, rfl, hq, hB⟩ := hrel
    have hb := HP.out k hk
    rw [← hq.out] at hb
    have hb1 := hb.1
    by_cases hlt : k < m
    · have hlt' : (k : Int) < (m : Int) := by omega
      have hst := Hst.out k
      rw [← hq.out] at hst
      have hk0 : ((k : Int) == 0) = false := beq_eq_false_iff_ne.2 (by omega)
      have hmod : ((m : Int) % (k : Int)) = ((m % k : Nat) : Int) := by omega
      by_cases hd : m % k = 0
      · rw [if_pos ⟨hk1, hd⟩] at hst
        have hb2 := hb.2 hd
        have hc := Lib.hid (Hih.out k hk1 (by have := HM.out; omega) wr)
        generalize once L k = o at hst hb2 hc
        have hmod0 : ((m : Int) % (k : Int)) = 0 := by omega
        have hN : Hid (q - o = onceTo L m (k + 1)) := hst.symm
        have hsub : (q : Int) - (o : Int) = ((q - o : Nat) : Int) := by omega
        clear hst hd hb hmod
        go_wp2_with fail
        refine hc.out.mono ?_
        rintro e w1 ⟨rfl, hB1⟩
        have hF := Lib.hid (hB.out.trans (hB1.mono hB.out.size))
        clear hB1
        go_wp2_with fail
        go_roundw
        case rel => exact ⟨k + 1, q - o, by omega, by omega, by go_num, by go_num, hN, hF⟩
        case measure => simp [intOf]; omega
      · rw [if_neg (by omega)] at hst
        have hmod0 : (((m : Int) % (k : Int)) == 0) = false := beq_eq_false_iff_ne.2 (by omega)
        have hN : Hid (q = onceTo L m (k + 1)) := hst.symm
        clear hst hd hb hmod
        go_wp2_with fail
        go_roundw
        case rel => exact ⟨k + 1, q, by omega, by omega, by go_num, rfl, hN, hB⟩
        case measure => simp [intOf]; omega
    · obtain rfl : k = m := by omega
      obtain rfl : q = R := hq.out.trans HE.out
      go_wp2_with fail
      go_ret
      exact ⟨rfl, hB.out⟩
theorem once_all : ∀ n, n ≤ 8 → OnceAll n
  | 0, _ => fun m h1 h2 => by omega
  | n + 1, h => fun m h1 h2 L hL w => by
    have ih := once_all n (by omega)
    by_cases e : m = n + 1
    · subst e
      exact once_step n h ih L hL w
    · exact ih m h1 (by omega) L hL w
set_option maxRecDepth 100000 in
set_option maxHeartbeats 1600000 in
theorem impl_CountTurnedWords (L n : Int) (w : World) :
    Calls Try.prog 11 #[.int .i64 L, .int .i64 n] w fun e w' => e = .returned (.tuple #[.int .i64 ((ctOf L n : Nat) : Int), .bool (ctOk L n)]) ∧ Below w.heap.size w w' := by
  have hk := impl_areLetters L w
  cases hq : W.krLet L
  · have hno : ctOk L n = false := by unfold ctOk; rw [hq]; rfl
    rw [ctOf_no hno, hno]
    rw [hq] at hk
    replace hk := Lib.hid hk
    clear hno hq
    go_enter Try.func11, Try.ntmps11
    go_wp2_with fail
    refine hk.out.mono ?_
    rintro e w1 ⟨rfl, rfl⟩
    go_wp2_with fail
    go_ret2
    exact ⟨rfl, Below.refl _ _⟩
  · rw [hq] at hk
    replace hk := Lib.hid hk
    by_cases hr : 1 ≤ n ∧ n ≤ 8
    · obtain ⟨j, rfl⟩ := Int.eq_ofNat_of_zero_le (show (0 : Int) ≤ n by omega)
      have hLc : L = ((L.toNat : Nat) : Int) ∧ (L.toNat = 2 ∨ L.toNat = 3) := by
        rcases W.krLet_cases hq with rfl | rfl <;> simp
      generalize L.toNat = l at hLc
      obtain ⟨rfl, hl⟩ := hLc
      have hok : ctOk (l : Int) (j : Int) = true := by unfold ctOk; rw [hq, decide_eq_true hr]; rfl
      rw [ctOf_yes hok, hok]
      have hc := once_all 8 (Nat.le_refl _) j (by omega) (by omega) l hl w
      have hb : once l j ≤ 6561 := by have h := once_parts hl (show 1 ≤ j by omega) (show j ≤ 8 by omega); rw [← h.1]; exact (h.2 j (Nat.le_refl _)).1
      generalize once l j = o at hc hb ⊢
      replace hc := Lib.hid hc
      have h1 : ¬ (j : Int) < 1 := by omega
      have h2 : ¬ (8 : Int) < (j : Int) := by omega
      have h3 : ((j : Int) == 0) = false := beq_eq_false_iff_ne.2 (by omega)
      have h4 : (0 : Int) < (j : Int) := by omega
      have hdl := Nat.div_le_self o j
      have hdv : wrap64 ((o : Int) / (j : Int)) = ((o / j : Nat) : Int) := by
        rw [← Int.natCast_ediv]
        generalize o / j = q at hdl ⊢
        exact IntWalk.wrap64_in _ (by omega)
      replace hdv := Lib.hid hdv
      clear hok hq hr
      go_enter Try.func11, Try.ntmps11
      go_wp2_with fail
      refine hk.out.mono ?_
      rintro e w1 ⟨rfl, rfl⟩
      go_wp2_with fail
      refine hc.out.mono ?_
      rintro e w1 ⟨rfl, hB⟩
      go_wp2_with fail
      go_ret2
      exact ⟨by rw [← hdv.out]; rfl, hB⟩
    · have hno : ctOk L n = false := by unfold ctOk; rw [decide_eq_false hr]; simp
      rw [ctOf_no hno, hno]
      clear hno hq
      by_cases h1 : n < 1
      · go_enter Try.func11, Try.ntmps11
        go_wp2_with fail
        refine hk.out.mono ?_
        rintro e w1 ⟨rfl, rfl⟩
        go_wp2_with fail
        go_ret2
        exact ⟨rfl, Below.refl _ _⟩
      · have h2 : 8 < n := by omega
        go_enter Try.func11, Try.ntmps11
        go_wp2_with fail
        refine hk.out.mono ?_
        rintro e w1 ⟨rfl, rfl⟩
        go_wp2_with fail
        go_ret2
        exact ⟨rfl, Below.refl _ _⟩
end Go.Proofs.Ytdmbfmpagcjdpaa
