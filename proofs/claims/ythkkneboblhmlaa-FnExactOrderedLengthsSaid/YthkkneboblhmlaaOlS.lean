/-
  WHAT THIS FILE PROVES: ordered lengths and their words: the specification's functions give the plain ones; asked: slices in memory, lengths that an int holds.
-/
import Derived.Test.YthkkneboblhmlaaOl
import Derived.Test.YthkkneboblhmlaaBeS
import Derived.Test.YthkkneboblhmlaaTxS
import Derived.Test.YthkkneboblhmlaaMemS
namespace Go.Proofs.Ythkkneboblhmlaa
open Go.RowKit Go.Shelf

theorem olN_quo (n pw N : Nat) (h : 1 ≤ pw) (hN : (n + pw - 1) / pw = N) : ((n : Int) + (pw : Int) - 1) / (pw : Int) = (N : Int) := by
  rw [show ((n : Int) + (pw : Int) - 1) = ((n + pw - 1 : Nat) : Int) by omega, ← Int.natCast_ediv, hN]
set_option maxHeartbeats 6400000 in
theorem spec_beTexts (A : Option Addr) (ls : List Int) (c : Nat) (w : World) (h : Row w w.heap.size A (ints ls)) (h2 : ls.all (fun x => decide (1 ≤ x ∧ x ≤ 11)) = true) (h12 : ls.length ≤ 12) :
    Calls Try.prog 51 #[.slice A ls.length c] w (GivesStrs w (W.olX ls)) := by
  obtain ⟨i0, hi, hz0, hz1, hz2⟩ := info_parts infoStr
  have HR := Lib.hid (And.intro hi (And.intro hz0 (And.intro hz1 hz2)))
  have Hst := Lib.hid (fun k (hk : k < ls.length) => W.olN_step h2 k hk)
  have Hpl := Lib.hid (fun k => W.olT_succ ls k)
  have Hlen := Lib.hid (W.olT_length ls ls.length)
  have Hl := Lib.hid (fun k (hk : k < ls.length) => W.all_at h2 k hk)
  have Hall := Lib.hid (W.olX_all ls)
  have Hpw := Lib.hid (fun (j : Nat) (hj : j ≤ 11) (u : World) => spec_krPower 2 j u (pow_small 2 j (by omega) hj) (by omega))
  have Htx := Lib.hid (fun (N l : Nat) (hN : N ≤ 4096) (hl : l ≤ 11) (u : World) => spec_krText N l 2 u (by omega) (by omega) (by omega) (by omega))
  replace h := Lib.hid h
  clear hi hz0 hz1 hz2 h2
  go_enter Try.func51, Try.ntmps51
  go_wp2
  go_loopw [3, 4, 5, 11] (fun v nv bv i wr => ∃ (k n : Nat) (b : Int), k ≤ ls.length ∧ 0 ≤ b ∧ b ≤ 11 ∧ i = .int .i64 k ∧ nv = .int .i64 n ∧ bv = .int .i64 b ∧ Hid (n * W.partD 2 b = W.olE (ls.take k)) ∧ Hid (W.olE (ls.take k) ≤ 2048) ∧ wr.ownsRow w.heap.size 9 1 v k (strs (W.olT ls k)) ∧ Below w.heap.size w wr) (fun _ _ _ i _ => ls.length - (intOf i).toNat)
  case atStart => exact ⟨0, 0, 0, Nat.zero_le _, by omega, by omega, rfl, rfl, rfl, by show 0 * _ = _; rw [Nat.zero_mul]; rfl, by show 0 ≤ 2048; omega, World.ownsRow_nil _ _ _ _, Below.refl _ _⟩
  case round =>
    obtain ⟨k, n, b, hk, hb0, hb, rfl, rfl, rfl, he, hE, ho, hB⟩ := hrel
    have hO := Lib.hid (And.intro ho hB)
    have hszr := hB.size
    have hn : n ≤ 2048 := Nat.le_trans (Nat.le_mul_of_pos_right n (W.partD_pos 2 (by omega) b)) (Nat.le_trans (Nat.le_of_eq he.out) hE.out)
    by_cases hlt : k < ls.length
    · obtain ⟨bk, off, rfl, hbk, hcc⟩ := Row.int_at h.out (by omega)
      have hlt' : (k : Int) < (ls.length : Int) := by omega
      have c1 := (hB.cell (p := ⟨bk, off + k, none⟩) hbk).trans (hcc k hlt)
      clear hcc ho hB
      have hl := Hl.out k hlt
      obtain ⟨htw, hN4, hyes, hno⟩ := Hst.out k hlt n b hb0 hb he.out hE.out
      have hpl := Hpl.out k
      generalize W.olW ls k = x at htw hpl
      generalize ls[k] = l at c1 hl htw hN4 hyes hno
      have hl1 := hl.1
      have hl11 := hl.2
      obtain ⟨N, hN⟩ : ∃ N, W.olN n b l = N := ⟨_, rfl⟩
      rw [hN] at htw hN4 hyes hno
      replace hyes := Lib.hid hyes
      replace hno := Lib.hid hno
      have htx := Htx.out N l.toNat hN4 (by omega)
      have hql := Hpw.out l.toNat (by omega)
      rw [show ((l.toNat : Nat) : Int) = l by omega] at htx hql
      rw [← htw] at htx
      have hq2 : 2 ^ l.toNat ≤ 2048 := Nat.le_trans (Nat.pow_le_pow_right (by omega) (show l.toNat ≤ 11 by omega)) (by decide)
      generalize 2 ^ l.toNat = q at hyes hno hql hq2
      have hN4i : (N : Int) ≤ 4096 := by omega
      replace htx := Lib.hid htx
      replace hql := Lib.hid hql
      replace hpl := Lib.hid hpl
      clear htw
      by_cases hbl : b ≤ l
      · have hbl' : b ≤ l := hbl
        have hjn : (l - b).toNat ≤ 11 := by omega
        have hpw := Hpw.out (l - b).toNat (by omega)
        rw [show (((l - b).toNat : Nat) : Int) = l - b by omega] at hpw
        have hNd : W.olN n b l = n * 2 ^ (l - b).toNat := if_pos hbl
        rw [hNd] at hN
        generalize 2 ^ (l - b).toNat = pw at hpw hN
        have e1 : wrap64 ((n : Int) * (pw : Int)) = ((N : Nat) : Int) := by rw [mul_wrap n pw (by rw [hN]; exact Nat.le_trans hN4 (by decide)), hN]
        replace hN := Lib.hid hN
        clear hNd
        replace hpw := Lib.hid hpw
        by_cases hfit : N < q
        · obtain ⟨hy1, hy2⟩ := hyes.out hfit
          replace hy1 := Lib.hid hy1
          replace hy2 := Lib.hid hy2
          have hfit' : ¬ ((q : Int) ≤ (N : Int)) := Int.not_le.2 (Int.ofNat_lt.2 hfit)
          have hfit3 : ¬ (q ≤ N) := Nat.not_le.2 hfit
          clear hyes hno
          go_wp2_with fail
          refine (hpw.out _).mono ?_
          rintro e w' ⟨rfl, rfl⟩
          go_wp2_with fail
          refine (hql.out _).mono ?_
          rintro e w' ⟨rfl, rfl⟩
          go_wp2_with (first | (go_at_call 59; refine (htx.out _).mono ?_; rintro e w' ⟨rfl, rfl⟩) | (at_builtin; refine wpList_append_own _ rfl _ _ 54 rfl w.heap.size 9 i0 (.string ByteArray.empty) 1 16 Try.underlying54 HR.out.1 HR.out.2.1 HR.out.2.2.1 HR.out.2.2.2 rfl (by decide) _ _ _ rfl (hO.out.1.alloc _) ⟨wr.heap.size, 0, none⟩ 1 1 [.string x] rfl rfl (cell_one_new _ _ _) (one_text _) (by unfold maxLen; omega) (by omega) (by simp; omega) ?_))
          intro v' w2 hown' hgrow _
          clear e1
          have hlt1 := hO.out.1.lt
          have hF := Lib.hid (And.intro hown' ((hO.out.2.alloc hszr _).grown hgrow (by simp; omega) (fun g hg => (hlt1 g hg).1)))
          clear hown' hgrow hlt1
          go_wp2
          go_roundw
          case rel => exact ⟨k + 1, N + 1, l, by omega, by omega, by omega, by go_num, by go_num, rfl, hy1.out, hy2.out, by rw [hpl.out, strs_snoc]; exact hF.out.1, hF.out.2⟩
          case measure => simp [intOf]; omega
        · have hfalse := hno.out hfit
          have hfit3 : q ≤ N := Nat.le_of_not_lt hfit
          have hfit' : (q : Int) ≤ (N : Int) := Int.ofNat_le.2 hfit3
          replace hfalse := Lib.hid hfalse
          clear hyes hno
          go_wp2_with fail
          refine (hpw.out _).mono ?_
          rintro e w' ⟨rfl, rfl⟩
          go_wp2_with fail
          refine (hql.out _).mono ?_
          rintro e w' ⟨rfl, rfl⟩
          go_wp2
          go_ret
          rw [W.olX_no hfalse.out]
          exact ⟨none, 0, rfl, World.ownsRow_nil _ _ _ _, hO.out.2⟩
      · have hbl' : l < b := by omega
        have hjn : (b - l).toNat ≤ 11 := by omega
        have hpw := Hpw.out (b - l).toNat (by omega)
        rw [show (((b - l).toNat : Nat) : Int) = b - l by omega] at hpw
        have hNd : W.olN n b l = (n + 2 ^ (b - l).toNat - 1) / 2 ^ (b - l).toNat := if_neg hbl
        rw [hNd] at hN
        have hpw1 : 1 ≤ 2 ^ (b - l).toNat := Nat.pow_pos (by omega)
        have hpw2 : 2 ^ (b - l).toNat ≤ 2048 := Nat.le_trans (Nat.pow_le_pow_right (by omega) hjn) (by decide)
        generalize 2 ^ (b - l).toNat = pw at hpw hN hpw1 hpw2
        have hpi0 : ((pw : Int) == 0) = false := beq_eq_false_iff_ne.2 (by omega)
        have hpi1 : (0 : Int) < (pw : Int) := by omega
        have hpi2 : (pw : Int) ≤ 2048 := by omega
        have hw := IntWalk.wrap64_in (N : Int) (by omega)
        have e1 := olN_quo n pw N hpw1 hN
        have e2 : wrap64 (((n : Int) + (pw : Int) - 1) / (pw : Int)) = (N : Int) := by rw [e1]; exact hw
        clear hw
        replace hN := Lib.hid hN
        clear hNd
        replace hpw := Lib.hid hpw
        by_cases hfit : N < q
        · obtain ⟨hy1, hy2⟩ := hyes.out hfit
          replace hy1 := Lib.hid hy1
          replace hy2 := Lib.hid hy2
          have hfit' : ¬ ((q : Int) ≤ (N : Int)) := Int.not_le.2 (Int.ofNat_lt.2 hfit)
          have hfit3 : ¬ (q ≤ N) := Nat.not_le.2 hfit
          clear hyes hno
          go_wp2_with fail
          refine (hpw.out _).mono ?_
          rintro e w' ⟨rfl, rfl⟩
          go_wp2_with fail
          refine (hql.out _).mono ?_
          rintro e w' ⟨rfl, rfl⟩
          go_wp2_with (first | (go_at_call 59; refine (htx.out _).mono ?_; rintro e w' ⟨rfl, rfl⟩) | (at_builtin; refine wpList_append_own _ rfl _ _ 54 rfl w.heap.size 9 i0 (.string ByteArray.empty) 1 16 Try.underlying54 HR.out.1 HR.out.2.1 HR.out.2.2.1 HR.out.2.2.2 rfl (by decide) _ _ _ rfl (hO.out.1.alloc _) ⟨wr.heap.size, 0, none⟩ 1 1 [.string x] rfl rfl (cell_one_new _ _ _) (one_text _) (by unfold maxLen; omega) (by omega) (by simp; omega) ?_))
          intro v' w2 hown' hgrow _
          clear e1 e2
          have hlt1 := hO.out.1.lt
          have hF := Lib.hid (And.intro hown' ((hO.out.2.alloc hszr _).grown hgrow (by simp; omega) (fun g hg => (hlt1 g hg).1)))
          clear hown' hgrow hlt1
          go_wp2
          go_roundw
          case rel => exact ⟨k + 1, N + 1, l, by omega, by omega, by omega, by go_num, by go_num, rfl, hy1.out, hy2.out, by rw [hpl.out, strs_snoc]; exact hF.out.1, hF.out.2⟩
          case measure => simp [intOf]; omega
        · have hfalse := hno.out hfit
          have hfit3 : q ≤ N := Nat.le_of_not_lt hfit
          have hfit' : (q : Int) ≤ (N : Int) := Int.ofNat_le.2 hfit3
          replace hfalse := Lib.hid hfalse
          clear hyes hno
          go_wp2_with fail
          refine (hpw.out _).mono ?_
          rintro e w' ⟨rfl, rfl⟩
          go_wp2_with fail
          refine (hql.out _).mono ?_
          rintro e w' ⟨rfl, rfl⟩
          go_wp2
          go_ret
          rw [W.olX_no hfalse.out]
          exact ⟨none, 0, rfl, World.ownsRow_nil _ _ _ _, hO.out.2⟩
    · obtain rfl : k = ls.length := by omega
      clear ho hB
      go_wp2
      go_ret
      rw [Hall.out hE.out]
      exact givesStrs_of (by rw [Hlen.out]; exact hO.out.1) rfl hO.out.2
theorem spec_beCan (A : Option Addr) (ls : List Int) (c : Nat) (w : World) (h : Row w w.heap.size A (ints ls)) (h2 : ls.all (fun x => decide (1 ≤ x ∧ x ≤ 11)) = true) (h1 : 1 ≤ ls.length) (h12 : ls.length ≤ 12) :
    Calls Try.prog 32 #[.slice A ls.length c] w fun e w' => e = .returned (.bool (W.isOl ls)) ∧ Below w.heap.size w w' := by
  have hc := Lib.hid (spec_beTexts A ls c w h h2 h12)
  have hr := Lib.hid (W.olX_len ls h1)
  generalize W.isOl ls = r at hr ⊢
  generalize W.olX ls = xs at hc hr
  clear h h2
  go_enter Try.func32, Try.ntmps32
  go_wp2_with fail
  refine hc.out.mono ?_
  rintro e w1 ⟨A', c', rfl, _, hB⟩
  replace hB := Lib.hid hB
  go_wp2
  go_ret
  refine ⟨?_, hB.out⟩
  rw [← hr.out]
  by_cases hx : xs.length = ls.length
  · rw [decide_eq_true hx]
    simp [hx]
  · rw [decide_eq_false hx]
    simp
    omega
end Go.Proofs.Ythkkneboblhmlaa
