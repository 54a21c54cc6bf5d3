/-
  WHAT THIS FILE PROVES: how many words of n letters are less than all of their turns: the specification's functions give the plain number; nothing is asked of the memory.
-/
import Derived.Test.YtdmbfmpagcjdpaaCtw
import Derived.Test.YtdmbfmpagcjdpaaTxS
namespace Go.Proofs.Ytdmbfmpagcjdpaa
open Go.RowKit Go.Shelf

set_option maxHeartbeats 1600000 in
theorem spec_syTurned (s : ByteArray) (w : World) (h1 : 1 ≤ s.size) (h8 : s.size ≤ 8) :
    Calls Try.prog 21 #[.string s] w fun e w' => e = .returned (.bool (twd s)) ∧ Below w.heap.size w w' := by
  have Hst := Lib.hid (fun k hk => twTo_succ s k hk)
  have Hno := Lib.hid (fun k hk hf => twTo_no s k s.size hk hf)
  have HD := Lib.hid (show twd s = twTo s s.size from rfl)
  generalize twd s = r at HD ⊢
  go_enter Try.func21, Try.ntmps21
  go_wp2
  go_loopw [3] (fun v wr => ∃ k : Nat, 1 ≤ k ∧ k ≤ s.size ∧ v = .int .i64 k ∧ Hid (twTo s k = true) ∧ Hid (Below w.heap.size w wr)) (fun v _ => s.size - (intOf v).toNat)
  case atStart => exact ⟨1, Nat.le_refl _, h1, rfl, twTo_one s, Below.refl _ _⟩
  case round =>
    obtain ⟨k, hk1, hk, rfl, hT, hB⟩ := hrel
    by_cases hlt : k < s.size
    · have hlt' : (k : Int) < (s.size : Int) := by omega
      have hlt2 : (k : Int) ≤ (s.size : Int) := by omega
      have hz1 : (s.extract k s.size).size ≤ 8 := by rw [ByteArray.size_extract]; omega
      have hz2 : (s.extract 0 k).size ≤ 8 := by rw [ByteArray.size_extract]; omega
      have hst := Hst.out k hk1
      rw [hT.out, Bool.true_and] at hst
      have hle : leB (rot s k) s = (Op.bytesLess (s.extract k s.size ++ s.extract 0 k).toList s.toList || ((s.extract k s.size ++ s.extract 0 k).toList == s.toList)) := rfl
      cases hd : (Op.bytesLess (s.extract k s.size ++ s.extract 0 k).toList s.toList || ((s.extract k s.size ++ s.extract 0 k).toList == s.toList))
      · have hN : Hid (twTo s (k + 1) = true) := by show _ = _; rw [hst, hle, hd]; rfl
        clear hst hle
        go_wp2_with fail
        go_quiet (fail)
        have hF := Lib.hid (below_drewN hB.out nq)
        generalize wr.drewN nq = wz at hF ⊢
        go_wp2_with fail
        go_roundw
        case rel => exact ⟨k + 1, by omega, by omega, by go_num, hN, hF⟩
        case measure => simp [intOf]; omega
      · have hr : r = false := by rw [HD.out]; exact Hno.out (k + 1) hlt (by rw [hst, hle, hd]; rfl)
        subst hr
        clear hst hle
        go_wp2_with fail
        go_quiet (fail)
        have hF := Lib.hid (below_drewN hB.out nq)
        generalize wr.drewN nq = wz at hF ⊢
        go_wp2_with fail
        go_ret
        exact ⟨rfl, hF.out⟩
    · obtain rfl : k = s.size := by omega
      have hr : r = true := by rw [HD.out]; exact hT.out
      subst hr
      go_wp2_with fail
      go_ret
      exact ⟨rfl, hB.out⟩
theorem pow_bound {L n : Nat} (hL : L = 2 ∨ L = 3) (h8 : n ≤ 8) : L ^ n ≤ 6561 := by
  rcases hL with rfl | rfl
  · have := Nat.pow_le_pow_right (show 0 < 2 by omega) h8
    omega
  · have := Nat.pow_le_pow_right (show 0 < 3 by omega) h8
    omega
set_option maxHeartbeats 3200000 in
theorem spec_CountTurnedWords (L n : Int) (w : World) :
    Calls Try.prog 10 #[.int .i64 L, .int .i64 n] w fun e w' => e = .returned (.tuple #[.int .i64 ((ctOf L n : Nat) : Int), .bool (ctOk L n)]) ∧ Below w.heap.size w w' := by
  have hk := spec_krLetters L w
  have hin := spec_l1In n 1 8
  cases hq : W.krLet L
  · have hno : ctOk L n = false := by unfold ctOk; rw [hq]; rfl
    rw [ctOf_no hno, hno]
    rw [hq] at hk
    replace hk := Lib.hid hk
    clear hno hq hin
    go_enter Try.func10, Try.ntmps10
    go_wp2_with fail
    refine hk.out.mono ?_
    rintro e w1 ⟨rfl, rfl⟩
    go_wp2_with fail
    go_ret2
    exact ⟨rfl, Below.refl _ _⟩
  · rw [hq] at hk
    replace hk := Lib.hid hk
    by_cases hr : 1 ≤ n ∧ n ≤ 8
    · obtain ⟨j, rfl⟩ := Int.eq_ofNat_of_zero_le (show (0 : Int) ≤ n by omega)
      have hLc : L = ((L.toNat : Nat) : Int) ∧ (L.toNat = 2 ∨ L.toNat = 3) := by
        rcases W.krLet_cases hq with rfl | rfl <;> simp
      generalize L.toNat = l at hLc
      obtain ⟨rfl, hl⟩ := hLc
      have hok : ctOk (l : Int) (j : Int) = true := by unfold ctOk; rw [hq, decide_eq_true hr]; rfl
      rw [ctOf_yes hok, hok]
      rw [decide_eq_true hr] at hin
      replace hin := Lib.hid hin
      have HE := Lib.hid (ct_once hl (show 1 ≤ j by omega) (show j ≤ 8 by omega))
      have hpb := pow_bound hl (show j ≤ 8 by omega)
      have hpw := fun u => spec_krPower l j u (fun i hi => by have := pow_bound hl (show i ≤ 8 by omega); omega) (by omega)
      have Htx := Lib.hid (fun x (hx : x ≤ 1000000) u => spec_krText x j l u (by omega) (by omega) hx (by omega))
      have Htw := Lib.hid (fun x u => spec_syTurned (txtB l x j) u (by rw [txtB_size]; omega) (by rw [txtB_size]; omega))
      have Hst := Lib.hid (fun m => show ctTo l j (m + 1) = ctTo l j m + if twd (txtB l m j) then 1 else 0 from rfl)
      have Hle := Lib.hid (ctTo_le l j)
      generalize once l j / j = R at HE ⊢
      generalize l ^ j = p at HE hpb hpw
      replace hpw := Lib.hid hpw
      clear hok hq
      go_enter Try.func10, Try.ntmps10
      go_wp2_with fail
      refine hk.out.mono ?_
      rintro e w1 ⟨rfl, rfl⟩
      go_wp2_with fail
      refine (hin.out _).mono ?_
      rintro e w1 ⟨rfl, rfl⟩
      go_wp2_with fail
      go_loopw [6, 7] (fun cv v wr => ∃ (m q : Nat), m ≤ p ∧ v = .int .i64 m ∧ cv = .int .i64 q ∧ Hid (q = ctTo l j m) ∧ Hid (Below w.heap.size w wr)) (fun _ v _ => p - (intOf v).toNat)
      case atStart => exact ⟨0, 0, Nat.zero_le _, rfl, rfl, rfl, Below.refl _ _⟩
      case round =>
        obtain ⟨m, q, hm, rfl, rfl, hq, hB⟩ := hrel
        have hqm := Hle.out m
        rw [← hq.out] at hqm
        by_cases hlt : m < p
        · have hlt' : (m : Int) < (p : Int) := by omega
          have htx := Lib.hid (Htx.out m (by omega) wr)
          have htw := Htw.out m wr
          have hst := Hst.out m
          rw [← hq.out] at hst
          cases hd : twd (txtB l m j)
          · rw [hd] at htw hst
            replace htw := Lib.hid htw
            have hN : Hid (q = ctTo l j (m + 1)) := by show _ = _; rw [hst]; rfl
            clear hst hd
            go_wp2_with fail
            refine (hpw.out _).mono ?_
            rintro e w1 ⟨rfl, rfl⟩
            go_wp2_with fail
            refine htx.out.mono ?_
            rintro e w1 ⟨rfl, rfl⟩
            go_wp2_with fail
            refine htw.out.mono ?_
            rintro e w1 ⟨rfl, hB1⟩
            have hF := Lib.hid (hB.out.trans (hB1.mono hB.out.size))
            clear hB1
            go_wp2_with fail
            go_roundw
            case rel => exact ⟨m + 1, q, by omega, by go_num, rfl, hN, hF⟩
            case measure => simp [intOf]; omega
          · rw [hd] at htw hst
            replace htw := Lib.hid htw
            have hN : Hid (q + 1 = ctTo l j (m + 1)) := by show _ = _; rw [hst]; rfl
            clear hst hd
            go_wp2_with fail
            refine (hpw.out _).mono ?_
            rintro e w1 ⟨rfl, rfl⟩
            go_wp2_with fail
            refine htx.out.mono ?_
            rintro e w1 ⟨rfl, rfl⟩
            go_wp2_with fail
            refine htw.out.mono ?_
            rintro e w1 ⟨rfl, hB1⟩
            have hF := Lib.hid (hB.out.trans (hB1.mono hB.out.size))
            clear hB1
            go_wp2_with fail
            go_roundw
            case rel => exact ⟨m + 1, q + 1, by omega, by go_num, by go_num, hN, hF⟩
            case measure => simp [intOf]; omega
        · obtain rfl : m = p := by omega
          obtain rfl : q = R := hq.out.trans HE.out
          go_wp2_with fail
          refine (hpw.out _).mono ?_
          rintro e w1 ⟨rfl, rfl⟩
          go_wp2_with fail
          go_ret2
          exact ⟨rfl, hB.out⟩
    · have hno : ctOk L n = false := by unfold ctOk; rw [decide_eq_false hr]; simp
      rw [ctOf_no hno, hno]
      rw [decide_eq_false hr] at hin
      replace hin := Lib.hid hin
      clear hno hq
      go_enter Try.func10, Try.ntmps10
      go_wp2_with fail
      refine hk.out.mono ?_
      rintro e w1 ⟨rfl, rfl⟩
      go_wp2_with fail
      refine (hin.out _).mono ?_
      rintro e w1 ⟨rfl, rfl⟩
      go_wp2_with fail
      go_ret2
      exact ⟨rfl, Below.refl _ _⟩
end Go.Proofs.Ytdmbfmpagcjdpaa
