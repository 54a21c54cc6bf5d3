/-
  WHAT THIS FILE PROVES: the word whose letters are the digits of a number: the specification's function gives the plain one; asked: numbers that an int holds.
-/
import Derived.Test.YthkkneboblhmlaaKrS
import Derived.Test.YthkkneboblhmlaaKrT
namespace Go.Proofs.Ythkkneboblhmlaa
open Go.RowKit Go.Shelf

set_option maxHeartbeats 800000 in
theorem spec_krText (n l L : Nat) (w : World) (h2 : 2 ≤ L) (h3 : L ≤ 3) (hn : n ≤ 1000000) (hl : l ≤ 60) :
    Calls Try.prog 59 #[.int .i64 n, .int .i64 l, .int .i64 L] w fun e w' => e = .returned (.string (txtB L n l)) ∧ w = w' := by
  have Hst := Lib.hid (fun k => txtB_succ L n k h2 h3)
  have Hsz := Lib.hid (txtB_size L n)
  have hL1 : (0 : Int) < (L : Int) := by omega
  have hL0 : ((L : Int) == 0) = false := beq_eq_false_iff_ne.2 (by omega)
  go_enter Try.func59, Try.ntmps59
  go_wp2
  go_loop [0, 7, 8] (fun nv o kv => ∃ (k q : Nat) (ob : ByteArray), k ≤ l ∧ kv = .int .i64 (k : Int) ∧ nv = .int .i64 (q : Int) ∧ q ≤ 1000000 ∧ Hid (q = n / L ^ k) ∧ o = .string ob ∧ Hid (ob = txtB L n k)) (fun _ _ kv => l - (intOf kv).toNat)
  case atStart => exact ⟨0, n, _, Nat.zero_le _, rfl, rfl, hn, by show _ = _; rw [Nat.pow_zero, Nat.div_one], rfl, rfl⟩
  case round =>
    obtain ⟨k, q, ob, hk, rfl, rfl, hq6, hq, rfl, hob⟩ := hrel
    by_cases hlt : k < l
    · have hlt' : (k : Int) < (l : Int) := by omega
      have hm := Nat.mod_lt q (show L > 0 by omega)
      have hdv := Nat.div_le_self q L
      have hst := Hst.out k
      rw [← hq.out, ← hob.out] at hst
      have hobs := Hsz.out k
      rw [← hob.out] at hobs
      have hnx : Hid (q / L = n / L ^ (k + 1)) := by show _ = _; rw [hq.out, Nat.pow_succ, Nat.div_div_eq_div_mul]
      have e1 : ((q : Int) % (L : Int)) = ((q % L : Nat) : Int) := by omega
      have e2 : ((q : Int) / (L : Int)) = ((q / L : Nat) : Int) := by omega
      generalize q % L = d at hm hst e1
      generalize q / L = q' at hdv hnx e2
      have hd2 : (d : Int) + 1 ≤ 3 := by omega
      have hob1 : (ob.size : Int) ≤ 8388608 := by omega
      replace hst := Lib.hid hst
      clear hobs
      go_wp2
      go_round
      case rel => exact ⟨k + 1, q', _, by omega, by go_num, rfl, by omega, hnx, rfl, hst.out⟩
      case measure => simp [intOf]; omega
    · obtain rfl : k = l := by omega
      have e := hob.out
      subst e
      go_wp2
      go_ret
      exact ⟨rfl, rfl⟩
end Go.Proofs.Ythkkneboblhmlaa
