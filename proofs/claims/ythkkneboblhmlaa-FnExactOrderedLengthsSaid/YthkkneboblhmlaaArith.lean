/-
  WHAT THIS FILE PROVES: powers, greatest common divisors and fractions in lowest terms: the specification's and the program's functions give them; asked: numbers that an int holds.
-/
import Derived.Test.YthkkneboblhmlaaBe
import Derived.Test.YthkkneboblhmlaaMem
import Derived.Deep.RegionHeldLaw
import Derived.RegionTactic
import Derived.ChangeAlike
import Derived.BigRegion
namespace Go.Proofs.Ythkkneboblhmlaa
open Go.RowKit

/-- a product that an int holds -/
theorem mul_wrap (p q : Nat) (h : p * q ≤ 4611686018427387904) : wrap64 ((p : Int) * (q : Int)) = ((p * q : Nat) : Int) := by
  have h2 : ((p * q : Nat) : Int) ≤ 4611686018427387904 := by omega
  have h3 : (0 : Int) ≤ ((p * q : Nat) : Int) := by omega
  have e : ((p : Int) * (q : Int)) = ((p * q : Nat) : Int) := (Int.natCast_mul p q).symm
  rw [e]
  exact IntWalk.wrap64_in ((p * q : Nat) : Int) (by omega)
theorem pow_wrap (x j q : Nat) (hq : q = x ^ j) (h : x ^ (j + 1) ≤ 4611686018427387904) : wrap64 ((q : Int) * (x : Int)) = ((x ^ (j + 1) : Nat) : Int) := by
  subst hq
  rw [Nat.pow_succ] at h ⊢
  exact mul_wrap _ _ h

set_option maxHeartbeats 800000 in
theorem spec_krPower (x k : Nat) (w : World) (hb : ∀ j, j ≤ k → x ^ j ≤ 4611686018427387904) (hk : k ≤ 1000) :
    Calls Try.prog 42 #[.int .i64 x, .int .i64 k] w fun e w' => e = .returned (.int .i64 ((x ^ k : Nat) : Int)) ∧ w = w' := by
  replace hb := Lib.hid hb
  obtain ⟨r, hr⟩ : ∃ r, r = x ^ k := ⟨_, rfl⟩
  rw [← hr]
  replace hr := Lib.hid hr
  go_enter Try.func42, Try.ntmps42
  go_wp2
  go_loop [1, 5] (fun kv p => ∃ j : Nat, j ≤ k ∧ kv = .int .i64 ((k - j : Nat) : Int) ∧ ∃ q : Nat, p = .int .i64 q ∧ Hid (q = x ^ j)) (fun kv _ => (intOf kv).toNat)
  case atStart => exact ⟨0, Nat.zero_le _, rfl, 1, rfl, rfl⟩
  case round =>
    obtain ⟨j, hj, rfl, q, rfl, hq⟩ := hrel
    by_cases hlt : j < k
    · have h1 : (0 : Int) < ((k - j : Nat) : Int) := by omega
      have hm := Lib.hid (pow_wrap x j q hq.out (hb.out (j + 1) hlt))
      have he : ((k - j : Nat) : Int) - 1 = ((k - (j + 1) : Nat) : Int) := by omega
      replace he := Lib.hid he
      go_wp2
      go_round
      case rel => exact ⟨j + 1, by omega, by rw [he.out], x ^ (j + 1), by rw [hm.out], rfl⟩
      case measure => simp [intOf]; omega
    · obtain rfl : j = k := by omega
      obtain rfl := hq.out.trans hr.out.symm
      have h1 : ¬ (0 : Int) < ((j - j : Nat) : Int) := by omega
      go_wp2
      go_ret
      exact ⟨rfl, rfl⟩
set_option maxHeartbeats 800000 in
theorem impl_power (x k : Nat) (w : World) (hb : ∀ j, j ≤ k → x ^ j ≤ 4611686018427387904) (hk : k ≤ 1000) :
    Calls Try.prog 62 #[.int .i64 x, .int .i64 k] w fun e w' => e = .returned (.int .i64 ((x ^ k : Nat) : Int)) ∧ w = w' := by
  replace hb := Lib.hid hb
  obtain ⟨r, hr⟩ : ∃ r, r = x ^ k := ⟨_, rfl⟩
  rw [← hr]
  replace hr := Lib.hid hr
  go_enter Try.func62, Try.ntmps62
  go_wp2
  go_loop [5, 7] (fun p jv => ∃ j : Nat, j ≤ k ∧ jv = .int .i64 (j : Int) ∧ ∃ q : Nat, p = .int .i64 q ∧ Hid (q = x ^ j)) (fun _ jv => k - (intOf jv).toNat)
  case atStart => exact ⟨0, Nat.zero_le _, rfl, 1, rfl, rfl⟩
  case round =>
    obtain ⟨j, hj, rfl, q, rfl, hq⟩ := hrel
    by_cases hlt : j < k
    · have h1 : (j : Int) < (k : Int) := by omega
      have hm := Lib.hid (pow_wrap x j q hq.out (hb.out (j + 1) hlt))
      go_wp2
      go_round
      case rel => exact ⟨j + 1, by omega, by go_num, x ^ (j + 1), by rw [hm.out], rfl⟩
      case measure => simp [intOf]; omega
    · obtain rfl : j = k := by omega
      obtain rfl := hq.out.trans hr.out.symm
      go_wp2
      go_ret
      exact ⟨rfl, rfl⟩
/-- powers of two and three -/
theorem pow_small (L k : Nat) (h3 : L ≤ 3) (hk : k ≤ 11) : ∀ j, j ≤ k → L ^ j ≤ 4611686018427387904 := fun j hj => by
  have h1 : L ^ j ≤ 3 ^ j := Nat.pow_le_pow_left h3 j
  have h2 : (3 : Nat) ^ j ≤ 3 ^ 11 := Nat.pow_le_pow_right (by omega) (by omega)
  have h4 : (3 : Nat) ^ 11 = 177147 := by decide
  omega
theorem impl_partsOf (L : Nat) (l : Int) (w : World) (h3 : L ≤ 3) (h1 : 1 ≤ l) (h8 : l ≤ 11) :
    Calls Try.prog 53 #[.int .i64 l, .int .i64 L] w fun e w' => e = .returned (.int .i64 ((W.partD L l : Nat) : Int)) ∧ w = w' := by
  have hc := fun w => impl_power L (11 - l.toNat) w (pow_small L _ h3 (by omega)) (by omega)
  rw [show ((11 - l.toNat : Nat) : Int) = 11 - l by omega] at hc
  unfold W.partD
  generalize L ^ (11 - l.toNat) = q at hc ⊢
  replace hc := Lib.hid hc
  go_enter Try.func53, Try.ntmps53
  go_wp2_with (go_at_call 62; refine (hc.out _).mono ?_; rintro e w' ⟨rfl, rfl⟩)
  go_ret
  exact ⟨rfl, rfl⟩
theorem impl_wholeOf (L : Nat) (w : World) (h3 : L ≤ 3) :
    Calls Try.prog 55 #[.int .i64 L] w fun e w' => e = .returned (.int .i64 ((L ^ 11 : Nat) : Int)) ∧ w = w' := by
  have hc := fun w => impl_power L 11 w (pow_small L _ h3 (by omega)) (by omega)
  generalize L ^ 11 = q at hc ⊢
  replace hc := Lib.hid hc
  go_enter Try.func55, Try.ntmps55
  go_wp2_with (go_at_call 62; refine (hc.out _).mono ?_; rintro e w' ⟨rfl, rfl⟩)
  go_ret
  exact ⟨rfl, rfl⟩
end Go.Proofs.Ythkkneboblhmlaa
