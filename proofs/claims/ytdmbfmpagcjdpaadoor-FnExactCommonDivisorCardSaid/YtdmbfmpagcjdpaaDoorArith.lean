/-
  WHAT THIS FILE PROVES: powers, greatest common divisors and fractions in lowest terms: the specification's and the program's functions give them; asked: numbers that an int holds.
-/
import Derived.Test.YtdmbfmpagcjdpaaDoorKr
import Derived.Test.YtdmbfmpagcjdpaaDoorMem
import Derived.Deep.RegionHeldLaw
import Derived.RegionTactic
import Derived.ChangeAlike
import Derived.BigRegion
namespace Go.Proofs.YtdmbfmpagcjdpaaDoor
open Go.RowKit

/-- a product that an int holds -/
theorem mul_wrap (p q : Nat) (h : p * q ≤ 4611686018427387904) : wrap64 ((p : Int) * (q : Int)) = ((p * q : Nat) : Int) := by
  have h2 : ((p * q : Nat) : Int) ≤ 4611686018427387904 := by omega
  have h3 : (0 : Int) ≤ ((p * q : Nat) : Int) := by omega
  have e : ((p : Int) * (q : Int)) = ((p * q : Nat) : Int) := (Int.natCast_mul p q).symm
  rw [e]
  exact IntWalk.wrap64_in ((p * q : Nat) : Int) (by omega)
theorem pow_wrap (x j q : Nat) (hq : q = x ^ j) (h : x ^ (j + 1) ≤ 4611686018427387904) : wrap64 ((q : Int) * (x : Int)) = ((x ^ (j + 1) : Nat) : Int) := by
  subst hq
  rw [Nat.pow_succ] at h ⊢
  exact mul_wrap _ _ h

/-- powers of two and three -/
theorem pow_small (L k : Nat) (h3 : L ≤ 3) (hk : k ≤ 8) : ∀ j, j ≤ k → L ^ j ≤ 4611686018427387904 := fun j hj => by
  have h1 : L ^ j ≤ 3 ^ j := Nat.pow_le_pow_left h3 j
  have h2 : (3 : Nat) ^ j ≤ 3 ^ 8 := Nat.pow_le_pow_right (by omega) (by omega)
  have h4 : (3 : Nat) ^ 8 = 6561 := by decide
  omega
set_option maxHeartbeats 800000 in
theorem spec_krGcd (a b : Nat) (w : World) (ha : a ≤ 4611686018427387904) (hb : b ≤ 4611686018427387904) :
    Calls Tryd.prog 20 #[.int .i64 a, .int .i64 b] w fun e w' => e = .returned (.int .i64 ((Nat.gcd a b : Nat) : Int)) ∧ w = w' := by
  go_enter Tryd.func20, Tryd.ntmps20
  go_wp2
  go_loop [0, 1] (fun av bv => ∃ x y : Nat, x ≤ 4611686018427387904 ∧ y ≤ 4611686018427387904 ∧ av = .int .i64 x ∧ bv = .int .i64 y ∧ Hid (Nat.gcd x y = Nat.gcd a b)) (fun _ bv => (intOf bv).toNat)
  case atStart => exact ⟨a, b, ha, hb, rfl, rfl, rfl⟩
  case round =>
    obtain ⟨x, y, hx, hy, rfl, rfl, hg⟩ := hrel
    have hs := Lib.hid (W.gcd_step x y)
    by_cases h0 : y = 0
    · subst h0
      have hx2 := hg.out
      rw [Nat.gcd_zero_right] at hx2
      subst hx2
      go_wp2
      go_ret
      exact ⟨rfl, rfl⟩
    · have hne : ((y : Int) != 0) = true := by simp; omega
      have hne2 : ((y : Int) == 0) = false := beq_eq_false_iff_ne.2 (by omega)
      have hlt := Nat.mod_lt x (show y > 0 by omega)
      clear h0
      have hmod : ((x : Int) % (y : Int)) = ((x % y : Nat) : Int) := by omega
      go_wp2
      go_round
      case rel => exact ⟨y, x % y, hy, by omega, rfl, by go_num, hs.out.trans hg.out⟩
      case measure => simp [intOf]; omega
set_option maxHeartbeats 800000 in
theorem impl_divisorOf (a b : Nat) (w : World) (ha : a ≤ 4611686018427387904) (hb : b ≤ 4611686018427387904) :
    Calls Tryd.prog 22 #[.int .i64 a, .int .i64 b] w fun e w' => e = .returned (.int .i64 ((Nat.gcd a b : Nat) : Int)) ∧ ∃ n, w' = w.drewN n := by
  go_enter Tryd.func22, Tryd.ntmps22
  go_wp2
  go_loopw [0, 1] (fun av bv wr => ∃ x y : Nat, x ≤ 4611686018427387904 ∧ y ≤ 4611686018427387904 ∧ av = .int .i64 x ∧ bv = .int .i64 y ∧ Hid (Nat.gcd x y = Nat.gcd a b) ∧ ∃ n, wr = w.drewN n) (fun _ bv _ => (intOf bv).toNat)
  case atStart => exact ⟨a, b, ha, hb, rfl, rfl, rfl, 0, rfl⟩
  case round =>
    obtain ⟨x, y, hx, hy, rfl, rfl, hg, n, rfl⟩ := hrel
    have hs := Lib.hid (W.gcd_step x y)
    by_cases h0 : y = 0
    · subst h0
      have hx2 := hg.out
      rw [Nat.gcd_zero_right] at hx2
      subst hx2
      go_wp2
      go_ret
      exact ⟨rfl, n, rfl⟩
    · have hpos : (0 : Int) < (y : Int) := by omega
      have hne2 : ((y : Int) == 0) = false := beq_eq_false_iff_ne.2 (by omega)
      have hlt := Nat.mod_lt x (show y > 0 by omega)
      clear h0
      have hmod : ((x : Int) % (y : Int)) = ((x % y : Nat) : Int) := by omega
      go_wp2
      go_quiet (fail)
      go_wp2
      go_roundw
      case rel => exact ⟨y, x % y, hy, by omega, rfl, by go_num, hs.out.trans hg.out, n + nq, by first | rfl | (rw [World.drewN_drewN])⟩
      case measure => simp [intOf]; omega
end Go.Proofs.YtdmbfmpagcjdpaaDoor
