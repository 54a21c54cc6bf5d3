/-
  WHAT THIS FILE PROVES: powers, greatest common divisors and fractions in lowest terms: the specification's and the program's functions give them; asked: numbers that an int holds.
-/
import Derived.Test.YthhiegcdocjfkaaDoorBe
import Derived.Test.YthhiegcdocjfkaaDoorMem
import Derived.Deep.RegionHeldLaw
import Derived.RegionTactic
import Derived.ChangeAlike
import Derived.BigRegion
namespace Go.Proofs.YthhiegcdocjfkaaDoor
open Go.RowKit

/-- a product that an int holds -/
theorem mul_wrap (p q : Nat) (h : p * q ≤ 4611686018427387904) : wrap64 ((p : Int) * (q : Int)) = ((p * q : Nat) : Int) := by
  have h2 : ((p * q : Nat) : Int) ≤ 4611686018427387904 := by omega
  have h3 : (0 : Int) ≤ ((p * q : Nat) : Int) := by omega
  have e : ((p : Int) * (q : Int)) = ((p * q : Nat) : Int) := (Int.natCast_mul p q).symm
  rw [e]
  exact IntWalk.wrap64_in ((p * q : Nat) : Int) (by omega)
theorem pow_wrap (x j q : Nat) (hq : q = x ^ j) (h : x ^ (j + 1) ≤ 4611686018427387904) : wrap64 ((q : Int) * (x : Int)) = ((x ^ (j + 1) : Nat) : Int) := by
  subst hq
  rw [Nat.pow_succ] at h ⊢
  exact mul_wrap _ _ h

set_option maxHeartbeats 800000 in
theorem spec_krPower (x k : Nat) (w : World) (hb : ∀ j, j ≤ k → x ^ j ≤ 4611686018427387904) (hk : k ≤ 1000) :
    Calls Tryd.prog 43 #[.int .i64 x, .int .i64 k] w fun e w' => e = .returned (.int .i64 ((x ^ k : Nat) : Int)) ∧ w = w' := by
  replace hb := Lib.hid hb
  obtain ⟨r, hr⟩ : ∃ r, r = x ^ k := ⟨_, rfl⟩
  rw [← hr]
  replace hr := Lib.hid hr
  go_enter Tryd.func43, Tryd.ntmps43
  go_wp2
  go_loop [1, 5] (fun kv p => ∃ j : Nat, j ≤ k ∧ kv = .int .i64 ((k - j : Nat) : Int) ∧ ∃ q : Nat, p = .int .i64 q ∧ Hid (q = x ^ j)) (fun kv _ => (intOf kv).toNat)
  case atStart => exact ⟨0, Nat.zero_le _, rfl, 1, rfl, rfl⟩
  case round =>
    obtain ⟨j, hj, rfl, q, rfl, hq⟩ := hrel
    by_cases hlt : j < k
    · have h1 : (0 : Int) < ((k - j : Nat) : Int) := by omega
      have hm := Lib.hid (pow_wrap x j q hq.out (hb.out (j + 1) hlt))
      have he : ((k - j : Nat) : Int) - 1 = ((k - (j + 1) : Nat) : Int) := by omega
      replace he := Lib.hid he
      go_wp2
      go_round
      case rel => exact ⟨j + 1, by omega, by rw [he.out], x ^ (j + 1), by rw [hm.out], rfl⟩
      case measure => simp [intOf]; omega
    · obtain rfl : j = k := by omega
      obtain rfl := hq.out.trans hr.out.symm
      have h1 : ¬ (0 : Int) < ((j - j : Nat) : Int) := by omega
      go_wp2
      go_ret
      exact ⟨rfl, rfl⟩
set_option maxHeartbeats 800000 in
theorem impl_power (x k : Nat) (w : World) (hb : ∀ j, j ≤ k → x ^ j ≤ 4611686018427387904) (hk : k ≤ 1000) :
    Calls Tryd.prog 54 #[.int .i64 x, .int .i64 k] w fun e w' => e = .returned (.int .i64 ((x ^ k : Nat) : Int)) ∧ w = w' := by
  replace hb := Lib.hid hb
  obtain ⟨r, hr⟩ : ∃ r, r = x ^ k := ⟨_, rfl⟩
  rw [← hr]
  replace hr := Lib.hid hr
  go_enter Tryd.func54, Tryd.ntmps54
  go_wp2
  go_loop [5, 7] (fun p jv => ∃ j : Nat, j ≤ k ∧ jv = .int .i64 (j : Int) ∧ ∃ q : Nat, p = .int .i64 q ∧ Hid (q = x ^ j)) (fun _ jv => k - (intOf jv).toNat)
  case atStart => exact ⟨0, Nat.zero_le _, rfl, 1, rfl, rfl⟩
  case round =>
    obtain ⟨j, hj, rfl, q, rfl, hq⟩ := hrel
    by_cases hlt : j < k
    · have h1 : (j : Int) < (k : Int) := by omega
      have hm := Lib.hid (pow_wrap x j q hq.out (hb.out (j + 1) hlt))
      go_wp2
      go_round
      case rel => exact ⟨j + 1, by omega, by go_num, x ^ (j + 1), by rw [hm.out], rfl⟩
      case measure => simp [intOf]; omega
    · obtain rfl : j = k := by omega
      obtain rfl := hq.out.trans hr.out.symm
      go_wp2
      go_ret
      exact ⟨rfl, rfl⟩
/-- powers of two and three -/
theorem pow_small (L k : Nat) (h3 : L ≤ 3) (hk : k ≤ 11) : ∀ j, j ≤ k → L ^ j ≤ 4611686018427387904 := fun j hj => by
  have h1 : L ^ j ≤ 3 ^ j := Nat.pow_le_pow_left h3 j
  have h2 : (3 : Nat) ^ j ≤ 3 ^ 11 := Nat.pow_le_pow_right (by omega) (by omega)
  have h4 : (3 : Nat) ^ 11 = 177147 := by decide
  omega
set_option maxHeartbeats 800000 in
theorem spec_krGcd (a b : Nat) (w : World) (ha : a ≤ 4611686018427387904) (hb : b ≤ 4611686018427387904) :
    Calls Tryd.prog 58 #[.int .i64 a, .int .i64 b] w fun e w' => e = .returned (.int .i64 ((Nat.gcd a b : Nat) : Int)) ∧ w = w' := by
  go_enter Tryd.func58, Tryd.ntmps58
  go_wp2
  go_loop [0, 1] (fun av bv => ∃ x y : Nat, x ≤ 4611686018427387904 ∧ y ≤ 4611686018427387904 ∧ av = .int .i64 x ∧ bv = .int .i64 y ∧ Hid (Nat.gcd x y = Nat.gcd a b)) (fun _ bv => (intOf bv).toNat)
  case atStart => exact ⟨a, b, ha, hb, rfl, rfl, rfl⟩
  case round =>
    obtain ⟨x, y, hx, hy, rfl, rfl, hg⟩ := hrel
    have hs := Lib.hid (W.gcd_step x y)
    by_cases h0 : y = 0
    · subst h0
      have hx2 := hg.out
      rw [Nat.gcd_zero_right] at hx2
      subst hx2
      go_wp2
      go_ret
      exact ⟨rfl, rfl⟩
    · have hne : ((y : Int) != 0) = true := by simp; omega
      have hne2 : ((y : Int) == 0) = false := beq_eq_false_iff_ne.2 (by omega)
      have hlt := Nat.mod_lt x (show y > 0 by omega)
      clear h0
      have hmod : ((x : Int) % (y : Int)) = ((x % y : Nat) : Int) := by omega
      go_wp2
      go_round
      case rel => exact ⟨y, x % y, hy, by omega, rfl, by go_num, hs.out.trans hg.out⟩
      case measure => simp [intOf]; omega
set_option maxHeartbeats 800000 in
theorem impl_divisorOf (a b : Nat) (w : World) (ha : a ≤ 4611686018427387904) (hb : b ≤ 4611686018427387904) :
    Calls Tryd.prog 63 #[.int .i64 a, .int .i64 b] w fun e w' => e = .returned (.int .i64 ((Nat.gcd a b : Nat) : Int)) ∧ ∃ n, w' = w.drewN n := by
  go_enter Tryd.func63, Tryd.ntmps63
  go_wp2
  go_loopw [0, 1] (fun av bv wr => ∃ x y : Nat, x ≤ 4611686018427387904 ∧ y ≤ 4611686018427387904 ∧ av = .int .i64 x ∧ bv = .int .i64 y ∧ Hid (Nat.gcd x y = Nat.gcd a b) ∧ ∃ n, wr = w.drewN n) (fun _ bv _ => (intOf bv).toNat)
  case atStart => exact ⟨a, b, ha, hb, rfl, rfl, rfl, 0, rfl⟩
  case round =>
    obtain ⟨x, y, hx, hy, rfl, rfl, hg, n, rfl⟩ := hrel
    have hs := Lib.hid (W.gcd_step x y)
    by_cases h0 : y = 0
    · subst h0
      have hx2 := hg.out
      rw [Nat.gcd_zero_right] at hx2
      subst hx2
      go_wp2
      go_ret
      exact ⟨rfl, n, rfl⟩
    · have hpos : (0 : Int) < (y : Int) := by omega
      have hne2 : ((y : Int) == 0) = false := beq_eq_false_iff_ne.2 (by omega)
      have hlt := Nat.mod_lt x (show y > 0 by omega)
      clear h0
      have hmod : ((x : Int) % (y : Int)) = ((x % y : Nat) : Int) := by omega
      go_wp2
      go_quiet (fail)
      go_wp2
      go_roundw
      case rel => exact ⟨y, x % y, hy, by omega, rfl, by go_num, hs.out.trans hg.out, n + nq, by first | rfl | (rw [World.drewN_drewN])⟩
      case measure => simp [intOf]; omega
theorem div_wrap (a g : Nat) (h : a ≤ 4611686018427387904) : wrap64 ((a : Int) / (g : Int)) = ((a / g : Nat) : Int) := by
  have h1 := Nat.div_le_self a g
  rw [← Int.natCast_ediv]
  generalize a / g = q at h1 ⊢
  exact IntWalk.wrap64_in _ (by omega)
/-- a fraction as it lies in a struct -/
abbrev ratV (p q : Int) : Value := .agg #[.int .i64 p, .int .i64 q]
/-- two cells that the call has made for its result, after more has been made -/
theorem res_cells {w w2 : World} {a b : Value} {t : TypeId} (hB : Below (w.alloc (.cells #[a, b] t)).heap.size (w.alloc (.cells #[a, b] t)) w2) :
    w2.cell? ⟨w.heap.size, 0, none⟩ = some a ∧ w2.cell? ⟨w.heap.size, 1, none⟩ = some b ∧ w2.frozen? ⟨w.heap.size, 0, none⟩ = (w.alloc (.cells #[a, b] t)).frozen? ⟨w.heap.size, 0, none⟩ ∧ w2.frozen? ⟨w.heap.size, 1, none⟩ = (w.alloc (.cells #[a, b] t)).frozen? ⟨w.heap.size, 1, none⟩ := by
  have hlt : w.heap.size < (w.alloc (.cells #[a, b] t)).heap.size := by simp
  refine ⟨(hB.cell (p := ⟨w.heap.size, 0, none⟩) hlt).trans ?_, (hB.cell (p := ⟨w.heap.size, 1, none⟩) hlt).trans ?_, hB.frozen (p := ⟨w.heap.size, 0, none⟩) hlt, hB.frozen (p := ⟨w.heap.size, 1, none⟩) hlt⟩
  · rw [World.cell?_alloc_at _ _ _ _ rfl]; rfl
  · rw [World.cell?_alloc_at _ _ _ _ rfl]; rfl
set_option maxHeartbeats 800000 in
theorem spec_krRatio (a b : Nat) (w : World) (ha : a ≤ 4611686018427387904) (hb : b ≤ 4611686018427387904) (h0 : 0 < b) :
    Calls Tryd.prog 45 #[.int .i64 a, .int .i64 b] w fun e w' => e = .returned (ratV ((W.low a b).1 : Nat) ((W.low a b).2 : Nat)) ∧ Below w.heap.size w w' := by
  have hc := fun w => spec_krGcd a b w ha hb
  have hgp := Nat.gcd_pos_of_pos_right a h0
  have hga := Nat.gcd_le_right a h0
  unfold W.low
  generalize Nat.gcd a b = g at hc hgp hga ⊢
  replace hc := Lib.hid hc
  go_enter Tryd.func45, Tryd.ntmps45
  go_wp2_with (go_at_call 58; refine (hc.out _).mono ?_; rintro e w' ⟨rfl, rfl⟩)
  have hg1 : (0 : Int) < (g : Int) := by omega
  have hg0 : ((g : Int) == 0) = false := beq_eq_false_iff_ne.2 (by omega)
  go_region
  go_wp2
  rw [div_wrap a g ha, div_wrap b g hb]
  exact bodyPost_ret (v := ratV (a / g : Nat) (b / g : Nat)) (by simp [results, Tryd.results45, go_sem, ratV]) rfl ⟨rfl, ((Below.refl _ _).alloc (Nat.le_refl _) _).drew⟩
set_option maxHeartbeats 800000 in
theorem impl_ratioOf (a b : Nat) (w : World) (ha : a ≤ 4611686018427387904) (hb : b ≤ 4611686018427387904) (h0 : 0 < b) :
    Calls Tryd.prog 51 #[.int .i64 a, .int .i64 b] w fun e w' => e = .returned (ratV ((W.low a b).1 : Nat) ((W.low a b).2 : Nat)) ∧ Below w.heap.size w w' := by
  have hc := fun w => impl_divisorOf a b w ha hb
  have hgp := Nat.gcd_pos_of_pos_right a h0
  have hga := Nat.gcd_le_right a h0
  unfold W.low
  generalize Nat.gcd a b = g at hc hgp hga ⊢
  replace hc := Lib.hid hc
  have hg1 : (0 : Int) < (g : Int) := by omega
  have hg0 : ((g : Int) == 0) = false := beq_eq_false_iff_ne.2 (by omega)
  go_enter Tryd.func51, Tryd.ntmps51
  go_wp2_with (go_at_call 63; refine (hc.out _).mono ?_; rintro e w' ⟨rfl, n, rfl⟩)
  go_region
  go_wp2
  rw [div_wrap a g ha, div_wrap b g hb]
  exact bodyPost_ret (v := ratV (a / g : Nat) (b / g : Nat)) (by simp [results, Tryd.results51, go_sem, ratV]) rfl ⟨rfl, (((below_drewN ((Below.refl _ _).alloc (Nat.le_refl _) _) _).setCell (Nat.le_refl _) _).setCell (Nat.le_refl _) _)⟩
end Go.Proofs.YthhiegcdocjfkaaDoor
