/-
  WHAT THIS FILE PROVES: sums of numbers: the program's function gives the plain one; asked: a slice in memory.
-/
import Derived.Test.YthkkneboblhmlaaMr
import Derived.Test.YthkkneboblhmlaaIn
import Derived.OwnWalk
namespace Go.Proofs.Ythkkneboblhmlaa
open Go.RowKit

set_option maxHeartbeats 800000 in
theorem impl_totalOfB (B : Int) (hB0 : 0 ≤ B) (hB : B ≤ 1000000000000) (n : Nat) (A : Option Addr) (z : List Int) (c : Nat) (w : World) (hn : z.length = n) (h : Row w w.heap.size A (ints z)) (hl : n ≤ 1000) (hb : ∀ x ∈ z, 0 ≤ x ∧ x ≤ B) :
    Calls Try.prog 38 #[.slice A n c] w fun e w' => e = .returned (.int .i64 z.sum) ∧ w = w' := by
  subst hn
  obtain ⟨r, hr⟩ : ∃ r, r = z.sum := ⟨_, rfl⟩
  rw [← hr]
  have Hall := Lib.hid (show (z.take z.length).sum = r by rw [hr, List.take_length])
  have Hst := Lib.hid (fun k (hk : k < z.length) => W.sum_take_succ z k hk)
  have Hle := Lib.hid (show ∀ k, k ≤ z.length → 0 ≤ (z.take k).sum ∧ (z.take k).sum ≤ 1000000000000000 from fun k hk => by
    have h1 := W.sum_take_le hB0 hb k hk
    have h2 : (k : Int) * B ≤ 1000 * 1000000000000 := Int.mul_le_mul (by omega) hB hB0 (by omega)
    omega)
  have Hx := Lib.hid (show ∀ k (hk : k < z.length), 0 ≤ z[k] ∧ z[k] ≤ 1000000000000 from fun k hk => by have := hb z[k] (List.getElem_mem hk); omega)
  have H0 := Lib.hid (show (z.take 0).sum = 0 from rfl)
  replace h := Lib.hid h
  clear hb hr hB0 hB
  go_enter Try.func38, Try.ntmps38
  go_wp2
  go_loop [3, 8] (fun s i => ∃ (k : Nat) (q : Int), k ≤ z.length ∧ i = .int .i64 k ∧ s = .int .i64 q ∧ Hid (q = (z.take k).sum)) (fun _ i => z.length - (intOf i).toNat)
  case atStart => exact ⟨0, 0, Nat.zero_le _, rfl, rfl, H0.out.symm⟩
  case round =>
    obtain ⟨k, q, hk, rfl, rfl, hq⟩ := hrel
    by_cases hlt : k < z.length
    · obtain ⟨b, off, rfl, hb, hcc⟩ := Row.int_at h.out (by omega)
      have hlt' : (k : Int) < (z.length : Int) := by omega
      have c1 := hcc k hlt
      clear hcc
      have hs := Hst.out k hlt
      have hq4 := Hle.out k hk
      have hx := Hx.out k hlt
      rw [← hq.out] at hs hq4
      generalize z[k] = x at c1 hs hx
      replace hs := Lib.hid hs
      go_wp2
      go_round
      case rel => exact ⟨k + 1, q + x, by omega, by go_num, by go_num, hs.out.symm⟩
      case measure => simp [intOf]; omega
    · obtain rfl : k = z.length := by omega
      obtain rfl := hq.out.trans Hall.out
      go_wp2
      go_ret
      exact ⟨rfl, rfl⟩
theorem impl_totalOf (n : Nat) (A : Option Addr) (z : List Int) (c : Nat) (w : World) (hn : z.length = n) (h : Row w w.heap.size A (ints z)) (hl : n ≤ 1000) (hb : ∀ x ∈ z, 0 ≤ x ∧ x ≤ 100000) :
    Calls Try.prog 38 #[.slice A n c] w fun e w' => e = .returned (.int .i64 z.sum) ∧ w = w' :=
  impl_totalOfB 100000 (by decide) (by decide) n A z c w hn h hl hb
end Go.Proofs.Ythkkneboblhmlaa
