/-
  WHAT THIS FILE PROVES: Kraft's sum of given lengths up to eleven, and whether it is at most 1: the program's functions give the plain values; asked: slices in memory, lengths that an int holds.
-/
import Derived.Test.YtjopbmhldpcpdaaGreatDoorBe
import Derived.Test.YtjopbmhldpcpdaaGreatDoorIn
import Derived.Test.YtjopbmhldpcpdaaGreatDoorArith
import Derived.Test.YtjopbmhldpcpdaaGreatDoorKrI
namespace Go.Proofs.YtjopbmhldpcpdaaGreatDoor
open Go.RowKit Go.Shelf

theorem method_givenD (v : Value) (w : World) : (method 233 64 v "loop.example/g01164/impl.lengths").run Tryz.prog w = .ok (118, v) w := by kernel_rfl
theorem given_lengthsD (v : Value) (w : World) : Calls Tryz.prog 118 #[v] w fun e w' => e = .returned v ∧ w = w' := by
  go_enter Tryz.func118, Tryz.ntmps118
  go_wp2
  go_ret
  exact ⟨rfl, rfl⟩
set_option maxRecDepth 100000 in
set_option maxHeartbeats 1600000 in
theorem parts_givenD (A : Option Addr) (z : List Int) (c L : Nat) (w : World) (h : Row w w.heap.size A (ints z)) (h12 : z.length ≤ 12) (hz : z.all (fun x => decide (1 ≤ x ∧ x ≤ 11)) = true) (h2 : 2 ≤ L) (h3 : L ≤ 3) :
    Calls Tryz.prog 34 #[.iface 64 (.slice A z.length c), .int .i64 L] w fun e w' => e = .returned (.int .i64 ((W.sharesD L z : Nat) : Int)) ∧ w = w' := by
  obtain ⟨r, hr⟩ : ∃ r, r = W.sharesD L z := ⟨_, rfl⟩
  rw [← hr]
  have Hst := Lib.hid (fun k (hk : k < z.length) => W.sharesD_succ L z k hk)
  have Hle := Lib.hid (fun k => Nat.le_trans (W.sharesD_take_le L z k) (W.sharesD_le L h2 h3 z hz))
  have Hz := Lib.hid (fun k (hk : k < z.length) => W.all_at hz k hk)
  have Hpl := Lib.hid (fun k (hk : k < z.length) => W.partD_le L h2 h3 z[k] (W.all_at hz k hk).1)
  have Hall := Lib.hid (show W.sharesD L (z.take z.length) = r by rw [hr, List.take_length])
  have Hpw := Lib.hid (fun (l : Int) (h1 : 1 ≤ l) (h8 : l ≤ 11) => impl_partsOf L l w h3 h1 h8)
  have hmt := method_givenD (.slice A z.length c)
  have hgl := Lib.hid (given_lengthsD (.slice A z.length c) w)
  replace h := Lib.hid h
  clear hz hr
  go_enter Tryz.func34, Tryz.ntmps34
  go_wp2_with (go_at_call 118; refine hgl.out.mono ?_; rintro e w' ⟨rfl, rfl⟩)
  go_loop [5, 11] (fun s i => ∃ k q : Nat, k ≤ z.length ∧ i = .int .i64 k ∧ s = .int .i64 q ∧ Hid (q = W.sharesD L (z.take k))) (fun _ i => z.length - (intOf i).toNat)
  case atStart => exact ⟨0, 0, Nat.zero_le _, rfl, rfl, rfl⟩
  case round =>
    obtain ⟨k, q, hk, rfl, rfl, hq⟩ := hrel
    have hq4 := Hle.out k
    rw [← hq.out] at hq4
    by_cases hlt : k < z.length
    · obtain ⟨b, off, rfl, hb, hcc⟩ := Row.int_at h.out (by omega)
      have hlt' : (k : Int) < (z.length : Int) := by omega
      have c1 := hcc k hlt
      clear hcc
      have hl := Hz.out k hlt
      have hs := Hst.out k hlt
      have hp := Hpl.out k hlt
      have hpw := Hpw.out _ hl.1 hl.2
      generalize z[k] = l at c1 hl hs hp hpw
      rw [← hq.out] at hs
      generalize W.partD L l = p at hs hp hpw
      replace hs := Lib.hid hs
      replace hpw := Lib.hid hpw
      go_wp2_with (go_at_call 47; refine hpw.out.mono ?_; rintro e w' ⟨rfl, rfl⟩)
      go_round
      case rel => exact ⟨k + 1, q + p, by omega, by go_num, by go_num, hs.out.symm⟩
      case measure => simp [intOf]; omega
    · obtain rfl : k = z.length := by omega
      obtain rfl := hq.out.trans Hall.out
      go_wp2
      go_ret
      exact ⟨rfl, rfl⟩
end Go.Proofs.YtjopbmhldpcpdaaGreatDoor
