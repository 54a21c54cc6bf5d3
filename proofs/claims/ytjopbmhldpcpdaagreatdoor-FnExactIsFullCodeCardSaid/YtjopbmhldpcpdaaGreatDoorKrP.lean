/-
  WHAT THIS FILE PROVES: Kraft's sums of lengths and of words, in whole parts: the program's function gives what the plain one says; asked: slices in memory, lengths that an int holds.
-/
import Derived.Test.YtjopbmhldpcpdaaGreatDoorKrV
import Derived.Test.YtjopbmhldpcpdaaGreatDoorFitD
import Derived.Test.YtjopbmhldpcpdaaGreatDoorLens
namespace Go.Proofs.YtjopbmhldpcpdaaGreatDoor
open Go.RowKit Go.Shelf

theorem method_words (v : Value) (w : World) : (method 233 47 v "loop.example/g01164/impl.lengths").run Tryz.prog w = .ok (115, v) w := by kernel_rfl
theorem words_lengths (A : Option Addr) (ss : List ByteArray) (c : Nat) (w : World) (h : Row w w.heap.size A (strs ss)) (hl : ss.length ≤ 1048576) (hs : ∀ s ∈ ss, s.size ≤ 9223372036854775807) :
    Calls Tryz.prog 115 #[.slice A ss.length c] w (GivesInts w (W.lens ss)) := by
  have hc := Lib.hid (listOf_length A ss c w h hl hs)
  clear h hs
  go_enter Tryz.func115, Tryz.ntmps115
  go_wp2_with fail
  refine hc.out.mono ?_
  rintro e w1 ⟨A', c', rfl, ho, hB⟩
  go_wp2
  go_ret
  exact ⟨A', c', rfl, ho, hB⟩
theorem parts_given (A : Option Addr) (z : List Int) (c L : Nat) (w : World) (h : Row w w.heap.size A (ints z)) (h12 : z.length ≤ 12) (hz : W.lenAll z = true) (h2 : 2 ≤ L) (h3 : L ≤ 3) :
    Calls Tryz.prog 34 #[.iface 64 (.slice A z.length c), .int .i64 L] w fun e w' => e = .returned (.int .i64 ((W.sharesD L z : Nat) : Int)) ∧ w = w' := parts_givenD A z c L w h h12 (W.lenAll_deep hz) h2 h3
set_option maxRecDepth 100000 in
set_option maxHeartbeats 1600000 in
theorem parts_words (A : Option Addr) (ss : List ByteArray) (c L : Nat) (w : World) (hrow : Row w w.heap.size A (strs ss)) (hl : ss.length ≤ 12) (hs : ∀ s ∈ ss, s.size ≤ 9223372036854775807) (hz : W.lenAll (W.lens ss) = true) (h2 : 2 ≤ L) (h3 : L ≤ 3) :
    Calls Tryz.prog 34 #[.iface 47 (.slice A ss.length c), .int .i64 L] w fun e w' => e = .returned (.int .i64 ((W.sharesD L (W.lens ss) : Nat) : Int)) ∧ Below w.heap.size w w' := by
  have hwl := words_lengths A ss c w hrow (by omega) hs
  have h12 : (W.lens ss).length ≤ 12 := by rw [lens_len]; exact hl
  replace hz := W.lenAll_deep hz
  generalize W.lens ss = z at hz h12 hwl ⊢
  obtain ⟨r, hr⟩ : ∃ r, r = W.sharesD L z := ⟨_, rfl⟩
  rw [← hr]
  have Hst := Lib.hid (fun k (hk : k < z.length) => W.sharesD_succ L z k hk)
  have Hle := Lib.hid (fun k => Nat.le_trans (W.sharesD_take_le L z k) (W.sharesD_le L h2 h3 z hz))
  have Hz := Lib.hid (fun k (hk : k < z.length) => W.all_at hz k hk)
  have Hpl := Lib.hid (fun k (hk : k < z.length) => W.partD_le L h2 h3 z[k] (W.all_at hz k hk).1)
  have Hall := Lib.hid (show W.sharesD L (z.take z.length) = r by rw [hr, List.take_length])
  replace hwl := Lib.hid hwl
  have hmt := method_words (.slice A ss.length c)
  clear hz hr hrow hs
  go_enter Tryz.func34, Tryz.ntmps34
  go_wp2_with (go_at_call 115; refine hwl.out.mono ?_; rintro e w1 ⟨A', c', rfl, ho, hB⟩)
  have h := Lib.hid (Row.of_own ho)
  have HB := Lib.hid hB
  have Hpw := Lib.hid (fun (l : Int) (h1 : 1 ≤ l) (h8 : l ≤ 11) => impl_partsOf L l w1 h3 h1 h8)
  clear ho hB
  go_loop [5, 11] (fun s i => ∃ k q : Nat, k ≤ z.length ∧ i = .int .i64 k ∧ s = .int .i64 q ∧ Hid (q = W.sharesD L (z.take k))) (fun _ i => z.length - (intOf i).toNat)
  case atStart => exact ⟨0, 0, Nat.zero_le _, rfl, rfl, rfl⟩
  case round =>
    obtain ⟨k, q, hk, rfl, rfl, hq⟩ := hrel
    have hq4 := Hle.out k
    rw [← hq.out] at hq4
    by_cases hlt : k < z.length
    · obtain ⟨b, off, rfl, hb, hcc⟩ := Row.int_at h.out (by omega)
      have hlt' : (k : Int) < (z.length : Int) := by omega
      have c1 := hcc k hlt
      clear hcc
      have hl := Hz.out k hlt
      have hs := Hst.out k hlt
      have hp := Hpl.out k hlt
      have hpw := Hpw.out _ hl.1 hl.2
      generalize z[k] = l at c1 hl hs hp hpw
      rw [← hq.out] at hs
      generalize W.partD L l = p at hs hp hpw
      replace hs := Lib.hid hs
      replace hpw := Lib.hid hpw
      go_wp2_with (go_at_call 47; refine hpw.out.mono ?_; rintro e w' ⟨rfl, rfl⟩)
      go_round
      case rel => exact ⟨k + 1, q + p, by omega, by go_num, by go_num, hs.out.symm⟩
      case measure => simp [intOf]; omega
    · obtain rfl : k = z.length := by omega
      obtain rfl := hq.out.trans Hall.out
      go_wp2
      go_ret
      exact ⟨rfl, HB.out⟩

end Go.Proofs.YtjopbmhldpcpdaaGreatDoor
