/-
  WHAT THIS FILE PROVES: the program's tests of weights, the parts of a word, and the weight of a word: they give what the plain ones say; asked: slices in memory, lengths that an int holds.
-/
import Derived.Test.YthhiegcdocjfkaaDoorLeI
import Derived.Test.YthhiegcdocjfkaaDoorTot
namespace Go.Proofs.YthhiegcdocjfkaaDoor
open Go.RowKit Go.Shelf

theorem mul_wrap2 (p q : Nat) (h : p * q ≤ 4611686018427387904) : IntKind.i64.wrap ((p : Int) * (q : Int)) = ((p * q : Nat) : Int) := by
  have h2 : ((p * q : Nat) : Int) ≤ 4611686018427387904 := by omega
  have h3 : (0 : Int) ≤ ((p * q : Nat) : Int) := by omega
  have e : ((p : Int) * (q : Int)) = ((p * q : Nat) : Int) := (Int.natCast_mul p q).symm
  rw [e]
  exact IntWalk.i64_in ((p * q : Nat) : Int) (by omega)
/-- the world in which a ratio's two cells are made -/
abbrev leV (w : World) : World := w.alloc (.cells #[.int .i64 0, .int .i64 0] 26)
theorem leV_below (w : World) : Below w.heap.size w (w.alloc (.cells #[.int .i64 0, .int .i64 0] 26)) := (Below.refl w.heap.size w).alloc (Nat.le_refl _) _
theorem le_total (A : Option Addr) (z : List Int) (c : Nat) (w : World) (h : Row w w.heap.size A (ints z)) (hz : W.flB 10 z = true) :
    Calls Tryd.prog 50 #[.slice A z.length c] w fun e w' => e = .returned (.int .i64 z.sum) ∧ w = w' := by
  obtain ⟨h3, hm⟩ := W.flB_mem hz
  exact impl_totalOf z.length A z c w rfl h (by omega) (fun x hx => by have := hm x hx; omega)
theorem impl_areLetterWeights (A : Option Addr) (z : List Int) (c : Nat) (w : World) (h : Row w w.heap.size A (ints z)) :
    Calls Tryd.prog 29 #[.slice A z.length c] w fun e w' => e = .returned (.bool (W.wtB z)) ∧ w = w' := by
  have hc := impl_areForLetters 10 A z c w h ⟨by decide, by decide⟩
  unfold W.wtB
  cases hq : W.flB 10 z
  · rw [hq] at hc
    replace hc := Lib.hid hc
    clear h hq
    rw [Bool.false_and]
    go_enter Tryd.func29, Tryd.ntmps29
    go_wp2_with (go_at_call 49; refine hc.out.mono ?_; rintro e w' ⟨rfl, rfl⟩)
    go_ret
    exact ⟨rfl, rfl⟩
  · rw [hq] at hc
    have ht := Lib.hid (le_total A z c w h hq)
    replace hc := Lib.hid hc
    rw [Bool.true_and]
    generalize z.sum = S at ht ⊢
    clear h hq
    by_cases h1 : 1 ≤ S
    · rw [decide_eq_true h1]
      have h2 : 0 < S := by omega
      go_enter Tryd.func29, Tryd.ntmps29
      go_wp2_with (first | (go_at_call 49; refine hc.out.mono ?_; rintro e w' ⟨rfl, rfl⟩) | (go_at_call 50; refine ht.out.mono ?_; rintro e w' ⟨rfl, rfl⟩))
      go_ret
      exact ⟨rfl, rfl⟩
    · rw [decide_eq_false h1]
      have h2 : ¬ (0 < S) := by omega
      go_enter Tryd.func29, Tryd.ntmps29
      go_wp2_with (first | (go_at_call 49; refine hc.out.mono ?_; rintro e w' ⟨rfl, rfl⟩) | (go_at_call 50; refine ht.out.mono ?_; rintro e w' ⟨rfl, rfl⟩))
      go_ret
      exact ⟨by first | rfl | simp [h2], rfl⟩
theorem lw_whole (A : Option Addr) (z : List Int) (c : Nat) (w : World) (h : Row w w.heap.size A (ints z)) (hz : W.wtB z = true) :
    Calls Tryd.prog 53 #[.slice A z.length c] w fun e w' => e = .returned (.int .i64 ((W.wtT z ^ 8 : Nat) : Int)) ∧ w = w' := by
  have ht := le_total A z c w h (W.wtB_fl hz)
  rw [W.wtB_sum hz] at ht
  have hp := fun u => impl_power (W.wtT z) 8 u (W.wtT_pow hz 8 (Nat.le_refl _)) (by omega)
  generalize W.wtT z ^ 8 = Q at hp ⊢
  generalize W.wtT z = T at ht hp
  replace ht := Lib.hid ht
  replace hp := Lib.hid hp
  clear h hz
  go_enter Tryd.func53, Tryd.ntmps53
  go_wp2_with (first | (go_at_call 50; refine ht.out.mono ?_; rintro e w' ⟨rfl, rfl⟩) | (go_at_call 54; refine (hp.out _).mono ?_; rintro e w' ⟨rfl, rfl⟩))
  go_ret
  exact ⟨rfl, rfl⟩
set_option maxHeartbeats 1600000 in
theorem lw_partsOf (s : ByteArray) (A : Option Addr) (z : List Int) (c : Nat) (w : World) (hs : s.size ≤ 8) (hwd : W.isWd s.data.toList = true) (h : Row w w.heap.size A (ints z)) (hz : W.wtB z = true) :
    Calls Tryd.prog 31 #[.slice A z.length c, .string s] w fun e w' => e = .returned (.int .i64 ((W.paW z s.data.toList : Nat) : Int)) ∧ ∃ n, w' = w.drewN n := by
  have hsl : s.data.toList.length = s.size := (Lib.size_eq s).symm
  have ht := le_total A z c w h (W.wtB_fl hz)
  rw [W.wtB_sum hz] at ht
  have hp := fun u => impl_power (W.wtT z) (8 - s.size) u (W.wtT_pow hz _ (by omega)) (by omega)
  rw [show ((8 - s.size : Nat) : Int) = 8 - (s.size : Int) by omega] at hp
  obtain ⟨r, hr⟩ : ∃ r, r = W.paW z s.data.toList := ⟨_, rfl⟩
  rw [← hr]
  have Hall := Lib.hid (show W.wtT z ^ (8 - s.size) * W.prW z (s.data.toList.take s.size) = r by rw [hr, List.take_of_length_le (by omega)]; unfold W.paW; rw [hsl])
  have h3 := (W.flB_mem (W.wtB_fl hz)).1
  have Hst := Lib.hid (show ∀ k (hk : k < s.size), ∃ (i x : Nat), s[k].toNat = 97 + i ∧ i < 3 ∧ z[i]? = some (x : Int) ∧ x ≤ 10 ∧ W.wtT z ^ (8 - s.size) * W.prW z (s.data.toList.take (k + 1)) = W.wtT z ^ (8 - s.size) * W.prW z (s.data.toList.take k) * x from fun k hk => by
    have hb := List.all_eq_true.1 hwd (s.data.toList[k]'(by omega)) (List.getElem_mem _)
    rw [byte_toList s k hk] at hb
    unfold W.isL at hb
    rw [decide_eq_true_eq] at hb
    obtain ⟨hlt, he⟩ := W.wN_at hz s[k] hb
    refine ⟨s[k].toNat - 97, W.wN z s[k], by omega, by omega, by rw [List.getElem?_eq_getElem hlt, he], W.wN_le hz _, ?_⟩
    rw [W.prW_succ z _ k (by omega), byte_toList s k hk, Nat.mul_assoc])
  have Hle := Lib.hid (show ∀ k, k ≤ s.size → W.wtT z ^ (8 - s.size) * W.prW z (s.data.toList.take k) ≤ 100000000 from fun k hk => by
    have := W.paW_le hz s.data.toList (by omega) k (by omega)
    rw [hsl] at this
    exact this)
  have H0 := Lib.hid (show W.wtT z ^ (8 - s.size) * W.prW z (s.data.toList.take 0) = W.wtT z ^ (8 - s.size) by rw [List.take_zero, W.prW_nil, Nat.mul_one])
  generalize W.wtT z ^ (8 - s.size) = Q at hp Hall Hst Hle H0
  generalize W.wtT z = T at ht hp
  replace ht := Lib.hid ht
  replace hp := Lib.hid hp
  replace h := Lib.hid h
  replace h3 := Lib.hid h3
  clear hr hz hwd hsl
  go_enter Tryd.func31, Tryd.ntmps31
  go_wp2_with (first | (go_at_call 50; refine ht.out.mono ?_; rintro e w' ⟨rfl, rfl⟩) | (go_at_call 54; refine (hp.out _).mono ?_; rintro e w' ⟨rfl, rfl⟩))
  go_loopw [5, 15] (fun p i wr => ∃ (k q : Nat), k ≤ s.size ∧ i = .int .i64 k ∧ p = .int .i64 q ∧ Hid (q = Q * W.prW z (s.data.toList.take k)) ∧ ∃ n, wr = w.drewN n) (fun _ i _ => s.size - (intOf i).toNat)
  case atStart => exact ⟨0, Q, Nat.zero_le _, rfl, rfl, H0.out.symm, 0, rfl⟩
  case round =>
    obtain ⟨k, q, hk, rfl, rfl, hq, n, rfl⟩ := hrel
    by_cases hlt : k < s.size
    · obtain ⟨i, x, hb, hi3, hzi, hx, hst⟩ := Hst.out k hlt
      obtain ⟨b, off, rfl, hbb, hcc⟩ := h.out (by rw [ints_length]; have := h3.out; omega)
      have c1 := hcc i (.int .i64 (x : Int)) (by unfold ints; rw [List.getElem?_map, hzi]; rfl)
      clear hcc hzi
      have hqb := Hle.out k hk
      rw [← hq.out] at hqb hst
      have hst2 := Lib.hid hst
      have hlt' : (k : Int) < (s.size : Int) := by omega
      have hmul : q * x ≤ 100000000 * 10 := Nat.mul_le_mul hqb hx
      have e2 := mul_wrap2 q x (Nat.le_trans hmul (by decide))
      have e1 := mul_wrap q x (Nat.le_trans hmul (by decide))
      have e3 := Lib.hid e1
      clear e1
      have hb2 := s[k].toNat_lt
      have h97 : ((⟨#[97, 98, 99]⟩ : ByteArray)[0]'(by decide)).toNat = 97 := rfl
      have hi255 : (i : Int) ≤ 255 := by omega
      have hsub2 : IntKind.u8.wrap (i : Int) = (i : Int) := IntWalk.u8_in _ (by omega)
      have hi3' : (i : Int) < (z.length : Int) := by have := h3.out; omega
      clear hst hmul hqb hi255
      go_wp2
      go_quiet (fail)
      go_wp2
      go_roundw
      case rel => exact ⟨k + 1, q * x, by omega, by go_num, by first | rfl | rw [e3.out] | rw [e2], hst2.out.symm, n + nq, by first | rfl | (rw [World.drewN_drewN])⟩
      case measure => simp [intOf]; omega
    · obtain rfl : k = s.size := by omega
      obtain rfl := hq.out.trans Hall.out
      go_wp2
      go_ret
      exact ⟨rfl, n, rfl⟩
end Go.Proofs.YthhiegcdocjfkaaDoor
