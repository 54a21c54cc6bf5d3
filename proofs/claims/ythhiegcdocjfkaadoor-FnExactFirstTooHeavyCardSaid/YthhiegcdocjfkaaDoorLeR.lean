/-
  WHAT THIS FILE PROVES: the specification's tests of weights, the products of the weights of letters, and the weight of a word: they give what the plain ones say; asked: slices in memory, lengths that an int holds.
-/
import Derived.Test.YthhiegcdocjfkaaDoorLeS
namespace Go.Proofs.YthhiegcdocjfkaaDoor
open Go.RowKit Go.Shelf

/-- the world in which a ratio's two cells are made -/
abbrev leW (w : World) : World := w.alloc (.cells #[.int .i64 0, .int .i64 0] 26)
theorem leW_below (w : World) : Below w.heap.size w (w.alloc (.cells #[.int .i64 0, .int .i64 0] 26)) := (Below.refl w.heap.size w).alloc (Nat.le_refl _) _
theorem all3m (a b c : Int) : ([a, b, c] : List Int).all (inR 0 10) = decide ((0 ≤ a ∧ a ≤ 10) ∧ (0 ≤ b ∧ b ≤ 10) ∧ (0 ≤ c ∧ c ≤ 10)) := all3 10 a b c
set_option maxHeartbeats 1600000 in
theorem spec_leWeights (A : Option Addr) (z : List Int) (c : Nat) (w : World) (h : Row w w.heap.size A (ints z)) :
    Calls Tryd.prog 25 #[.slice A z.length c] w fun e w' => e = .returned (.bool (W.wtB z)) ∧ ∃ n, w' = w.drewN n := by
  by_cases hl : z.length = 3
  · obtain ⟨x, y, v, rfl⟩ := W.three hl
    have hc : ∀ (u : World), Row u u.heap.size A (ints [x, y, v]) → Calls Tryd.prog 41 #[.slice A 3 c, .int .i64 0, .int .i64 10] u fun e w' => e = .returned (.bool ([x, y, v].all (inR 0 10))) ∧ u = w' := fun u hu => spec_l1AllR A [x, y, v] c 0 10 u hu (by simp)
    rw [all3m] at hc
    obtain ⟨b, off, rfl, hb, hcc⟩ := Row.int_at h (by simp)
    have c0 : w.cell? ⟨b, off, none⟩ = some (.int .i64 x) := hcc 0 (by simp)
    have c1 : w.cell? ⟨b, off + 1, none⟩ = some (.int .i64 y) := hcc 1 (by simp)
    have c2 : w.cell? ⟨b, off + 2, none⟩ = some (.int .i64 v) := hcc 2 (by simp)
    clear hcc
    replace h := Lib.hid h
    rw [W.wtB3]
    by_cases ha : (0 ≤ x ∧ x ≤ 10) ∧ (0 ≤ y ∧ y ≤ 10) ∧ (0 ≤ v ∧ v ≤ 10)
    · rw [decide_eq_true ha] at hc
      have e1 : IntKind.i64.wrap (x + y) = x + y := IntWalk.i64_in _ (by omega)
      have e2 : IntKind.i64.wrap (x + y + v) = x + y + v := IntWalk.i64_in _ (by omega)
      have hin := fun u => spec_l1In (x + y + v) 1 10 u
      have hr : decide (0 ≤ x ∧ 0 ≤ y ∧ 0 ≤ v ∧ 1 ≤ x + y + v ∧ x + y + v ≤ 10) = decide (1 ≤ x + y + v ∧ x + y + v ≤ 10) := by
        rw [Bool.eq_iff_iff, decide_eq_true_eq, decide_eq_true_eq]
        omega
      rw [hr]
      generalize decide (1 ≤ x + y + v ∧ x + y + v ≤ 10) = r at hin ⊢
      clear hr
      replace hc := Lib.hid hc
      replace hin := Lib.hid hin
      go_enter Tryd.func25, Tryd.ntmps25
      go_wp2
      go_quiet ((first | (go_at_call 41; refine (hc.out _ (by first | exact h.out | (have h1 := below_drewN (Below.refl w.heap.size w) 1; exact (h.out.below h1).more h1.size))).mono ?_; rintro e w' ⟨rfl, rfl⟩; exact ⟨rfl, _, rfl⟩) | (go_at_call 34; refine (hin.out _).mono ?_; rintro e w' ⟨rfl, rfl⟩; exact ⟨rfl, _, rfl⟩)))
      go_wp2
      go_ret
      exact ⟨rfl, _, rfl⟩
    · rw [decide_eq_false ha] at hc
      have hr : decide (0 ≤ x ∧ 0 ≤ y ∧ 0 ≤ v ∧ 1 ≤ x + y + v ∧ x + y + v ≤ 10) = false := by
        rw [decide_eq_false_iff_not]
        omega
      rw [hr]
      clear hr
      replace hc := Lib.hid hc
      go_enter Tryd.func25, Tryd.ntmps25
      go_wp2
      go_quiet ((go_at_call 41; refine (hc.out _ (by first | exact h.out | (have h1 := below_drewN (Below.refl w.heap.size w) 1; exact (h.out.below h1).more h1.size))).mono ?_; rintro e w' ⟨rfl, rfl⟩; exact ⟨rfl, _, rfl⟩))
      go_wp2
      go_ret
      exact ⟨rfl, _, rfl⟩
  · have hr : W.wtB z = false := by unfold W.wtB; rw [W.flB_len hl]; rfl
    rw [hr]
    have hl2 : ((z.length : Int) == 3) = false := beq_eq_false_iff_ne.2 (by omega)
    have hl3 : ¬ ((z.length : Int) = 3) := by omega
    clear h hl hr
    go_enter Tryd.func25, Tryd.ntmps25
    go_wp2
    go_quiet (fail)
    go_wp2
    go_ret
    exact ⟨rfl, _, rfl⟩
theorem spec_leTotal (A : Option Addr) (z : List Int) (c : Nat) (w : World) (h : Row w w.heap.size A (ints z)) (hz : W.wtB z = true) :
    Calls Tryd.prog 44 #[.slice A z.length c] w fun e w' => e = .returned (.int .i64 ((W.wtT z : Nat) : Int)) ∧ ∃ n, w' = w.drewN n := by
  obtain ⟨x, y, v, rfl, h10, h1, hT⟩ := W.wtB_nat hz
  rw [hT]
  obtain ⟨b, off, rfl, hb, hcc⟩ := Row.int_at h (by simp)
  have c0 : w.cell? ⟨b, off, none⟩ = some (.int .i64 x) := hcc 0 (by simp)
  have c1 : w.cell? ⟨b, off + 1, none⟩ = some (.int .i64 y) := hcc 1 (by simp)
  have c2 : w.cell? ⟨b, off + 2, none⟩ = some (.int .i64 v) := hcc 2 (by simp)
  have e1 : IntKind.i64.wrap ((x : Int) + y) = (x : Int) + y := IntWalk.i64_in _ (by omega)
  have e2 : IntKind.i64.wrap ((x : Int) + y + v) = (x : Int) + y + v := IntWalk.i64_in _ (by omega)
  clear hcc h hz hT
  go_enter Tryd.func44, Tryd.ntmps44
  go_wp2
  go_quiet (fail)
  go_wp2
  go_ret
  exact ⟨by simp, _, rfl⟩
set_option maxHeartbeats 1600000 in
theorem spec_leProduct (s : ByteArray) (A : Option Addr) (z : List Int) (c : Nat) (w : World) (hs : s.size ≤ 8) (hwd : W.isWd s.data.toList = true) (h : Row w w.heap.size A (ints z)) (hz : W.wtB z = true) :
    Calls Tryd.prog 42 #[.string s, .slice A z.length c] w fun e w' => e = .returned (.int .i64 ((W.prW z s.data.toList : Nat) : Int)) ∧ w = w' := by
  have hsl : s.data.toList.length = s.size := (Lib.size_eq s).symm
  obtain ⟨r, hr⟩ : ∃ r, r = W.prW z s.data.toList := ⟨_, rfl⟩
  rw [← hr]
  have Hall := Lib.hid (show W.prW z (s.data.toList.take s.size) = r by rw [hr, List.take_of_length_le (by omega)])
  have h3 := (W.flB_mem (W.wtB_fl hz)).1
  have Hst := Lib.hid (show ∀ k (hk : k < s.size), ∃ (i x : Nat), s[k].toNat = 97 + i ∧ i < 3 ∧ z[i]? = some (x : Int) ∧ x ≤ 10 ∧ W.prW z (s.data.toList.take (k + 1)) = W.prW z (s.data.toList.take k) * x from fun k hk => by
    have hb := List.all_eq_true.1 hwd (s.data.toList[k]'(by omega)) (List.getElem_mem _)
    rw [byte_toList s k hk] at hb
    unfold W.isL at hb
    rw [decide_eq_true_eq] at hb
    obtain ⟨hlt, he⟩ := W.wN_at hz s[k] hb
    refine ⟨s[k].toNat - 97, W.wN z s[k], by omega, by omega, by rw [List.getElem?_eq_getElem hlt, he], W.wN_le hz _, ?_⟩
    rw [W.prW_succ z _ k (by omega), byte_toList s k hk])
  have Hle := Lib.hid (show ∀ k, k ≤ s.size → W.prW z (s.data.toList.take k) ≤ 100000000 from fun k hk => Nat.le_trans (W.prW_le hz _ k (by omega)) (W.ten_pow hk hs))
  have H0 : Hid (W.prW z (s.data.toList.take 0) = 1) := rfl
  replace h := Lib.hid h
  clear hr hz hwd hsl
  go_enter Tryd.func42, Tryd.ntmps42
  go_wp2
  go_loop [5, 6] (fun p i => ∃ (k q : Nat), k ≤ s.size ∧ i = .int .i64 k ∧ p = .int .i64 q ∧ Hid (q = W.prW z (s.data.toList.take k))) (fun _ i => s.size - (intOf i).toNat)
  case atStart => exact ⟨0, 1, Nat.zero_le _, rfl, rfl, H0.out.symm⟩
  case round =>
    obtain ⟨k, q, hk, rfl, rfl, hq⟩ := hrel
    by_cases hlt : k < s.size
    · obtain ⟨i, x, hb, hi3, hzi, hx, hst⟩ := Hst.out k hlt
      obtain ⟨b, off, rfl, hbb, hcc⟩ := h.out (by rw [ints_length]; omega)
      have c1 := hcc i (.int .i64 (x : Int)) (by unfold ints; rw [List.getElem?_map, hzi]; rfl)
      clear hcc hzi
      have hqb := Hle.out k hk
      rw [← hq.out] at hqb hst
      have hst2 := Lib.hid hst
      have hlt' : (k : Int) < (s.size : Int) := by omega
      have hmul : q * x ≤ 100000000 * 10 := Nat.mul_le_mul hqb hx
      have e1 : wrap64 ((q : Int) * (x : Int)) = ((q * x : Nat) : Int) := mul_wrap q x (by omega)
      have hb2 := s[k].toNat_lt
      have hsub : ((s[k].toNat : Int) - 97) % 256 = (i : Int) := by omega
      have hi3' : (i : Int) < (z.length : Int) := by omega
      clear hst hmul hqb
      go_wp2
      go_round
      case rel => exact ⟨k + 1, q * x, by omega, by go_num, by rw [e1], hst2.out.symm⟩
      case measure => simp [intOf]; omega
    · obtain rfl : k = s.size := by omega
      obtain rfl := hq.out.trans Hall.out
      go_wp2
      go_ret
      exact ⟨rfl, rfl⟩
end Go.Proofs.YthhiegcdocjfkaaDoor
