/-
  WHAT THIS FILE PROVES: the program's tests of weights, the parts of a word, and the weight of a word: they give what the plain ones say; asked: slices in memory, lengths that an int holds.
-/
import Derived.Test.YtkgoglmhojppbaaDoorLeI
import Derived.Test.YtkgoglmhojppbaaDoorTot
namespace Go.Proofs.YtkgoglmhojppbaaDoor
open Go.RowKit Go.Shelf

theorem mul_wrap2 (p q : Nat) (h : p * q ≤ 4611686018427387904) : IntKind.i64.wrap ((p : Int) * (q : Int)) = ((p * q : Nat) : Int) := by
  have h2 : ((p * q : Nat) : Int) ≤ 4611686018427387904 := by omega
  have h3 : (0 : Int) ≤ ((p * q : Nat) : Int) := by omega
  have e : ((p : Int) * (q : Int)) = ((p * q : Nat) : Int) := (Int.natCast_mul p q).symm
  rw [e]
  exact IntWalk.i64_in ((p * q : Nat) : Int) (by omega)
/-- the world in which a ratio's two cells are made -/
abbrev leV (w : World) : World := w.alloc (.cells #[.int .i64 0, .int .i64 0] 24)
theorem leV_below (w : World) : Below w.heap.size w (w.alloc (.cells #[.int .i64 0, .int .i64 0] 24)) := (Below.refl w.heap.size w).alloc (Nat.le_refl _) _
theorem le_total (A : Option Addr) (z : List Int) (c : Nat) (w : World) (h : Row w w.heap.size A (ints z)) (hz : W.flB 10 z = true) :
    Calls Tryd.prog 47 #[.slice A z.length c] w fun e w' => e = .returned (.int .i64 z.sum) ∧ w = w' := by
  obtain ⟨h3, hm⟩ := W.flB_mem hz
  exact impl_totalOf z.length A z c w rfl h (by omega) (fun x hx => by have := hm x hx; omega)
theorem impl_areLetterWeights (A : Option Addr) (z : List Int) (c : Nat) (w : World) (h : Row w w.heap.size A (ints z)) :
    Calls Tryd.prog 31 #[.slice A z.length c] w fun e w' => e = .returned (.bool (W.wtB z)) ∧ w = w' := by
  have hc := impl_areForLetters 10 A z c w h ⟨by decide, by decide⟩
  unfold W.wtB
  cases hq : W.flB 10 z
  · rw [hq] at hc
    replace hc := Lib.hid hc
    clear h hq
    rw [Bool.false_and]
    go_enter Tryd.func31, Tryd.ntmps31
    go_wp2_with (go_at_call 46; refine hc.out.mono ?_; rintro e w' ⟨rfl, rfl⟩)
    go_ret
    exact ⟨rfl, rfl⟩
  · rw [hq] at hc
    have ht := Lib.hid (le_total A z c w h hq)
    replace hc := Lib.hid hc
    rw [Bool.true_and]
    generalize z.sum = S at ht ⊢
    clear h hq
    by_cases h1 : 1 ≤ S
    · rw [decide_eq_true h1]
      have h2 : 0 < S := by omega
      go_enter Tryd.func31, Tryd.ntmps31
      go_wp2_with (first | (go_at_call 46; refine hc.out.mono ?_; rintro e w' ⟨rfl, rfl⟩) | (go_at_call 47; refine ht.out.mono ?_; rintro e w' ⟨rfl, rfl⟩))
      go_ret
      exact ⟨rfl, rfl⟩
    · rw [decide_eq_false h1]
      have h2 : ¬ (0 < S) := by omega
      go_enter Tryd.func31, Tryd.ntmps31
      go_wp2_with (first | (go_at_call 46; refine hc.out.mono ?_; rintro e w' ⟨rfl, rfl⟩) | (go_at_call 47; refine ht.out.mono ?_; rintro e w' ⟨rfl, rfl⟩))
      go_ret
      exact ⟨by first | rfl | simp [h2], rfl⟩
theorem lw_whole (A : Option Addr) (z : List Int) (c : Nat) (w : World) (h : Row w w.heap.size A (ints z)) (hz : W.wtB z = true) :
    Calls Tryd.prog 34 #[.slice A z.length c] w fun e w' => e = .returned (.int .i64 ((W.wtT z ^ 8 : Nat) : Int)) ∧ w = w' := by
  have ht := le_total A z c w h (W.wtB_fl hz)
  rw [W.wtB_sum hz] at ht
  have hp := fun u => impl_power (W.wtT z) 8 u (W.wtT_pow hz 8 (Nat.le_refl _)) (by omega)
  generalize W.wtT z ^ 8 = Q at hp ⊢
  generalize W.wtT z = T at ht hp
  replace ht := Lib.hid ht
  replace hp := Lib.hid hp
  clear h hz
  go_enter Tryd.func34, Tryd.ntmps34
  go_wp2_with (first | (go_at_call 47; refine ht.out.mono ?_; rintro e w' ⟨rfl, rfl⟩) | (go_at_call 49; refine (hp.out _).mono ?_; rintro e w' ⟨rfl, rfl⟩))
  go_ret
  exact ⟨rfl, rfl⟩
set_option maxHeartbeats 1600000 in
theorem lw_partsOf (s : ByteArray) (A : Option Addr) (z : List Int) (c : Nat) (w : World) (hs : s.size ≤ 8) (hwd : W.isWd s.data.toList = true) (h : Row w w.heap.size A (ints z)) (hz : W.wtB z = true) :
    Calls Tryd.prog 33 #[.slice A z.length c, .string s] w fun e w' => e = .returned (.int .i64 ((W.paW z s.data.toList : Nat) : Int)) ∧ ∃ n, w' = w.drewN n := by
  have hsl : s.data.toList.length = s.size := (Lib.size_eq s).symm
  have ht := le_total A z c w h (W.wtB_fl hz)
  rw [W.wtB_sum hz] at ht
  have hp := fun u => impl_power (W.wtT z) (8 - s.size) u (W.wtT_pow hz _ (by omega)) (by omega)
  rw [show ((8 - s.size : Nat) : Int) = 8 - (s.size : Int) by omega] at hp
  obtain ⟨r, hr⟩ : ∃ r, r = W.paW z s.data.toList := ⟨_, rfl⟩
  rw [← hr]
  have Hall := Lib.hid (show W.wtT z ^ (8 - s.size) * W.prW z (s.data.toList.take s.size) = r by rw [hr, List.take_of_length_le (by omega)]; unfold W.paW; rw [hsl])
  have h3 := (W.flB_mem (W.wtB_fl hz)).1
  have Hst := Lib.hid (show ∀ k (hk : k < s.size), ∃ (i x : Nat), s[k].toNat = 97 + i ∧ i < 3 ∧ z[i]? = some (x : Int) ∧ x ≤ 10 ∧ W.wtT z ^ (8 - s.size) * W.prW z (s.data.toList.take (k + 1)) = W.wtT z ^ (8 - s.size) * W.prW z (s.data.toList.take k) * x from fun k hk => by
    have hb := List.all_eq_true.1 hwd (s.data.toList[k]'(by omega)) (List.getElem_mem _)
    rw [byte_toList s k hk] at hb
    unfold W.isL at hb
    rw [decide_eq_true_eq] at hb
    obtain ⟨hlt, he⟩ := W.wN_at hz s[k] hb
    refine ⟨s[k].toNat - 97, W.wN z s[k], by omega, by omega, by rw [List.getElem?_eq_getElem hlt, he], W.wN_le hz _, ?_⟩
    rw [W.prW_succ z _ k (by omega), byte_toList s k hk, Nat.mul_assoc])
  have Hle := Lib.hid (show ∀ k, k ≤ s.size → W.wtT z ^ (8 - s.size) * W.prW z (s.data.toList.take k) ≤ 100000000 from fun k hk => by
    have := W.paW_le hz s.data.toList (by omega) k (by omega)
    rw [hsl] at this
    exact this)
  have H0 := Lib.hid (show W.wtT z ^ (8 - s.size) * W.prW z (s.data.toList.take 0) = W.wtT z ^ (8 - s.size) by rw [List.take_zero, W.prW_nil, Nat.mul_one])
  generalize W.wtT z ^ (8 - s.size) = Q at hp Hall Hst Hle H0
  generalize W.wtT z = T at ht hp
  replace ht := Lib.hid ht
  replace hp := Lib.hid hp
  replace h := Lib.hid h
  replace h3 := Lib.hid h3
  clear hr hz hwd hsl
  go_enter Tryd.func33, Tryd.ntmps33
  go_wp2_with (first | (go_at_call 47; refine ht.out.mono ?_; rintro e w' ⟨rfl, rfl⟩) | (go_at_call 49; refine (hp.out _).mono ?_; rintro e w' ⟨rfl, rfl⟩))
  go_loopw [5, 15] (fun p i wr => ∃ (k q : Nat), k ≤ s.size ∧ i = .int .i64 k ∧ p = .int .i64 q ∧ Hid (q = Q * W.prW z (s.data.toList.take k)) ∧ ∃ n, wr = w.drewN n) (fun _ i _ => s.size - (intOf i).toNat)
  case atStart => exact ⟨0, Q, Nat.zero_le _, rfl, rfl, H0.out.symm, 0, rfl⟩
  case round =>
    obtain ⟨k, q, hk, rfl, rfl, hq, n, rfl⟩ := hrel
    by_cases hlt : k < s.size
    · obtain ⟨i, x, hb, hi3, hzi, hx, hst⟩ := Hst.out k hlt
      obtain ⟨b, off, rfl, hbb, hcc⟩ := h.out (by rw [ints_length]; have := h3.out; omega)
      have c1 := hcc i (.int .i64 (x : Int)) (by unfold ints; rw [List.getElem?_map, hzi]; rfl)
      clear hcc hzi
      have hqb := Hle.out k hk
      rw [← hq.out] at hqb hst
      have hst2 := Lib.hid hst
      have hlt' : (k : Int) < (s.size : Int) := by omega
      have hmul : q * x ≤ 100000000 * 10 := Nat.mul_le_mul hqb hx
      have e2 := mul_wrap2 q x (Nat.le_trans hmul (by decide))
      have e1 := mul_wrap q x (Nat.le_trans hmul (by decide))
      have e3 := Lib.hid e1
      clear e1
      have hb2 := s[k].toNat_lt
      have h97 : ((⟨#[97, 98, 99]⟩ : ByteArray)[0]'(by decide)).toNat = 97 := rfl
      have hi255 : (i : Int) ≤ 255 := by omega
      have hsub2 : IntKind.u8.wrap (i : Int) = (i : Int) := IntWalk.u8_in _ (by omega)
      have hi3' : (i : Int) < (z.length : Int) := by have := h3.out; omega
      clear hst hmul hqb hi255
      go_wp2
      go_quiet (fail)
      go_wp2
      go_roundw
      case rel => exact ⟨k + 1, q * x, by omega, by go_num, by first | rfl | rw [e3.out] | rw [e2], hst2.out.symm, n + nq, by first | rfl | (rw [World.drewN_drewN])⟩
      case measure => simp [intOf]; omega
    · obtain rfl : k = s.size := by omega
      obtain rfl := hq.out.trans Hall.out
      go_wp2
      go_ret
      exact ⟨rfl, n, rfl⟩
set_option maxHeartbeats 1600000 in
theorem impl_WeightOf (s : ByteArray) (A : Option Addr) (z : List Int) (c : Nat) (w : World) (hs : s.size ≤ 1099511627776) (h : Row w w.heap.size A (ints z)) (_hl : z.length ≤ 9223372036854775807) :
    Calls Tryd.prog 8 #[.string s, .slice A z.length c] w fun e w' => e = .returned (.tuple #[ratV ((W.woOf s z).1 : Nat) ((W.woOf s z).2 : Nat), .bool (W.woOk s z)]) ∧ Below w.heap.size w w' := by
  have hB := Lib.hid (leV_below w)
  have hrow := Lib.hid ((h.below hB.out).more hB.out.size)
  have hg := impl_IsWord s (leV w) (by omega)
  have hwt := fun (u : World) (hu : Row u u.heap.size A (ints z)) => impl_areLetterWeights A z c u hu
  clear h
  cases h1 : W.good s.data.toList
  · have hno : W.woOk s z = false := by unfold W.woOk; rw [h1]; rfl
    rw [W.woOf_no hno, hno]
    rw [h1] at hg
    replace hg := Lib.hid hg
    clear hno h1 hwt
    go_enter Tryd.func8, Tryd.ntmps8
    go_wp2_with fail
    refine hg.out.mono ?_
    rintro e w1 ⟨rfl, hB1⟩
    have hB2 := Lib.hid (hB.out.trans (hB1.mono hB.out.size))
    obtain ⟨c0, c1, f0, f1⟩ := res_cells hB1
    clear hB1
    go_wp2
    exact bodyPost_ret (v := .tuple #[ratV 0 0, .bool false]) (by simp [results, Tryd.results8, go_sem, c0, c1]) rfl ⟨rfl, (hB2.out.setCell (Nat.le_refl _) _).setCell (Nat.le_refl _) _⟩
  · rw [h1] at hg
    replace hg := Lib.hid hg
    by_cases h8 : s.size ≤ 8
    · have h8' : ¬ ((8 : Int) < (s.size : Int)) := by omega
      cases hz : W.wtB z
      · have hno : W.woOk s z = false := by unfold W.woOk; rw [hz]; simp
        rw [W.woOf_no hno, hno]
        rw [hz] at hwt
        replace hwt := Lib.hid hwt
        clear hno h1 hz
        go_enter Tryd.func8, Tryd.ntmps8
        go_wp2_with fail
        refine hg.out.mono ?_
        rintro e w1 ⟨rfl, hB1⟩
        have hB2 := Lib.hid (hB.out.trans (hB1.mono hB.out.size))
        have hw1 := Lib.hid (hwt.out w1 ((hrow.out.below hB1).more hB1.size))
        obtain ⟨c0, c1, f0, f1⟩ := res_cells hB1
        clear hB1
        go_wp2_with (go_at_call 31; refine hw1.out.mono ?_; rintro e w' ⟨rfl, rfl⟩)
        exact bodyPost_ret (v := .tuple #[ratV 0 0, .bool false]) (by simp [results, Tryd.results8, go_sem, c0, c1]) rfl ⟨rfl, (hB2.out.setCell (Nat.le_refl _) _).setCell (Nat.le_refl _) _⟩
      · have hyes : W.woOk s z = true := by unfold W.woOk; rw [h1, hz, decide_eq_true h8]; rfl
        have hwd : W.isWd s.data.toList = true := by unfold W.good at h1; rw [Bool.and_eq_true] at h1; exact h1.2
        have h8l : s.data.toList.length ≤ 8 := by rw [← Lib.size_eq]; exact h8
        have hlow := W.weight_low hz s.data.toList h8l
        rw [← Lib.size_eq] at hlow
        rw [W.woOf_yes hyes, hyes, ← hlow]
        rw [hz] at hwt
        replace hwt := Lib.hid hwt
        have hpa := fun (u : World) (hu : Row u u.heap.size A (ints z)) => lw_partsOf s A z c u h8 hwd hu hz
        have hwh := fun (u : World) (hu : Row u u.heap.size A (ints z)) => lw_whole A z c u hu hz
        have hP8 : W.paW z s.data.toList ≤ 100000000 := by
          have := W.paW_le hz s.data.toList h8l s.data.toList.length (Nat.le_refl _)
          rwa [List.take_length] at this
        have hQ0 : 0 < W.wtT z ^ 8 := Nat.pow_pos (by have := (W.wtT_le hz).2; omega)
        have hQ := W.wtT_pow hz 8 (Nat.le_refl _) 8 (Nat.le_refl _)
        clear hlow hyes h1 hwd h8l
        generalize W.wtT z ^ 8 = Q at hwh hQ hQ0 ⊢
        generalize W.paW z s.data.toList = P at hpa hP8 ⊢
        have hra := fun (u : World) => impl_ratioOf P Q u (Nat.le_trans hP8 (by decide)) hQ hQ0
        generalize W.low P Q = pq at hra ⊢
        obtain ⟨p, q⟩ := pq
        dsimp only at hra ⊢
        replace hpa := Lib.hid hpa
        replace hwh := Lib.hid hwh
        replace hra := Lib.hid hra
        clear hz hP8 hQ hQ0
        go_enter Tryd.func8, Tryd.ntmps8
        go_wp2_with fail
        refine hg.out.mono ?_
        rintro e w1 ⟨rfl, hB1⟩
        have hw1 := Lib.hid (hwt.out w1 ((hrow.out.below hB1).more hB1.size))
        have hp1 := Lib.hid (hpa.out w1 ((hrow.out.below hB1).more hB1.size))
        have hH1 := Lib.hid hB1
        have hrow1 := Lib.hid ((hrow.out.below hB1).more hB1.size)
        clear hB1
        go_wp2_with (first | (go_at_call 31; refine hw1.out.mono ?_; rintro e w' ⟨rfl, rfl⟩) | (go_at_call 33; refine hp1.out.mono ?_; rintro e w' ⟨rfl, n, rfl⟩))
        have hD := Lib.hid (below_drewN (Below.refl w1.heap.size w1) n)
        have hh1 := Lib.hid (hwh.out (w1.drewN n) ((hrow1.out.below hD.out).more hD.out.size))
        go_wp2_with (go_at_call 34; refine hh1.out.mono ?_; rintro e w' ⟨rfl, rfl⟩)
        refine (hra.out _).mono ?_
        rintro e w2 ⟨rfl, hB2⟩
        have hB3 := hH1.out.trans ((hD.out.trans (hB2.mono hD.out.size)).mono hH1.out.size)
        have hB4 := Lib.hid (hB.out.trans (hB3.mono hB.out.size))
        obtain ⟨c0, c1, f0, f1⟩ := res_cells hB3
        clear hB2 hB3
        go_wp2
        exact bodyPost_ret (v := .tuple #[ratV p q, .bool true]) (by simp [results, Tryd.results8, go_sem, c0, c1]) rfl ⟨rfl, (hB4.out.setCell (Nat.le_refl _) _).setCell (Nat.le_refl _) _⟩
    · have hno : W.woOk s z = false := by unfold W.woOk; rw [decide_eq_false h8]; simp
      rw [W.woOf_no hno, hno]
      have h8' : (8 : Int) < (s.size : Int) := by omega
      clear hno h1 hwt h8
      go_enter Tryd.func8, Tryd.ntmps8
      go_wp2_with fail
      refine hg.out.mono ?_
      rintro e w1 ⟨rfl, hB1⟩
      have hB2 := Lib.hid (hB.out.trans (hB1.mono hB.out.size))
      obtain ⟨c0, c1, f0, f1⟩ := res_cells hB1
      clear hB1
      go_wp2
      exact bodyPost_ret (v := .tuple #[ratV 0 0, .bool false]) (by simp [results, Tryd.results8, go_sem, c0, c1]) rfl ⟨rfl, (hB2.out.setCell (Nat.le_refl _) _).setCell (Nat.le_refl _) _⟩
end Go.Proofs.YtkgoglmhojppbaaDoor
