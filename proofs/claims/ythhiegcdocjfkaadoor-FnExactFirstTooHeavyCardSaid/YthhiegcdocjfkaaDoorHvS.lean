/-
  WHAT THIS FILE PROVES: the first weights that are too heavy: the specification hands back a slice of its own; asked: slices in memory, lengths that an int holds.
-/
import Derived.Test.YthhiegcdocjfkaaDoorHv
import Derived.Test.YthhiegcdocjfkaaDoorSwS
namespace Go.Proofs.YthhiegcdocjfkaaDoor
open Go.RowKit Go.Shelf

theorem own_three (w0 w1 : World) (x y z : Int) (hB : w0.heap.size ≤ w1.heap.size) :
    (w1.alloc (.cells #[.int .i64 x, .int .i64 y, .int .i64 z] 3)).ownsRow w0.heap.size 3 1 (.slice (some ⟨w1.heap.size, 0, none⟩) 3 3) 3 (ints [x, y, z]) :=
  World.ownsRow_lit w1 #[.int .i64 x, .int .i64 y, .int .i64 z] 3 hB (by unfold maxLen; omega) rfl
theorem heavy_is {ss : List ByteArray} {x : List Int} (hz : W.wtB x = true) {pq : Nat × Nat} (h : pq = W.low (W.suL x W.oneT ss) (W.wtT x ^ 8)) : W.heavyW ss x = decide (pq.2 < pq.1) := by
  unfold W.heavyW W.heavy
  rw [hz, ← h]
  rfl
theorem wt_three {a b c m : Nat} (hs : a + b + c ≤ m) (hm : m < 7) (h0 : a + b + c ≠ 0) : W.wtB [(a : Int), (b : Int), (c : Int)] = true := by
  rw [W.wtB3, decide_eq_true_eq]
  omega
set_option maxHeartbeats 6400000 in
theorem spec_FirstTooHeavy (A : Option Addr) (ss : List ByteArray) (c : Nat) (n : Int) (w : World) (h : Row w w.heap.size A (strs ss)) (hl : ss.length ≤ 9223372036854775807) (hs : ∀ s ∈ ss, s.size ≤ 9223372036854775807) :
    Calls Tryd.prog 17 #[.slice A ss.length c, .int .i64 n] w (OkInts w (W.fhOf ss n) (W.fhOk ss n)) := by
  have hc := spec_wdSet A ss c w h hl hs
  have hin := fun u => spec_l1In n 1 6 u
  cases h1 : W.isSet ss
  · have hno : W.fhAsk ss n = false := by unfold W.fhAsk; rw [h1]; rfl
    rw [(W.fh_no hno).1, (W.fh_no hno).2]
    rw [h1] at hc
    replace hc := Lib.hid hc
    clear hno h1 h hs hin
    go_enter Tryd.func17, Tryd.ntmps17
    go_wp2_with (go_at_call 24; refine hc.out.mono ?_; rintro e w' ⟨rfl, rfl⟩)
    go_ret2
    exact okInts_nil _ _ _ (Below.refl _ _)
  · rw [h1] at hc
    replace hc := Lib.hid hc
    by_cases hr : 1 ≤ n ∧ n ≤ 6
    · rw [decide_eq_true hr] at hin
      have hask : W.fhAsk ss n = true := by unfold W.fhAsk; rw [h1, decide_eq_true hr]; rfl
      obtain ⟨m, rfl⟩ := Int.eq_ofNat_of_zero_le (show 0 ≤ n by omega)
      have hm : m < 7 := by omega
      obtain ⟨R, hR⟩ : ∃ R, R = W.fhOf ss m := ⟨_, rfl⟩
      obtain ⟨K, hK⟩ : ∃ K, K = W.fhOk ss m := ⟨_, rfl⟩
      show Calls _ _ _ _ (OkInts w (W.fhOf ss (m : Int)) (W.fhOk ss (m : Int)))
      rw [← hR, ← hK]
      have Hyes := Lib.hid (show ∀ a b k : Nat, a + b + k ≤ m → (W.pre m a b k).find? (W.heavyW ss) = none → W.heavyW ss [(a : Int), (b : Int), (k : Int)] = true → R = [(a : Int), (b : Int), (k : Int)] ∧ K = true from fun a b k hs hn hh => by
        have := W.fh_some hask (W.fh_at hm hs hn hh)
        exact ⟨hR.trans this.1, hK.trans this.2⟩)
      have Hno := Lib.hid (show (W.pre m (m + 1) 0 0).find? (W.heavyW ss) = none → R = [] ∧ K = false from fun hn => by
        have := W.fh_none hask (W.fh_end hn)
        exact ⟨hR.trans this.1, hK.trans this.2⟩)
      have h12 := W.isSet_len ss h1
      have hSh := W.set_Sh8 h1
      have hones := Lib.hid (fun (u : World) => ones_own ss u (by omega))
      have hsum := Lib.hid (fun (x : List Int) (hz : W.wtB x = true) (A' : Option Addr) (c' : Nat) (C : Option Addr) (g : Nat) (u : World) (h0 : Row u u.heap.size A (strs ss)) (ht : Row u u.heap.size A' (ints (W.tms W.oneT ss))) (hq : Row u u.heap.size C (ints x)) => spec_leSum W.oneT A ss c A' c' C x g u h0 ht hq hz hSh (fun _ _ => by unfold W.oneT; omega) (by omega))
      replace hin := Lib.hid hin
      replace h := Lib.hid h
      clear hr hask hR hK hs h1 hSh
      go_enter Tryd.func17, Tryd.ntmps17
      go_wp2_with (first | (go_at_call 24; refine hc.out.mono ?_; rintro e w' ⟨rfl, rfl⟩) | (go_at_call 34; refine (hin.out _).mono ?_; rintro e w' ⟨rfl, rfl⟩))
      go_loopw [6] (fun av wr => ∃ a : Nat, a ≤ m + 1 ∧ av = .int .i64 a ∧ Hid ((W.pre m a 0 0).find? (W.heavyW ss) = none) ∧ Below w.heap.size w wr) (fun av _ => m + 1 - (intOf av).toNat)
      case atStart => exact ⟨0, Nat.zero_le _, rfl, rfl, Below.refl _ _⟩
      case round =>
        obtain ⟨a, ha, rfl, hA, hB⟩ := hrel
        replace hB := Lib.hid hB
        generalize wr = wa at *
        by_cases hlt : a ≤ m
        · have hlt' : (a : Int) ≤ (m : Int) := by omega
          go_wp2
          go_loopw [7] (fun bv wr => ∃ b : Nat, a + b ≤ m + 1 ∧ bv = .int .i64 b ∧ Hid ((W.pre m a b 0).find? (W.heavyW ss) = none) ∧ Below w.heap.size w wr) (fun bv _ => m + 1 - (intOf bv).toNat)
          case atStart => exact ⟨0, by omega, rfl, hA, hB.out⟩
          case round =>
            obtain ⟨b, hb, rfl, hAb, hB1⟩ := hrel
            replace hB1 := Lib.hid hB1
            generalize wr = wb at *
            by_cases hltb : a + b ≤ m
            · have hltb' : (a : Int) + (b : Int) ≤ (m : Int) := by omega
              go_wp2
              go_loopw [8] (fun cv wr => ∃ k : Nat, a + b + k ≤ m + 1 ∧ cv = .int .i64 k ∧ Hid ((W.pre m a b k).find? (W.heavyW ss) = none) ∧ Below w.heap.size w wr) (fun cv _ => m + 1 - (intOf cv).toNat)
              case atStart => exact ⟨0, by omega, rfl, hAb, hB1.out⟩
              case round =>
                obtain ⟨k, hk, rfl, hAc, hB2⟩ := hrel
                replace hB2 := Lib.hid hB2
                generalize wr = wc at *
                by_cases hltc : a + b + k ≤ m
                · have hltc' : (a : Int) + (b : Int) + (k : Int) ≤ (m : Int) := by omega
                  by_cases h0 : a + b + k = 0
                  · obtain rfl : a = 0 := by omega
                    obtain rfl : b = 0 := by omega
                    obtain rfl : k = 0 := by omega
                    have hN := Lib.hid (W.fh_step hAc.out (show W.heavyW ss [((0 : Nat) : Int), ((0 : Nat) : Int), ((0 : Nat) : Int)] = false from rfl))
                    go_wp2
                    go_roundw
                    case rel => exact ⟨1, by omega, by go_num, hN, hB2.out⟩
                    case measure => simp [intOf]
                  · have h0' : ((a : Int) + (b : Int) + (k : Int) == 0) = false := beq_eq_false_iff_ne.2 (by omega)
                    have h0'' : ¬ ((a : Int) + (b : Int) + (k : Int) = 0) := by omega
                    have hz := wt_three hltc hm h0
                    have how := Lib.hid (own_three w wc (a : Int) (b : Int) (k : Int) hB2.out.size)
                    have hBU := Lib.hid (hB2.out.alloc hB2.out.size (.cells #[.int .i64 (a : Int), .int .i64 (b : Int), .int .i64 (k : Int)] 3))
                    obtain ⟨pq, hpq⟩ : ∃ pq, pq = W.low (W.suL [(a : Int), (b : Int), (k : Int)] W.oneT ss) (W.wtT [(a : Int), (b : Int), (k : Int)] ^ 8) := ⟨_, rfl⟩
                    have hH := Lib.hid (heavy_is hz hpq)
                    have hsm := hsum.out [(a : Int), (b : Int), (k : Int)] hz
                    rw [← hpq] at hsm
                    replace hsm := Lib.hid hsm
                    obtain ⟨p, q⟩ := pq
                    have hon1 := Lib.hid (hones.out (wc.alloc (.cells #[.int .i64 (a : Int), .int .i64 (b : Int), .int .i64 (k : Int)] 3)))
                    clear hz hpq
                    go_wp2_with fail
                    refine hon1.out.mono ?_
                    rintro e w2 ⟨A2, c2, rfl, ho2, hBo⟩
                    have H2 := Lib.hid (hBU.out.trans (hBo.mono hBU.out.size))
                    have how2 := Lib.hid (own_below how.out hBo)
                    have hs1 := Lib.hid (hsm.out A2 c2 (some ⟨wc.heap.size, 0, none⟩) 3 w2 ((h.out.below H2.out).more H2.out.size) (Row.of_own ho2) (Row.of_own how2.out))
                    clear ho2 hBo hon1
                    go_wp2_with fail
                    refine hs1.out.mono ?_
                    rintro e w3 ⟨rfl, hB3⟩
                    have H3 := Lib.hid ((H2.out.trans (hB3.mono H2.out.size)).alloc (Nat.le_trans H2.out.size hB3.size) (.cells #[.int .i64 (p : Int), .int .i64 (q : Int)] 26))
                    have how3 := Lib.hid (own_below (own_below how2.out hB3) ((Below.refl w3.heap.size w3).alloc (Nat.le_refl _) (.cells #[.int .i64 (p : Int), .int .i64 (q : Int)] 26)))
                    clear hB3 hs1
                    by_cases hpq : q < p
                    · have hpq' : (q : Int) < (p : Int) := by omega
                      obtain ⟨rfl, rfl⟩ := Hyes.out a b k hltc hAc.out (hH.out.trans (decide_eq_true hpq))
                      go_wp2
                      go_ret2
                      exact okInts_of (xs := [(a : Int), (b : Int), (k : Int)]) how3.out rfl H3.out
                    · have hpq' : ¬ ((q : Int) < (p : Int)) := by omega
                      have hN := Lib.hid (W.fh_step hAc.out (hH.out.trans (decide_eq_false hpq)))
                      go_wp2
                      go_roundw
                      case rel => exact ⟨k + 1, by omega, by go_num, hN, H3.out⟩
                      case measure => simp [intOf]; omega
                · have hltc' : ¬ ((a : Int) + (b : Int) + (k : Int) ≤ (m : Int)) := by omega
                  have hN : Hid ((W.pre m a (b + 1) 0).find? (W.heavyW ss) = none) := by
                    have := hAc.out
                    rw [show k = m - a - b + 1 by omega, W.pre_b] at this
                    exact this
                  go_wp2
                  go_roundw
                  case rel => exact ⟨b + 1, by omega, by go_num, hN, hB2.out⟩
                  case measure => simp [intOf]; omega
            · have hltb' : ¬ ((a : Int) + (b : Int) ≤ (m : Int)) := by omega
              have hN : Hid ((W.pre m (a + 1) 0 0).find? (W.heavyW ss) = none) := by
                have := hAb.out
                rw [show b = m - a + 1 by omega, W.pre_a] at this
                exact this
              go_wp2
              go_roundw
              case rel => exact ⟨a + 1, by omega, by go_num, hN, hB1.out⟩
              case measure => simp [intOf]; omega
        · have hlt' : ¬ ((a : Int) ≤ (m : Int)) := by omega
          obtain rfl : a = m + 1 := by omega
          obtain ⟨rfl, rfl⟩ := Hno.out hA.out
          go_wp2
          go_ret2
          exact okInts_nil _ _ _ hB.out
    · rw [decide_eq_false hr] at hin
      replace hin := Lib.hid hin
      have hno : W.fhAsk ss n = false := by unfold W.fhAsk; rw [decide_eq_false hr, Bool.and_false]
      rw [(W.fh_no hno).1, (W.fh_no hno).2]
      clear hno h1 h hs hr
      go_enter Tryd.func17, Tryd.ntmps17
      go_wp2_with (first | (go_at_call 24; refine hc.out.mono ?_; rintro e w' ⟨rfl, rfl⟩) | (go_at_call 34; refine (hin.out _).mono ?_; rintro e w' ⟨rfl, rfl⟩))
      go_ret2
      exact okInts_nil _ _ _ (Below.refl _ _)
end Go.Proofs.YthhiegcdocjfkaaDoor
