/-
  WHAT THIS FILE PROVES: the greatest number that divides the lengths of all words of a set: the specification's and the program's functions give it; asked: a slice of texts in memory, lengths that an int holds.
-/
import Derived.Test.YtdmbfmpagcjdpaaDoorArith
import Derived.Test.YtdmbfmpagcjdpaaDoorIsSet
namespace Go.Proofs.YtdmbfmpagcjdpaaDoor
open Go.RowKit Go.Shelf

/-- the greatest number that divides the lengths of the first k words -/
def dvTo (ss : List ByteArray) : Nat → Nat
  | 0 => 0
  | k + 1 => Nat.gcd (dvTo ss k) (W.nth ss k).size
theorem dvTo_succ (ss : List ByteArray) (k : Nat) : dvTo ss (k + 1) = Nat.gcd (dvTo ss k) (W.nth ss k).size := rfl
theorem dvTo_le {ss : List ByteArray} (h : W.isSet ss = true) : ∀ k, k ≤ ss.length → dvTo ss k ≤ 8
  | 0, _ => Nat.zero_le _
  | k + 1, hk => by
    have h1 := W.short_size _ (W.isSet_short ss h k hk)
    have h2 := Nat.gcd_le_right (dvTo ss k) h1.1
    rw [dvTo_succ]
    omega
def cdOk (ss : List ByteArray) : Bool := W.isSet ss && decide (0 < ss.length)
/-- what CommonDivisor tells -/
def cdOf (ss : List ByteArray) : Nat := if cdOk ss then dvTo ss ss.length else 0
theorem cdOf_no {ss : List ByteArray} (h : cdOk ss = false) : cdOf ss = 0 := by unfold cdOf; rw [h]; rfl
theorem cdOf_yes {ss : List ByteArray} (h : cdOk ss = true) : cdOf ss = dvTo ss ss.length := by unfold cdOf; rw [h]; rfl

set_option maxHeartbeats 1600000 in
theorem spec_CommonDivisor (A : Option Addr) (ss : List ByteArray) (c : Nat) (w : World) (h : Row w w.heap.size A (strs ss)) (hl : ss.length ≤ 9223372036854775807) (hs : ∀ s ∈ ss, s.size ≤ 9223372036854775807) :
    Calls Tryd.prog 7 #[.slice A ss.length c] w fun e w' => e = .returned (.tuple #[.int .i64 ((cdOf ss : Nat) : Int), .bool (cdOk ss)]) ∧ Below w.heap.size w w' := by
  have hc := spec_wdSet A ss c w h hl hs
  cases hq : W.isSet ss
  · have h1 : cdOk ss = false := by unfold cdOk; rw [hq]; rfl
    rw [cdOf_no h1, h1]
    rw [hq] at hc
    replace hc := Lib.hid hc
    clear h hs hq h1
    go_enter Tryd.func7, Tryd.ntmps7
    go_wp2_with (go_at_call 19; refine hc.out.mono ?_; rintro e w' ⟨rfl, rfl⟩)
    go_ret2
    exact ⟨rfl, Below.refl _ _⟩
  · rw [hq] at hc
    replace hc := Lib.hid hc
    by_cases h0 : 0 < ss.length
    · have h1 : cdOk ss = true := by unfold cdOk; rw [hq, decide_eq_true h0]; rfl
      rw [cdOf_yes h1, h1]
      have Hle := Lib.hid (fun k hk => dvTo_le hq k hk)
      have Hsz := Lib.hid (fun k hk => W.short_size _ (W.isSet_short ss hq k hk))
      have Hst := Lib.hid (dvTo_succ ss)
      have Hg := Lib.hid (fun a b w h1 h2 => spec_krGcd a b w h1 h2)
      have h0' : ((ss.length : Int) == 0) = false := beq_eq_false_iff_ne.2 (by omega)
      replace h := Lib.hid h
      clear hs hq h1
      go_enter Tryd.func7, Tryd.ntmps7
      go_wp2_with (go_at_call 19; refine hc.out.mono ?_; rintro e w' ⟨rfl, rfl⟩)
      go_loop [4, 17] (fun g i => ∃ k : Nat, k ≤ ss.length ∧ i = .int .i64 k ∧ ∃ q : Nat, g = .int .i64 q ∧ Hid (q = dvTo ss k)) (fun _ i => ss.length - (intOf i).toNat)
      case atStart => exact ⟨0, Nat.zero_le _, rfl, 0, rfl, rfl⟩
      case round =>
        obtain ⟨k, hk, rfl, q, rfl, hq⟩ := hrel
        have hq8 := Hle.out k hk
        rw [← hq.out] at hq8
        by_cases hlt : k < ss.length
        · obtain ⟨b, off, rfl, hb, hcc⟩ := h.out (by rw [strs_length]; omega)
          have hlt' : (k : Int) < (ss.length : Int) := by omega
          have c1 := hcc k _ (strs_nth ss k hlt)
          clear hcc
          have hz := (Hsz.out k hlt).2
          have hst := Hst.out k
          generalize W.nth ss k = s at c1 hz hst
          have hg := Hg.out s.size q w (by omega) (by omega)
          rw [← hq.out, Nat.gcd_comm] at hst
          generalize Nat.gcd s.size q = r at hg hst
          replace hg := Lib.hid hg
          replace hst := Lib.hid hst
          go_wp2_with (go_at_call 20; refine hg.out.mono ?_; rintro e w' ⟨rfl, rfl⟩)
          go_round
          case rel => exact ⟨k + 1, by omega, by go_num, r, rfl, hst.out.symm⟩
          case measure => simp [intOf]; omega
        · obtain rfl : k = ss.length := by omega
          have HQ := Lib.hid hq.out
          go_wp2
          go_ret2
          exact ⟨by rw [← HQ.out]; rfl, Below.refl _ _⟩
    · have h1 : cdOk ss = false := by unfold cdOk; rw [decide_eq_false h0, Bool.and_false]
      rw [cdOf_no h1, h1]
      obtain rfl : ss = [] := List.eq_nil_of_length_eq_zero (by omega)
      clear h hs hq h1
      go_enter Tryd.func7, Tryd.ntmps7
      go_wp2_with (go_at_call 19; refine hc.out.mono ?_; rintro e w' ⟨rfl, rfl⟩)
      go_ret2
      exact ⟨rfl, Below.refl _ _⟩
set_option maxHeartbeats 1600000 in
theorem impl_CommonDivisor (A : Option Addr) (ss : List ByteArray) (c : Nat) (w : World) (h : Row w w.heap.size A (strs ss)) (hl : ss.length ≤ 9223372036854775807) (hs : ∀ s ∈ ss, s.size ≤ 9223372036854775807) :
    Calls Tryd.prog 9 #[.slice A ss.length c] w fun e w' => e = .returned (.tuple #[.int .i64 ((cdOf ss : Nat) : Int), .bool (cdOk ss)]) ∧ Below w.heap.size w w' := by
  have hc := impl_IsSet A ss c w h hl hs
  cases hq : W.isSet ss
  · have h1 : cdOk ss = false := by unfold cdOk; rw [hq]; rfl
    rw [cdOf_no h1, h1]
    rw [hq] at hc
    replace hc := Lib.hid hc
    clear h hs hq h1
    go_enter Tryd.func9, Tryd.ntmps9
    go_wp2_with (go_at_call 21; refine hc.out.mono ?_; rintro e w' ⟨rfl, hB⟩)
    go_ret2
    exact ⟨rfl, hB⟩
  · rw [hq] at hc
    replace hc := Lib.hid hc
    by_cases h0 : 0 < ss.length
    · have h1 : cdOk ss = true := by unfold cdOk; rw [hq, decide_eq_true h0]; rfl
      rw [cdOf_yes h1, h1]
      have Hle := Lib.hid (fun k hk => dvTo_le hq k hk)
      have Hsz := Lib.hid (fun k hk => W.short_size _ (W.isSet_short ss hq k hk))
      have Hst := Lib.hid (dvTo_succ ss)
      have Hg := Lib.hid (fun a b w h1 h2 => impl_divisorOf a b w h1 h2)
      have h0' : ((ss.length : Int) == 0) = false := beq_eq_false_iff_ne.2 (by omega)
      replace h := Lib.hid h
      clear hs hq h1
      go_enter Tryd.func9, Tryd.ntmps9
      go_wp2_with fail
      refine hc.out.mono ?_
      rintro e w1 ⟨rfl, hB⟩
      have HB := Lib.hid hB
      clear hB
      go_wp2_with fail
      go_loopw [4, 17] (fun g i wr => ∃ k : Nat, k ≤ ss.length ∧ i = .int .i64 k ∧ ∃ q : Nat, g = .int .i64 q ∧ Hid (q = dvTo ss k) ∧ Below w.heap.size w wr) (fun _ i _ => ss.length - (intOf i).toNat)
      case atStart => exact ⟨0, Nat.zero_le _, rfl, 0, rfl, rfl, HB.out⟩
      case round =>
        obtain ⟨k, hk, rfl, q, rfl, hq, hB⟩ := hrel
        have hO := Lib.hid hB
        clear hB
        have hq8 := Hle.out k hk
        rw [← hq.out] at hq8
        by_cases hlt : k < ss.length
        · obtain ⟨b, off, rfl, hb, hcc⟩ := h.out (by rw [strs_length]; omega)
          have hlt' : (k : Int) < (ss.length : Int) := by omega
          have c1 := (hO.out.cell (p := ⟨b, off + k, none⟩) hb).trans (hcc k _ (strs_nth ss k hlt))
          clear hcc
          have hz := (Hsz.out k hlt).2
          have hst := Hst.out k
          generalize W.nth ss k = s at c1 hz hst
          have hg := Hg.out q s.size wr (by omega) (by omega)
          rw [← hq.out] at hst
          generalize Nat.gcd q s.size = r at hg hst
          replace hg := Lib.hid hg
          replace hst := Lib.hid hst
          go_wp2_with fail
          refine hg.out.mono ?_
          rintro e w' ⟨rfl, n, rfl⟩
          have hF := Lib.hid (below_drewN hO.out n)
          generalize wr.drewN n = wz at hF ⊢
          go_wp2_with fail
          go_roundw
          case rel => exact ⟨k + 1, by omega, by go_num, r, rfl, hst.out.symm, hF.out⟩
          case measure => simp [intOf]; omega
        · obtain rfl : k = ss.length := by omega
          have HQ := Lib.hid hq.out
          go_wp2
          go_ret2
          exact ⟨by rw [← HQ.out]; rfl, hO.out⟩
    · have h1 : cdOk ss = false := by unfold cdOk; rw [decide_eq_false h0, Bool.and_false]
      rw [cdOf_no h1, h1]
      obtain rfl : ss = [] := List.eq_nil_of_length_eq_zero (by omega)
      clear h hs hq h1
      go_enter Tryd.func9, Tryd.ntmps9
      go_wp2_with (go_at_call 21; refine hc.out.mono ?_; rintro e w' ⟨rfl, hB⟩)
      go_ret2
      exact ⟨rfl, hB⟩
end Go.Proofs.YtdmbfmpagcjdpaaDoor
