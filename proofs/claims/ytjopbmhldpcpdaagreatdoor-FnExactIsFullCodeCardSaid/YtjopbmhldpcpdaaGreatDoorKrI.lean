/-
  WHAT THIS FILE PROVES: the program's tests of lengths: they give what the plain ones say; asked: slices in memory, lengths that an int holds.
-/
import Derived.Test.YtjopbmhldpcpdaaGreatDoorArith
import Derived.Test.YtjopbmhldpcpdaaGreatDoorIn
import Derived.Test.YtjopbmhldpcpdaaGreatDoorShelf
import Derived.OwnWalk
namespace Go.Proofs.YtjopbmhldpcpdaaGreatDoor
open Go.RowKit Go.Shelf

theorem impl_areLetters (L : Int) (w : World) :
    Calls Tryz.prog 41 #[.int .i64 L] w fun e w' => e = .returned (.bool (W.krLet L)) ∧ w = w' := by
  unfold W.krLet
  by_cases h1 : 2 ≤ L
  · by_cases h2 : L ≤ 3
    · rw [decide_eq_true ⟨h1, h2⟩]
      go_enter Tryz.func41, Tryz.ntmps41
      go_wp2
      go_ret
      exact ⟨rfl, rfl⟩
    · rw [decide_eq_false (fun h => h2 h.2)]
      go_enter Tryz.func41, Tryz.ntmps41
      go_wp2
      go_ret
      exact ⟨rfl, rfl⟩
  · rw [decide_eq_false (fun h => h1 h.1)]
    go_enter Tryz.func41, Tryz.ntmps41
    go_wp2
    go_ret
    exact ⟨rfl, rfl⟩
theorem impl_isLength (l : Int) (w : World) :
    Calls Tryz.prog 55 #[.int .i64 l] w fun e w' => e = .returned (.bool (inR 1 8 l)) ∧ w = w' := by
  unfold inR
  by_cases h1 : 1 ≤ l
  · by_cases h2 : l ≤ 8
    · rw [decide_eq_true ⟨h1, h2⟩]
      go_enter Tryz.func55, Tryz.ntmps55
      go_wp2
      go_ret
      exact ⟨rfl, rfl⟩
    · rw [decide_eq_false (fun h => h2 h.2)]
      go_enter Tryz.func55, Tryz.ntmps55
      go_wp2
      go_ret
      exact ⟨rfl, rfl⟩
  · rw [decide_eq_false (fun h => h1 h.1)]
    go_enter Tryz.func55, Tryz.ntmps55
    go_wp2
    go_ret
    exact ⟨rfl, rfl⟩
theorem impl_areLengths1 (l : Int) (w : World) :
    Calls Tryz.prog 54 #[.int .i64 l] w fun e w' => e = .returned (.bool (!inR 1 8 l)) ∧ w = w' := by
  have hc := impl_isLength l w
  cases hq : inR 1 8 l
  all_goals
    rw [hq] at hc
    replace hc := Lib.hid hc
    clear hq
    go_enter Tryz.func54, Tryz.ntmps54
    go_wp2_with (go_at_call 55; refine hc.out.mono ?_; rintro e w' ⟨rfl, rfl⟩)
    go_ret
    exact ⟨rfl, rfl⟩
/-- an index is found just if some number is no length -/
def FoundLen (z : List Int) (w : World) (e : Ending) (w' : World) : Prop := ∃ r : Int, e = .returned (.int .i64 r) ∧ decide (0 ≤ r) = !(z.all (inR 1 8)) ∧ w = w'
set_option maxHeartbeats 800000 in
theorem index_len (A : Option Addr) (z : List Int) (c : Nat) (w : World) (h : Row w w.heap.size A (ints z)) (hl : z.length ≤ 1099511627776) :
    Calls Tryz.prog 72 #[.slice A z.length c, .func (.func 54) #[] #[]] w (FoundLen z w) := by
  have hq := Lib.hid (fun l => impl_areLengths1 l w)
  have hf := Lib.hid (show ∀ k (hk : k < z.length), inR 1 8 z[k] = false → z.all (inR 1 8) = false from fun k hk e => by
    rw [List.all_eq_false]
    exact ⟨z[k], List.getElem_mem hk, by rw [e]; simp⟩)
  have hs := Lib.hid (show ∀ k (hk : k < z.length), (z.take (k + 1)).all (inR 1 8) = ((z.take k).all (inR 1 8) && inR 1 8 z[k]) from fun k hk => by
    rw [List.take_succ_eq_append_getElem hk, List.all_append]
    simp)
  have hall := Lib.hid (show (z.take z.length).all (inR 1 8) = z.all (inR 1 8) by rw [List.take_length])
  replace h := Lib.hid h
  go_enter Tryz.func72, Tryz.ntmps72
  go_wp2
  go_loop [8] (fun i => ∃ k : Nat, k ≤ z.length ∧ i = .int .i64 k ∧ Hid ((z.take k).all (inR 1 8) = true)) (fun i => z.length - (intOf i).toNat)
  case atStart => exact ⟨0, Nat.zero_le _, rfl, rfl⟩
  case round =>
    obtain ⟨k, hk, rfl, hT⟩ := hrel
    by_cases hlt : k < z.length
    · obtain ⟨b, off, rfl, hb, hcc⟩ := Row.int_at h.out (by omega)
      have hlt' : (k : Int) < (z.length : Int) := by omega
      have c1 := hcc k hlt
      clear hcc
      have hf1 := Lib.hid (hf.out k hlt)
      have hs1 := Lib.hid (hs.out k hlt)
      generalize z[k] = l at c1 hf1 hs1
      have hq1 := hq.out l
      cases hd : inR 1 8 l
      · rw [hd] at hq1
        replace hq1 := Lib.hid hq1
        have ha := Lib.hid (hf1.out hd)
        clear hd hs1 hf1
        go_wp2_with (go_at_call 54; refine hq1.out.mono ?_; rintro e w' ⟨rfl, rfl⟩)
        go_ret
        exact ⟨k, rfl, by rw [ha.out]; simp, rfl⟩
      · rw [hd] at hq1
        replace hq1 := Lib.hid hq1
        have hT2 : Hid ((z.take (k + 1)).all (inR 1 8) = true) := by show _ = _; rw [hs1.out, hT.out, hd]; rfl
        clear hd hs1 hf1
        go_wp2_with (go_at_call 54; refine hq1.out.mono ?_; rintro e w' ⟨rfl, rfl⟩)
        go_round
        case rel => exact ⟨k + 1, by omega, by go_num, hT2⟩
        case measure => simp [intOf]; omega
    · obtain rfl : k = z.length := by omega
      have ha := Lib.hid (hall.out.symm.trans hT.out)
      go_wp2
      go_ret
      exact ⟨-1, rfl, by rw [ha.out]; rfl, rfl⟩
theorem contains_len (A : Option Addr) (z : List Int) (c : Nat) (w : World) (h : Row w w.heap.size A (ints z)) (hl : z.length ≤ 1099511627776) :
    Calls Tryz.prog 53 #[.slice A z.length c, .func (.func 54) #[] #[]] w fun e w' => e = .returned (.bool (!(z.all (inR 1 8)))) ∧ w = w' := by
  have hq := Lib.hid (index_len A z c w h hl)
  generalize hd : (!(z.all (inR 1 8))) = r at ⊢
  replace hd := Lib.hid hd
  clear h
  go_enter Tryz.func53, Tryz.ntmps53
  go_wp2_with fail
  refine hq.out.mono ?_
  rintro e w' ⟨x, rfl, hx, rfl⟩
  rw [hd.out] at hx
  subst hx
  go_wp2
  go_ret
  exact ⟨rfl, rfl⟩
theorem upTo_of {z : List Int} (h : ∀ j, 0 < j → j < z.length → ¬ z.getD j 0 < z.getD (j - 1) 0) : W.upTo z z.length = true := by
  unfold W.upTo
  rw [List.all_eq_true]
  intro j hj
  have hj : j < z.length := by simpa using hj
  by_cases h0 : j = 0
  · rw [decide_eq_true h0]; rfl
  · rw [decide_eq_false h0, decide_eq_false (h j (by omega) hj)]; rfl
theorem upTo_bad {z : List Int} (j : Nat) (h0 : 0 < j) (hj : j < z.length) (h : z.getD j 0 < z.getD (j - 1) 0) : W.upTo z z.length = false := by
  unfold W.upTo
  rw [List.all_eq_false]
  exact ⟨j, by simpa using hj, by rw [decide_eq_false (by omega), decide_eq_true h]; simp⟩
set_option maxHeartbeats 800000 in
theorem isSorted_int (A : Option Addr) (z : List Int) (c : Nat) (w : World) (h : Row w w.heap.size A (ints z)) (hl : z.length ≤ 1099511627776) :
    Calls Tryz.prog 56 #[.slice A z.length c] w fun e w' => e = .returned (.bool (W.upTo z z.length)) ∧ ∃ n, w' = w.drewN n := by
  have Hbad := Lib.hid (fun j h0 hj h => upTo_bad (z := z) j h0 hj h)
  have Hof := Lib.hid (show (∀ j, 0 < j → j < z.length → z.getD (j - 1) 0 ≤ z.getD j 0) → W.upTo z z.length = true from fun h => upTo_of (fun j h1 h2 => by have := h j h1 h2; omega))
  generalize W.upTo z z.length = r at Hbad Hof ⊢
  replace h := Lib.hid h
  by_cases h0 : z.length = 0
  · have hr := Hof.out (fun j _ hj => by omega)
    subst hr
    obtain rfl := List.eq_nil_of_length_eq_zero h0
    clear h0
    go_enter Tryz.func56, Tryz.ntmps56
    go_wp2
    refine wp_loop_rounds 1 ?_
    rw [rounds_succ]
    go_wp2
    go_ret
    exact ⟨rfl, 0, rfl⟩
  · have h1 : (1 : Int) ≤ (z.length : Int) := by omega
    go_enter Tryz.func56, Tryz.ntmps56
    go_wp2
    go_loopw [3] (fun i wr => ∃ k : Nat, k < z.length ∧ i = .int .i64 (k : Int) ∧ Hid (∀ j, k < j → j < z.length → z.getD (j - 1) 0 ≤ z.getD j 0) ∧ ∃ n, wr = w.drewN n) (fun i _ => (intOf i).toNat)
    case atStart => exact ⟨z.length - 1, by omega, by rw [show ((z.length - 1 : Nat) : Int) = (z.length : Int) - 1 by omega], fun j hj1 hj2 => by omega, 0, rfl⟩
    case round =>
      obtain ⟨k, hk, rfl, hT, n, hwn⟩ := hrel
      replace hwn := Lib.hid hwn
      by_cases hlt : 0 < k
      · obtain ⟨b, off, rfl, hb, hcc⟩ := Row.int_at h.out (by omega)
        have hlt' : (0 : Int) < (k : Int) := by omega
        have hk' : (k : Int) < (z.length : Int) := by omega
        have hk0 : ((k : Int) - 1).toNat = k - 1 := by omega
        have hk2 : (0 : Int) ≤ (k : Int) - 1 := by omega
        have hk3 : (k : Int) - 1 < (z.length : Int) := by omega
        have hk4 : (1 : Int) ≤ (k : Int) := by omega
        have hBw := below_drewN (Below.refl w.heap.size w) n
        rw [← hwn.out] at hBw
        have c1 := (hBw.cell (p := ⟨b, off + k, none⟩) hb).trans (hcc k hk)
        have c2 := (hBw.cell (p := ⟨b, off + (k - 1), none⟩) hb).trans (hcc (k - 1) (by omega))
        clear hcc hBw
        have e1 : z[k] = z.getD k 0 := by rw [List.getD_eq_getElem?_getD, List.getElem?_eq_getElem hk]; rfl
        have e2 : z[k - 1]'(by omega) = z.getD (k - 1) 0 := by rw [List.getD_eq_getElem?_getD, List.getElem?_eq_getElem (by omega)]; rfl
        rw [e1] at c1
        rw [e2] at c2
        clear e1 e2
        have hb2 := Lib.hid (Hbad.out k hlt hk)
        have hT2 := Lib.hid (fun (hn : z.getD (k - 1) 0 ≤ z.getD k 0) => show ∀ j, k - 1 < j → j < z.length → z.getD (j - 1) 0 ≤ z.getD j 0 from fun j hj1 hj2 => by
          by_cases he : j = k
          · subst he; exact hn
          · exact hT.out j (by omega) hj2)
        generalize z.getD k 0 = x at c1 hb2 hT2
        generalize z.getD (k - 1) 0 = y at c2 hb2 hT2
        have hls := fun w => Tryz.cmp_Less_int2 x y w
        have hwr : IntKind.i64.wrap ((k : Int) - 1) = (k : Int) - 1 := IntWalk.i64_in _ (by omega)
        by_cases hxy : x < y
        · have hr := hb2.out hxy
          subst hr
          rw [decide_eq_true hxy] at hls
          replace hls := Lib.hid hls
          clear hb2 hT2
          go_wp2
          go_quiet ((go_at_call 73; exact Calls.quiet_of_same (hls.out _)))
          go_wp2
          go_ret
          exact ⟨rfl, n + nq, by rw [hwn.out, World.drewN_drewN]⟩
        · have hT3 := Lib.hid (hT2.out (by omega))
          rw [decide_eq_false hxy] at hls
          replace hls := Lib.hid hls
          clear hb2 hT2
          go_wp2
          go_quiet ((go_at_call 73; exact Calls.quiet_of_same (hls.out _)))
          go_wp2
          go_roundw
          case rel => exact ⟨k - 1, by omega, by rw [show ((k - 1 : Nat) : Int) = (k : Int) - 1 by omega], hT3.out, n + nq, by rw [hwn.out, World.drewN_drewN]⟩
          case measure => simp [intOf]; omega
      · obtain rfl : k = 0 := by omega
        have hr := Hof.out hT.out
        subst hr
        go_wp2
        go_ret
        exact ⟨rfl, n, hwn.out⟩
/-- lengths, whatever the letters -/
def lensOk (z : List Int) : Bool := decide (z.length ≤ 12) && (W.lenAll z && W.upTo z z.length)
theorem krList_def (z : List Int) (L : Int) : W.krList z L = (W.krLet L && lensOk z) := rfl
set_option maxHeartbeats 800000 in
theorem impl_areLengths (A : Option Addr) (z : List Int) (c : Nat) (w : World) (h : Row w w.heap.size A (ints z)) (hl : z.length ≤ 1099511627776) :
    Calls Tryz.prog 42 #[.slice A z.length c] w fun e w' => e = .returned (.bool (lensOk z)) ∧ ∃ n, w' = w.drewN n := by
  have hc := contains_len A z c w h hl
  have hs := isSorted_int A z c w h hl
  unfold lensOk
  rw [show z.all (inR 1 8) = W.lenAll z from rfl] at hc
  by_cases h12 : z.length ≤ 12
  · have h12' : (z.length : Int) ≤ 12 := by omega
    rw [decide_eq_true h12, Bool.true_and]
    cases hq : W.lenAll z
    · rw [hq] at hc
      replace hc := Lib.hid hc
      rw [Bool.false_and]
      clear hq hs h
      go_enter Tryz.func42, Tryz.ntmps42
      go_wp2_with (go_at_call 53; refine hc.out.mono ?_; rintro e w' ⟨rfl, rfl⟩)
      go_ret
      exact ⟨rfl, 0, rfl⟩
    · rw [hq] at hc
      replace hc := Lib.hid hc
      rw [Bool.true_and]
      generalize W.upTo z z.length = r at hs ⊢
      replace hs := Lib.hid hs
      clear hq h
      go_enter Tryz.func42, Tryz.ntmps42
      go_wp2_with (first | (go_at_call 53; refine hc.out.mono ?_; rintro e w' ⟨rfl, rfl⟩) | (go_at_call 56; refine hs.out.mono ?_; rintro e w' ⟨rfl, n, rfl⟩))
      go_ret
      exact ⟨rfl, n, rfl⟩
  · have h12' : ¬ (z.length : Int) ≤ 12 := by omega
    rw [decide_eq_false h12, Bool.false_and]
    generalize (!W.lenAll z) = q at hc
    replace hc := Lib.hid hc
    clear hs h
    go_enter Tryz.func42, Tryz.ntmps42
    go_wp2_with (go_at_call 53; refine hc.out.mono ?_; rintro e w' ⟨rfl, rfl⟩)
    go_ret
    exact ⟨rfl, 0, rfl⟩
end Go.Proofs.YtjopbmhldpcpdaaGreatDoor
