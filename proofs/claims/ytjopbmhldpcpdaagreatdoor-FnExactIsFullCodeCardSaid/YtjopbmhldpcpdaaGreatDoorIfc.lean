/-
  WHAT THIS FILE PROVES: whether a set is a code whose weighted sum for equal weights is 1: the specification's and the program's functions give what the plain ones say; asked: slices in memory, lengths that an int holds.
-/
import Derived.Test.YtjopbmhldpcpdaaGreatDoorKrJ
import Derived.Test.YtjopbmhldpcpdaaGreatDoorKrE
import Derived.Test.YtjopbmhldpcpdaaGreatDoorIsCode
namespace Go.Proofs.YtjopbmhldpcpdaaGreatDoor
open Go.RowKit Go.Shelf

/-- what IsFullCode tells -/
noncomputable def ifOf (ss : List ByteArray) (L : Int) : Bool := W.krSet ss L && (isCd ss && (decide ((ksOf ss L).1 = 1) && decide ((ksOf ss L).2 = 1)))
theorem ifOf_no {ss : List ByteArray} {L : Int} (h : W.krSet ss L = false) : ifOf ss L = false := by unfold ifOf; rw [h]; rfl
theorem ifOf_yes {ss : List ByteArray} {L : Int} (h : W.krSet ss L = true) : ifOf ss L = (isCd ss && (decide ((ksOf ss L).1 = 1) && decide ((ksOf ss L).2 = 1))) := by unfold ifOf; rw [h]; rfl
set_option maxHeartbeats 1600000 in
theorem spec_IsFullCode (A : Option Addr) (ss : List ByteArray) (c : Nat) (L : Int) (w : World) (h : Row w w.heap.size A (strs ss)) (_ : ss.length ≤ c) (hl : ss.length ≤ 9223372036854775807) (hs : ∀ s ∈ ss, s.size ≤ 9223372036854775807) :
    Calls Tryz.prog 5 #[.slice A ss.length c, .int .i64 L] w fun e w' => e = .returned (.tuple #[.bool (ifOf ss L), .bool (W.krSet ss L)]) ∧ Below w.heap.size w w' := by
  have hk := Lib.hid (fun u => spec_krLetters L u)
  have hc := spec_krSet A ss c L w h hl hs
  cases h1 : W.krLet L
  · have hno : W.krSet ss L = false := krSet_no_let h1
    rw [ifOf_no hno, hno]
    have hk2 := hk.out
    rw [h1] at hk2
    replace hk2 := Lib.hid hk2
    clear hk hc h hs hno h1
    go_enter Tryz.func5, Tryz.ntmps5
    go_wp2_with (go_at_call 9; refine (hk2.out _).mono ?_; rintro e w' ⟨rfl, rfl⟩)
    go_ret2
    exact ⟨rfl, Below.refl _ _⟩
  · have hk2 := hk.out
    rw [h1] at hk2
    replace hk2 := Lib.hid hk2
    clear hk
    cases hq : W.krSet ss L
    · rw [ifOf_no hq]
      rw [hq] at hc
      replace hc := Lib.hid hc
      clear h hs hq h1
      go_enter Tryz.func5, Tryz.ntmps5
      go_wp2_with (first | (go_at_call 9; refine (hk2.out _).mono ?_; rintro e w' ⟨rfl, rfl⟩) | (go_at_call 10; refine hc.out.mono ?_; rintro e w' ⟨rfl, rfl⟩))
      go_ret2
      exact ⟨rfl, Below.refl _ _⟩
    · rw [ifOf_yes hq, ksOf_yes hq]
      rw [hq] at hc
      replace hc := Lib.hid hc
      have hset := W.krSet_set hq
      have h12 := W.isSet_len ss hset
      obtain ⟨m, rfl, hm2, hm3⟩ := let_nat (W.krSet_let hq)
      rw [Int.toNat_natCast]
      have hcd := spec_dcCode A ss c w h hset
      cases hd : isCd ss
      · rw [hd] at hcd
        replace hcd := Lib.hid hcd
        rw [Bool.false_and]
        clear h hs hq hset h1 hd
        go_enter Tryz.func5, Tryz.ntmps5
        go_wp2_with (first | (go_at_call 9; refine (hk2.out _).mono ?_; rintro e w' ⟨rfl, rfl⟩) | (go_at_call 10; refine hc.out.mono ?_; rintro e w' ⟨rfl, rfl⟩) | (go_at_call 11; refine hcd.out.mono ?_; rintro e w1 ⟨rfl, hB1⟩))
        go_ret2
        exact ⟨rfl, hB1⟩
      · rw [hd] at hcd
        replace hcd := Lib.hid hcd
        rw [Bool.true_and]
        have hle := fun (u : World) (g : Row u u.heap.size A (strs ss)) => spec_krLengths A ss c u g h12 (fun k hk => (W.short_size _ (W.isSet_short ss hset k hk)).2)
        have hsum := fun (A' : Option Addr) (c' : Nat) (u : World) (g : Row u u.heap.size A' (ints (W.lens ss))) => spec_krSum A' (W.lens ss) c' m u g (by rw [lens_len]; exact h12) (lens_all hset) hm2 hm3
        generalize W.lens ss = z at hle hsum ⊢
        unfold sumV at hsum
        generalize W.krSum m z = pq at hsum ⊢
        obtain ⟨p, q⟩ := pq
        dsimp only at hsum ⊢
        obtain ⟨R, hR⟩ : ∃ R, R = (decide (p = 1) && decide (q = 1)) := ⟨_, rfl⟩
        rw [← hR]
        replace hR := Lib.hid hR
        replace hle := Lib.hid hle
        replace hsum := Lib.hid hsum
        replace h := Lib.hid h
        clear hs hq hset h1 hd
        go_enter Tryz.func5, Tryz.ntmps5
        go_wp2_with (first | (go_at_call 9; refine (hk2.out _).mono ?_; rintro e w' ⟨rfl, rfl⟩) | (go_at_call 10; refine hc.out.mono ?_; rintro e w' ⟨rfl, rfl⟩))
        refine hcd.out.mono ?_
        rintro e w1 ⟨rfl, hB1⟩
        have H1 := Lib.hid hB1
        have hl1 := Lib.hid (hle.out w1 ((h.out.below hB1).more hB1.size))
        clear hB1
        go_wp2_with fail
        refine hl1.out.mono ?_
        rintro e w2 ⟨A', c', rfl, ho, hB2⟩
        have H2 := Lib.hid (H1.out.trans (hB2.mono H1.out.size))
        have hs1 := Lib.hid (hsum.out A' c' w2 (Row.of_own ho))
        clear ho hB2
        go_wp2_with fail
        refine hs1.out.mono ?_
        rintro e w3 ⟨rfl, hB3⟩
        have H3 := Lib.hid (H2.out.trans (hB3.mono H2.out.size))
        clear hB3
        by_cases e1 : p = 1
        · by_cases e2 : q = 1
          · have hr : R = true := by rw [hR.out, decide_eq_true e1, decide_eq_true e2]; rfl
            subst hr e1 e2
            go_wp2
            go_ret2
            exact ⟨rfl, H3.out⟩
          · have hr : R = false := by rw [hR.out, decide_eq_false e2, Bool.and_false]
            subst hr e1
            have f2 : ((q : Int) == 1) = false := beq_eq_false_iff_ne.2 (by omega)
            go_wp2
            go_ret2
            exact ⟨rfl, H3.out⟩
        · have hr : R = false := by rw [hR.out, decide_eq_false e1, Bool.false_and]
          subst hr
          have f1 : ((p : Int) == 1) = false := beq_eq_false_iff_ne.2 (by omega)
          go_wp2
          go_ret2
          exact ⟨rfl, H3.out⟩
set_option maxHeartbeats 1600000 in
theorem kraft_sum (A : Option Addr) (ss : List ByteArray) (c : Nat) (L : Int) (w : World) (h : Row w w.heap.size A (strs ss)) (hcap : ss.length ≤ c) (hl : ss.length ≤ 9223372036854775807) (hs : ∀ s ∈ ss, s.size ≤ 9223372036854775807) :
    Calls Tryz.prog 14 #[.slice A ss.length c, .int .i64 L] w fun e w' => e = .returned (.tuple #[ratV ((ksOf ss L).1 : Nat) ((ksOf ss L).2 : Nat), .bool (W.krSet ss L)]) ∧ Below w.heap.size w w' := by
  have hB := Lib.hid (resW_below w)
  have hc := sum_words A ss c L (resW w) ((h.below hB.out).more hB.out.size) hcap hl hs
  generalize W.krSet ss L = ok at hc ⊢
  generalize ksOf ss L = pq at hc ⊢
  obtain ⟨p, q⟩ := pq
  replace hc := Lib.hid hc
  clear h hs
  go_enter Tryz.func14, Tryz.ntmps14
  go_wp2_with fail
  refine hc.out.mono ?_
  rintro e w1 ⟨rfl, hB1⟩
  obtain ⟨c0, c1, f0, f1⟩ := res_cells hB1
  have hB2 := Lib.hid (hB.out.trans (hB1.mono hB.out.size))
  clear hB1
  go_wp2
  exact bodyPost_ret (v := .tuple #[ratV p q, .bool ok]) (by simp [results, Tryz.results14, go_sem, c0, c1]) rfl ⟨rfl, (hB2.out.setCell (Nat.le_refl _) _).setCell (Nat.le_refl _) _⟩
set_option maxHeartbeats 1600000 in
theorem impl_IsFullCode (A : Option Addr) (ss : List ByteArray) (c : Nat) (L : Int) (w : World) (h : Row w w.heap.size A (strs ss)) (hcap : ss.length ≤ c) (hl : ss.length ≤ 9223372036854775807) (hs : ∀ s ∈ ss, s.size ≤ 9223372036854775807) :
    Calls Tryz.prog 7 #[.slice A ss.length c, .int .i64 L] w fun e w' => e = .returned (.tuple #[.bool (ifOf ss L), .bool (W.krSet ss L)]) ∧ Below w.heap.size w w' := by
  have hc := kraft_sum A ss c L w h hcap hl hs
  cases hq : W.krSet ss L
  · rw [ifOf_no hq]
    rw [hq] at hc
    generalize ksOf ss L = pq at hc
    obtain ⟨p, q⟩ := pq
    replace hc := Lib.hid hc
    clear h hs hq
    go_enter Tryz.func7, Tryz.ntmps7
    go_wp2_with fail
    refine hc.out.mono ?_
    rintro e w1 ⟨rfl, hB1⟩
    have H1 := Lib.hid (hB1.alloc hB1.size (.cells #[.int .i64 (p : Int), .int .i64 (q : Int)] 32))
    clear hB1
    go_wp2
    go_ret2
    exact ⟨rfl, H1.out⟩
  · rw [ifOf_yes hq]
    rw [hq] at hc
    have hset := W.krSet_set hq
    have hic := fun (u : World) (hu : Row u u.heap.size A (strs ss)) => impl_isCode A ss c u hu hset
    generalize isCd ss = r at hic ⊢
    generalize ksOf ss L = pq at hc ⊢
    obtain ⟨p, q⟩ := pq
    dsimp only at hc ⊢
    obtain ⟨R, hR⟩ : ∃ R, R = (r && (decide (p = 1) && decide (q = 1))) := ⟨_, rfl⟩
    rw [← hR]
    replace hR := Lib.hid hR
    replace hc := Lib.hid hc
    replace hic := Lib.hid hic
    replace h := Lib.hid h
    clear hs hq hset
    go_enter Tryz.func7, Tryz.ntmps7
    go_wp2_with fail
    refine hc.out.mono ?_
    rintro e w1 ⟨rfl, hB1⟩
    have H1 := Lib.hid (hB1.alloc hB1.size (.cells #[.int .i64 (p : Int), .int .i64 (q : Int)] 32))
    clear hB1
    by_cases e1 : p = 1
    · by_cases e2 : q = 1
      · have hr : R = r := by rw [hR.out, decide_eq_true e1, decide_eq_true e2, Bool.true_and, Bool.and_true]
        subst hr e1 e2
        have hi1 := Lib.hid (hic.out _ ((h.out.below H1.out).more H1.out.size))
        go_wp2_with fail
        refine hi1.out.mono ?_
        rintro e w2 ⟨rfl, hB2⟩
        have H2 := Lib.hid (H1.out.trans (hB2.mono H1.out.size))
        clear hB2
        go_wp2
        go_ret2
        exact ⟨rfl, H2.out⟩
      · have hr : R = false := by rw [hR.out, decide_eq_false e2, Bool.and_false, Bool.and_false]
        subst hr e1
        have f2 : ((q : Int) == 1) = false := beq_eq_false_iff_ne.2 (by omega)
        go_wp2
        go_ret2
        exact ⟨rfl, H1.out⟩
    · have hr : R = false := by rw [hR.out, decide_eq_false e1, Bool.false_and, Bool.and_false]
      subst hr
      have f1 : ((p : Int) == 1) = false := beq_eq_false_iff_ne.2 (by omega)
      go_wp2
      go_ret2
      exact ⟨rfl, H1.out⟩
end Go.Proofs.YtjopbmhldpcpdaaGreatDoor
