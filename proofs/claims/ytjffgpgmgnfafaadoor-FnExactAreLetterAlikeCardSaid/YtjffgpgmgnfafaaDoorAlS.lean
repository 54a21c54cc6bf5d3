/-
  WHAT THIS FILE PROVES: whether two sets have the same counts, each as often: the specification tells it; asked: slices in memory, lengths that an int holds.
-/
import Derived.Test.YtjffgpgmgnfafaaDoorLcS
import Derived.Test.YtjffgpgmgnfafaaDoorSl
import Derived.Test.YtjffgpgmgnfafaaDoorIn
import Derived.BigQuiet
namespace Go.Proofs.YtjffgpgmgnfafaaDoor
open Go.RowKit Go.Shelf

/-- how often numbers are counts of words -/
def cnL (x : List Int) (L : List ByteArray) : Nat := (L.map ltN).count x
def alB (a b : List ByteArray) : Bool := decide (a.length = b.length) && a.all fun s => decide (cnL (ltN s) a = cnL (ltN s) b)
def alOk (a b : List ByteArray) : Bool := W.isSet a && W.isSet b
def alOf (a b : List ByteArray) : Bool := alOk a b && alB a b
theorem alOf_no {a b : List ByteArray} (h : alOk a b = false) : alOf a b = false := by unfold alOf; rw [h]; rfl
theorem alOf_yes {a b : List ByteArray} (h : alOk a b = true) : alOf a b = alB a b := by unfold alOf; rw [h]; rfl
/-- the first k words of both -/
def dif (a b : List ByteArray) (x : List Int) (k : Nat) : Int := (cnL x (a.take k) : Int) - (cnL x (b.take k) : Int)
theorem cnL_succ (x : List Int) (L : List ByteArray) (k : Nat) (h : k < L.length) : cnL x (L.take (k + 1)) = cnL x (L.take k) + (if ltN (W.nth L k) = x then 1 else 0) := by
  unfold cnL
  rw [List.take_succ_eq_append_getElem h, List.map_append, List.count_append, W.nth_lt L k h]
  by_cases e : ltN L[k] = x
  · rw [if_pos e]; simp [e]
  · rw [if_neg e]; simp [e]
theorem cnL_le (x : List Int) (L : List ByteArray) (k : Nat) : cnL x (L.take k) ≤ k := by
  unfold cnL
  refine Nat.le_trans List.count_le_length ?_
  rw [List.length_map, List.length_take]
  omega
theorem dif_zero (a b : List ByteArray) (x : List Int) : dif a b x 0 = 0 := rfl
theorem dif_succ (a b : List ByteArray) (x : List Int) (k : Nat) (ha : k < a.length) (hb : k < b.length) : dif a b x (k + 1) = dif a b x k + (if ltN (W.nth a k) = x then 1 else 0) - (if ltN (W.nth b k) = x then 1 else 0) := by
  unfold dif
  rw [cnL_succ x a k ha, cnL_succ x b k hb]
  by_cases e1 : ltN (W.nth a k) = x <;> by_cases e2 : ltN (W.nth b k) = x <;> simp only [e1, e2, if_true, if_false] <;> omega
theorem dif_le (a b : List ByteArray) (x : List Int) (k : Nat) : -(k : Int) ≤ dif a b x k ∧ dif a b x k ≤ k := by
  have h1 := cnL_le x a k
  have h2 := cnL_le x b k
  unfold dif
  omega
theorem dif_all (a b : List ByteArray) (x : List Int) (h : a.length = b.length) : dif a b x a.length = (cnL x a : Int) - (cnL x b : Int) := by
  unfold dif
  rw [List.take_length]
  rw [h, List.take_length]
set_option maxHeartbeats 1600000 in
theorem spec_l1Same (A : Option Addr) (xs : List Int) (c : Nat) (B : Option Addr) (ys : List Int) (d : Nat) (w : World) (h : Row w w.heap.size A (ints xs)) (g : Row w w.heap.size B (ints ys)) (hx : xs.length = 3) (hy : ys.length = 3) :
    Calls Tryd.prog 15 #[.slice A 3 c, .slice B 3 d] w fun e w' => e = .returned (.bool (decide (xs = ys))) ∧ ∃ n, w' = w.drewN n := by
  obtain ⟨r, hr⟩ : ∃ r, r = decide (xs = ys) := ⟨_, rfl⟩
  rw [← hr]
  have Hno := Lib.hid (show ∀ k (h1 : k < xs.length) (h2 : k < ys.length), xs[k] ≠ ys[k] → r = false from fun k h1 h2 hne => by
    rw [hr, decide_eq_false_iff_not]
    intro e
    subst e
    exact hne rfl)
  have Hyes := Lib.hid (show xs.take 3 = ys.take 3 → r = true from fun e => by
    rw [List.take_of_length_le (by omega), List.take_of_length_le (by omega)] at e
    rw [hr, decide_eq_true_eq]
    exact e)
  have Hst := Lib.hid (show ∀ k (h1 : k < xs.length) (h2 : k < ys.length), xs.take k = ys.take k → xs[k] = ys[k] → xs.take (k + 1) = ys.take (k + 1) from fun k h1 h2 e1 e2 => by
    rw [List.take_succ_eq_append_getElem h1, List.take_succ_eq_append_getElem h2, e1, e2])
  obtain ⟨b1, o1, rfl, hb1, hc1⟩ := Row.int_at h (by omega)
  obtain ⟨b2, o2, rfl, hb2, hc2⟩ := Row.int_at g (by omega)
  replace hc1 := Lib.hid hc1
  replace hc2 := Lib.hid hc2
  replace hx := Lib.hid hx
  replace hy := Lib.hid hy
  clear hr h g
  go_enter Tryd.func15, Tryd.ntmps15
  go_wp2
  go_loopw [13] (fun i wr => ∃ k : Nat, k ≤ 3 ∧ i = .int .i64 k ∧ Hid (xs.take k = ys.take k) ∧ ∃ n, wr = w.drewN n) (fun i _ => 3 - (intOf i).toNat)
  case atStart => exact ⟨0, by omega, rfl, rfl, 0, rfl⟩
  case round =>
    obtain ⟨k, hk, rfl, hT, n, rfl⟩ := hrel
    by_cases hlt : k < 3
    · have hlt' : (k : Int) < 3 := by omega
      have h1 : k < xs.length := by have := hx.out; omega
      have h2 : k < ys.length := by have := hy.out; omega
      have c1 := hc1.out k h1
      have c2 := hc2.out k h2
      have hno := Hno.out k h1 h2
      have hst := Hst.out k h1 h2 hT.out
      generalize xs[k] = x at c1 hno hst
      generalize ys[k] = y at c2 hno hst
      by_cases e : x = y
      · have hN := Lib.hid (hst e)
        subst e
        have hne : ((x : Int) != x) = false := by simp
        clear hno hst h1 h2
        go_wp2
        go_quiet (fail)
        go_wp2
        go_roundw
        case rel => exact ⟨k + 1, by omega, by go_num, hN, n + nq, by first | rfl | (rw [World.drewN_drewN])⟩
        case measure => simp [intOf]; omega
      · have hr := hno e
        subst hr
        have hne : (x != y) = true := by simp [e]
        clear hno hst h1 h2
        go_wp2
        go_quiet (fail)
        go_wp2
        go_ret
        exact ⟨rfl, n + nq, by first | rfl | (rw [World.drewN_drewN])⟩
    · obtain rfl : k = 3 := by omega
      have hr := Hyes.out hT.out
      subst hr
      go_wp2
      go_ret
      exact ⟨rfl, n, rfl⟩
theorem alB_len {a b : List ByteArray} (h : a.length ≠ b.length) : alB a b = false := by unfold alB; rw [decide_eq_false h]; rfl
theorem alB_at {a b : List ByteArray} (hl : a.length = b.length) (i : Nat) (hi : i < a.length) (h : dif a b (ltN (W.nth a i)) a.length ≠ 0) : alB a b = false := by
  unfold alB
  rw [decide_eq_true hl, Bool.true_and, List.all_eq_false]
  rw [W.nth_lt a i hi, dif_all _ _ _ hl] at h
  exact ⟨a[i], List.getElem_mem hi, by rw [decide_eq_true_eq]; omega⟩
theorem alB_all {a b : List ByteArray} (hl : a.length = b.length) (h : ∀ i, i < a.length → dif a b (ltN (W.nth a i)) a.length = 0) : alB a b = true := by
  unfold alB
  rw [decide_eq_true hl, Bool.true_and, List.all_eq_true]
  intro x hx
  obtain ⟨i, hi, rfl⟩ := List.getElem_of_mem hx
  have := h i hi
  rw [W.nth_lt a i hi, dif_all _ _ _ hl] at this
  rw [decide_eq_true_eq]
  omega
set_option maxHeartbeats 6400000 in
theorem spec_AreLetterAlike (A : Option Addr) (a : List ByteArray) (c : Nat) (B : Option Addr) (b : List ByteArray) (d : Nat) (w : World) (h : Row w w.heap.size A (strs a)) (hl : a.length ≤ 9223372036854775807) (hs : ∀ s ∈ a, s.size ≤ 9223372036854775807) (h' : Row w w.heap.size B (strs b)) (hl' : b.length ≤ 9223372036854775807) (hs' : ∀ s ∈ b, s.size ≤ 9223372036854775807) :
    Calls Tryd.prog 6 #[.slice A a.length c, .slice B b.length d] w fun e w' => e = .returned (.tuple #[.bool (alOf a b), .bool (alOk a b)]) ∧ Below w.heap.size w w' := by
  have hc := spec_wdSet A a c w h hl hs
  have hc' := spec_wdSet B b d w h' hl' hs'
  cases h1 : W.isSet a
  · have hno : alOk a b = false := by unfold alOk; rw [h1]; rfl
    rw [alOf_no hno, hno]
    rw [h1] at hc
    replace hc := Lib.hid hc
    clear hno h1 h hs h' hs' hc'
    go_enter Tryd.func6, Tryd.ntmps6
    go_wp2_with (go_at_call 14; refine hc.out.mono ?_; rintro e w' ⟨rfl, rfl⟩)
    go_ret2
    exact ⟨rfl, Below.refl _ _⟩
  · rw [h1] at hc
    replace hc := Lib.hid hc
    cases h2 : W.isSet b
    · have hno : alOk a b = false := by unfold alOk; rw [h2]; simp
      rw [alOf_no hno, hno]
      rw [h2] at hc'
      replace hc' := Lib.hid hc'
      clear hno h1 h2 h hs h' hs'
      go_enter Tryd.func6, Tryd.ntmps6
      go_wp2_with fail
      refine hc.out.mono ?_
      rintro e w' ⟨rfl, rfl⟩
      go_wp2_with fail
      refine hc'.out.mono ?_
      rintro e w' ⟨rfl, rfl⟩
      go_wp2
      go_ret2
      exact ⟨rfl, Below.refl _ _⟩
    · rw [h2] at hc'
      replace hc' := Lib.hid hc'
      have hyes : alOk a b = true := by unfold alOk; rw [h1, h2]; rfl
      rw [alOf_yes hyes, hyes]
      have h12 := W.isSet_len a h1
      have h12b := W.isSet_len b h2
      by_cases hab : a.length = b.length
      · have hneq : ((a.length : Int) != (b.length : Int)) = false := by simp; omega
        obtain ⟨R, hR⟩ : ∃ R, R = alB a b := ⟨_, rfl⟩
        rw [← hR]
        have Hno := Lib.hid (fun i (hi : i < a.length) (hd : dif a b (ltN (W.nth a i)) a.length ≠ 0) => hR.trans (alB_at hab i hi hd))
        have Hyes := Lib.hid (fun hd => hR.trans (alB_all hab hd))
        have Hds := Lib.hid (fun x k (hk : k < a.length) => dif_succ a b x k hk (by omega))
        have Hdl := Lib.hid (fun x k => dif_le a b x k)
        have Hla := Lib.hid (fun k (hk : k < a.length) (u : World) => spec_letters (W.nth a k) u (by have := (set_good h1 k hk).2; omega) (set_good h1 k hk).1)
        have Hlb := Lib.hid (fun k (hk : k < a.length) (u : World) => spec_letters (W.nth b k) u (by have := (set_good h2 k (by omega)).2; omega) (set_good h2 k (by omega)).1)
        have Hsame := Lib.hid (fun (A' : Option Addr) (xs : List Int) (c' : Nat) (B' : Option Addr) (ys : List Int) (d' : Nat) (u : World) => spec_l1Same A' xs c' B' ys d' u)
        replace hab := Lib.hid hab
        replace h := Lib.hid h
        replace h' := Lib.hid h'
        clear hyes hR hs hs' h1 h2
        go_enter Tryd.func6, Tryd.ntmps6
        go_wp2_with fail
        refine hc.out.mono ?_
        rintro e w' ⟨rfl, rfl⟩
        go_wp2_with fail
        refine hc'.out.mono ?_
        rintro e w' ⟨rfl, rfl⟩
        go_wp2
        go_loopw [25] (fun iv wr => ∃ i : Nat, i ≤ a.length ∧ iv = .int .i64 i ∧ Hid (∀ j, j < i → dif a b (ltN (W.nth a j)) a.length = 0) ∧ Below w.heap.size w wr) (fun iv _ => a.length - (intOf iv).toNat)
        case atStart => exact ⟨0, Nat.zero_le _, rfl, (fun j hj => by omega), Below.refl _ _⟩
        case round =>
          obtain ⟨i, hi, rfl, hT, hB⟩ := hrel
          replace hB := Lib.hid hB
          generalize wr = wa at *
          by_cases hlt : i < a.length
          · obtain ⟨b1, o1, rfl, hb1, hcc⟩ := h.out (by rw [strs_length]; omega)
            obtain ⟨b2, o2, rfl, hb2, hcc2⟩ := h'.out (by rw [strs_length]; have := hab.out; omega)
            have hlt' : (i : Int) < (a.length : Int) := by omega
            have c1 := (hB.out.cell (p := ⟨b1, o1 + i, none⟩) hb1).trans (hcc i _ (strs_nth a i hlt))
            have HA := Lib.hid (fun k (hk : k < a.length) => hcc k _ (strs_nth a k hk))
            have HB := Lib.hid (fun k (hk : k < a.length) => hcc2 k _ (strs_nth b k (by have := hab.out; omega)))
            have hli := Lib.hid (Hla.out i hlt)
            have hni := Hno.out i hlt
            obtain ⟨X, hX⟩ : ∃ X, X = ltN (W.nth a i) := ⟨_, rfl⟩
            have hX3 : X.length = 3 := by rw [hX]; rfl
            rw [← hX] at hli hni
            replace hni := Lib.hid hni
            replace hX := Lib.hid hX
            replace hX3 := Lib.hid hX3
            obtain ⟨s, hs0⟩ : ∃ s, s = W.nth a i := ⟨_, rfl⟩
            rw [← hs0] at c1 hli
            clear hcc hcc2 hs0
            go_wp2
            go_loopw [8, 31] (fun dv kv wr => ∃ (k : Nat) (q : Int), k ≤ a.length ∧ kv = .int .i64 k ∧ dv = .int .i64 q ∧ Hid (q = dif a b X k) ∧ Below w.heap.size w wr) (fun _ kv _ => a.length - (intOf kv).toNat)
            case atStart => exact ⟨0, 0, Nat.zero_le _, rfl, rfl, rfl, hB.out⟩
            case round =>
              obtain ⟨k, q, hk, rfl, rfl, hq, hB1⟩ := hrel
              replace hB1 := Lib.hid hB1
              generalize wr = wb at *
              by_cases hltk : k < a.length
              · have hltk' : (k : Int) < (a.length : Int) := by omega
                have hltkb : (k : Int) < (b.length : Int) := by have := hab.out; omega
                have c2 := (hB1.out.cell (p := ⟨b1, o1 + k, none⟩) hb1).trans (HA.out k hltk)
                have hl1 := Lib.hid (Hla.out k hltk wb)
                have hlb := Lib.hid (Hlb.out k hltk)
                have hds := Hds.out X k hltk
                have hdl := Hdl.out X k
                rw [← hq.out] at hds hdl
                have hdl1 := hdl.1
                have hdl2 := hdl.2
                have HBk := HB.out k hltk
                have hY3 : (ltN (W.nth a k)).length = 3 := rfl
                have hZ3 : (ltN (W.nth b k)).length = 3 := rfl
                generalize ltN (W.nth a k) = Y at hl1 hds hY3
                generalize ltN (W.nth b k) = Z at hlb hds hZ3
                generalize W.nth a k = sa at c2 hl1
                generalize W.nth b k = sb at HBk hlb
                replace hds := Lib.hid hds
                replace hY3 := Lib.hid hY3
                replace hZ3 := Lib.hid hZ3
                replace HBk := Lib.hid HBk
                clear hdl
                go_wp2_with fail
                refine hl1.out.mono ?_
                rintro e w2 ⟨A2, c2', rfl, ho2, hB2⟩
                have H2 := Lib.hid (And.intro ho2 hB2)
                have hli2 := Lib.hid (hli.out w2)
                clear ho2 hB2 c2
                rw [hY3.out]
                go_wp2_with fail
                refine hli2.out.mono ?_
                rintro e w3 ⟨A3, c3, rfl, ho3, hB3⟩
                have H3 := Lib.hid (hB1.out.trans ((H2.out.2.trans (hB3.mono H2.out.2.size)).mono hB1.out.size))
                have hsm := Hsame.out A2 Y c2' A3 X c3 w3 (Row.of_own (own_below H2.out.1 hB3)) (Row.of_own ho3) hY3.out hX3.out
                obtain ⟨r1, hr1⟩ : ∃ r1, r1 = decide (Y = X) := ⟨_, rfl⟩
                rw [← hr1] at hsm
                replace hsm := Lib.hid hsm
                clear ho3 hB3
                rw [hX3.out]
                go_wp2_with fail
                refine hsm.out.mono ?_
                rintro e w4 ⟨rfl, n4, rfl⟩
                have H4 := Lib.hid (below_drewN H3.out n4)
                generalize w3.drewN n4 = w4 at H4
                have c5 := (H4.out.cell (p := ⟨b2, o2 + k, none⟩) hb2).trans HBk.out
                have hlb4 := Lib.hid (hlb.out w4)
                clear hsm
                cases r1
                · have hf1 := Lib.hid (of_decide_eq_false hr1.symm)
                  clear hr1
                  go_wp2_with fail
                  refine hlb4.out.mono ?_
                  rintro e w5 ⟨A5, c5', rfl, ho5, hB5⟩
                  have H5 := Lib.hid (And.intro ho5 hB5)
                  have hli5 := Lib.hid (hli.out w5)
                  clear ho5 hB5 c5
                  rw [hZ3.out]
                  go_wp2_with fail
                  refine hli5.out.mono ?_
                  rintro e w6 ⟨A6, c6, rfl, ho6, hB6⟩
                  have H6 := Lib.hid (H4.out.trans ((H5.out.2.trans (hB6.mono H5.out.2.size)).mono H4.out.size))
                  have hsm6 := Hsame.out A5 Z c5' A6 X c6 w6 (Row.of_own (own_below H5.out.1 hB6)) (Row.of_own ho6) hZ3.out hX3.out
                  obtain ⟨r2, hr2⟩ : ∃ r2, r2 = decide (Z = X) := ⟨_, rfl⟩
                  rw [← hr2] at hsm6
                  replace hsm6 := Lib.hid hsm6
                  clear ho6 hB6
                  rw [hX3.out]
                  go_wp2_with fail
                  refine hsm6.out.mono ?_
                  rintro e w7 ⟨rfl, n7, rfl⟩
                  have H7 := Lib.hid (below_drewN H6.out n7)
                  generalize w6.drewN n7 = w7 at H7
                  clear hsm6
                  cases r2
                  · have hf2 := Lib.hid (of_decide_eq_false hr2.symm)
                    have Hn := Lib.hid (show (q : Int) = dif a b X (k + 1) by rw [hds.out, if_neg hf1.out, if_neg hf2.out] <;> omega)
                    clear hr2
                    go_wp2
                    go_roundw
                    case rel => exact ⟨k + 1, q, by omega, by go_num, by first | rfl | go_num, Hn.out, H7.out⟩
                    case measure => simp [intOf]; omega
                  · have hf2 := Lib.hid (of_decide_eq_true hr2.symm)
                    have Hn := Lib.hid (show (q - 1 : Int) = dif a b X (k + 1) by rw [hds.out, if_neg hf1.out, if_pos hf2.out] <;> omega)
                    clear hr2
                    go_wp2
                    go_roundw
                    case rel => exact ⟨k + 1, q - 1, by omega, by go_num, by first | rfl | go_num, Hn.out, H7.out⟩
                    case measure => simp [intOf]; omega
                · have hf1 := Lib.hid (of_decide_eq_true hr1.symm)
                  clear hr1
                  go_wp2_with fail
                  refine hlb4.out.mono ?_
                  rintro e w5 ⟨A5, c5', rfl, ho5, hB5⟩
                  have H5 := Lib.hid (And.intro ho5 hB5)
                  have hli5 := Lib.hid (hli.out w5)
                  clear ho5 hB5 c5
                  rw [hZ3.out]
                  go_wp2_with fail
                  refine hli5.out.mono ?_
                  rintro e w6 ⟨A6, c6, rfl, ho6, hB6⟩
                  have H6 := Lib.hid (H4.out.trans ((H5.out.2.trans (hB6.mono H5.out.2.size)).mono H4.out.size))
                  have hsm6 := Hsame.out A5 Z c5' A6 X c6 w6 (Row.of_own (own_below H5.out.1 hB6)) (Row.of_own ho6) hZ3.out hX3.out
                  obtain ⟨r2, hr2⟩ : ∃ r2, r2 = decide (Z = X) := ⟨_, rfl⟩
                  rw [← hr2] at hsm6
                  replace hsm6 := Lib.hid hsm6
                  clear ho6 hB6
                  rw [hX3.out]
                  go_wp2_with fail
                  refine hsm6.out.mono ?_
                  rintro e w7 ⟨rfl, n7, rfl⟩
                  have H7 := Lib.hid (below_drewN H6.out n7)
                  generalize w6.drewN n7 = w7 at H7
                  clear hsm6
                  cases r2
                  · have hf2 := Lib.hid (of_decide_eq_false hr2.symm)
                    have Hn := Lib.hid (show (q + 1 : Int) = dif a b X (k + 1) by rw [hds.out, if_pos hf1.out, if_neg hf2.out] <;> omega)
                    clear hr2
                    go_wp2
                    go_roundw
                    case rel => exact ⟨k + 1, q + 1, by omega, by go_num, by first | rfl | go_num, Hn.out, H7.out⟩
                    case measure => simp [intOf]; omega
                  · have hf2 := Lib.hid (of_decide_eq_true hr2.symm)
                    have Hn := Lib.hid (show (q + 1 - 1 : Int) = dif a b X (k + 1) by rw [hds.out, if_pos hf1.out, if_pos hf2.out] <;> omega)
                    clear hr2
                    go_wp2
                    go_roundw
                    case rel => exact ⟨k + 1, q + 1 - 1, by omega, by go_num, by first | rfl | go_num, Hn.out, H7.out⟩
                    case measure => simp [intOf]; omega
              · obtain rfl : k = a.length := by omega
                have hqe := hq
                by_cases e0 : q = 0
                · have hN := Lib.hid (show ∀ j, j < i + 1 → dif a b (ltN (W.nth a j)) a.length = 0 from fun j hj => by
                    by_cases ej : j = i
                    · subst ej
                      rw [← hX.out, ← hq.out]
                      exact e0
                    · exact hT.out j (by omega))
                  subst e0
                  go_wp2
                  go_roundw
                  case rel => exact ⟨i + 1, by omega, by go_num, hN, hB1.out⟩
                  case measure => simp [intOf]; omega
                · have hr := hni.out (by rw [← hq.out]; exact e0)
                  subst hr
                  have hne : (q != 0) = true := by simp [e0]
                  have hne2 : (q == 0) = false := beq_eq_false_iff_ne.2 e0
                  go_wp2
                  go_ret2
                  exact ⟨rfl, hB1.out⟩
          · obtain rfl : i = a.length := by omega
            have hr := Hyes.out hT.out
            subst hr
            go_wp2
            go_ret2
            exact ⟨rfl, hB.out⟩
      · rw [alB_len hab]
        have hneq : ((a.length : Int) != (b.length : Int)) = true := by simp; omega
        have hneq2 : ((a.length : Int) == (b.length : Int)) = false := beq_eq_false_iff_ne.2 (by omega)
        clear hyes h hs h' hs' h1 h2 hab
        go_enter Tryd.func6, Tryd.ntmps6
        go_wp2_with fail
        refine hc.out.mono ?_
        rintro e w' ⟨rfl, rfl⟩
        go_wp2_with fail
        refine hc'.out.mono ?_
        rintro e w' ⟨rfl, rfl⟩
        go_wp2
        go_ret2
        exact ⟨rfl, Below.refl _ _⟩
end Go.Proofs.YtjffgpgmgnfafaaDoor
