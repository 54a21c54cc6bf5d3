/-
  WHAT THIS FILE PROVES: the levels of a set: the program's functions, which count in an array, give the plain ones; asked: a slice of texts in memory, lengths that an int holds.
-/
import Derived.Test.YtojcnalgjeojdaaDoorLev
import Derived.Test.YtojcnalgjeojdaaDoorInnI
import Derived.Test.YtojcnalgjeojdaaDoorSSI
import Derived.Deep.WholeRow
import Derived.Test.YtojcnalgjeojdaaDoorStep
import Derived.Test.YtojcnalgjeojdaaDoorSSApp
namespace Go.Proofs.YtojcnalgjeojdaaDoor
open Go.RowKit Go.Shelf

/-- nine numbers in a block -/
def NineAt (w : World) (g : Nat) (f : Nat → Int) : Prop := ∀ j, j < 9 → w.cell? ⟨g, j, none⟩ = some (.int .i64 (f j)) ∧ w.frozen? ⟨g, j, none⟩ = false
/-- nine numbers as one value -/
abbrev nineV (f : Nat → Int) : Value := .agg #[.int .i64 (f 0), .int .i64 (f 1), .int .i64 (f 2), .int .i64 (f 3), .int .i64 (f 4), .int .i64 (f 5), .int .i64 (f 6), .int .i64 (f 7), .int .i64 (f 8)]
theorem NineAt.set {w : World} {g : Nat} {f : Nat → Int} (h : NineAt w g f) (j : Nat) (x : Int) (hj : j < 9) : NineAt (w.setCell ⟨g, j, none⟩ (.int .i64 x)) g (fun i => if i = j then x else f i) := fun i hi => by
  refine ⟨?_, by rw [World.frozen?_setCell]; exact (h i hi).2⟩
  by_cases e : i = j
  · subst e
    rw [World.cell?_setCell_same' _ _ _ (by rw [(h i hi).1]; rfl)]
    simp
  · have hne : (⟨g, j, none⟩ : Addr) ≠ ⟨g, i, none⟩ := by
      intro k
      simp only [Addr.mk.injEq] at k
      exact e k.2.1.symm
    have h2 : (w.setCell ⟨g, j, none⟩ (.int .i64 x)).cell? ⟨g, i, none⟩ = w.cell? ⟨g, i, none⟩ := World.cell?_setCell_other _ _ _ _ hne
    rw [h2, (h i hi).1]
    simp [e]

set_option maxHeartbeats 3200000 in
theorem impl_numbers (A : Option Addr) (ss : List ByteArray) (c : Nat) (w : World) (h : Row w w.heap.size A (strs ss)) (hl : ss.length ≤ 1000) (hs : ∀ s ∈ ss, s.size ≤ 8) :
    Calls Tryd.prog 56 #[.slice A ss.length c] w fun e w' => e = .returned (nineV fun j => (cntL ss j : Int)) ∧ Below w.heap.size w w' := by
  replace hs := Lib.hid hs
  replace h := Lib.hid h
  go_enter Tryd.func56, Tryd.ntmps56
  have hN0 : NineAt ((w.alloc (.cells #[.int .i64 0, .int .i64 0, .int .i64 0, .int .i64 0, .int .i64 0, .int .i64 0, .int .i64 0, .int .i64 0, .int .i64 0] 57)).alloc (.cells #[.int .i64 0, .int .i64 0, .int .i64 0, .int .i64 0, .int .i64 0, .int .i64 0, .int .i64 0, .int .i64 0, .int .i64 0] 57)) (w.heap.size + 1) (fun _ => 0) := by
    intro j hj
    rcases (by omega : j = 0 ∨ j = 1 ∨ j = 2 ∨ j = 3 ∨ j = 4 ∨ j = 5 ∨ j = 6 ∨ j = 7 ∨ j = 8) with rfl | rfl | rfl | rfl | rfl | rfl | rfl | rfl | rfl <;>
      exact ⟨by rw [World.cell?_alloc_at _ _ _ _ (by simp)]; rfl, World.frozen?_alloc_at _ _ _ _ (by simp)⟩
  have hN1 : NineAt ((w.alloc (.cells #[.int .i64 0, .int .i64 0, .int .i64 0, .int .i64 0, .int .i64 0, .int .i64 0, .int .i64 0, .int .i64 0, .int .i64 0] 57)).alloc (.cells #[.int .i64 0, .int .i64 0, .int .i64 0, .int .i64 0, .int .i64 0, .int .i64 0, .int .i64 0, .int .i64 0, .int .i64 0] 57)) w.heap.size (fun _ => 0) := by
    intro j hj
    rcases (by omega : j = 0 ∨ j = 1 ∨ j = 2 ∨ j = 3 ∨ j = 4 ∨ j = 5 ∨ j = 6 ∨ j = 7 ∨ j = 8) with rfl | rfl | rfl | rfl | rfl | rfl | rfl | rfl | rfl <;>
      exact ⟨by rw [World.cell?_alloc_lt _ _ _ (by simp), World.cell?_alloc_at _ _ _ _ rfl]; rfl, by rw [World.frozen?_alloc_past _ _ _ (by simp)]; exact World.frozen?_alloc_at _ _ _ _ rfl⟩
  have hBN : Below w.heap.size w ((w.alloc (.cells #[.int .i64 0, .int .i64 0, .int .i64 0, .int .i64 0, .int .i64 0, .int .i64 0, .int .i64 0, .int .i64 0, .int .i64 0] 57)).alloc (.cells #[.int .i64 0, .int .i64 0, .int .i64 0, .int .i64 0, .int .i64 0, .int .i64 0, .int .i64 0, .int .i64 0, .int .i64 0] 57)) := ((Below.refl _ _).alloc (Nat.le_refl _) _).alloc (by simp) _
  have hF := Lib.hid (And.intro hN0 (And.intro hN1 hBN))
  clear hN0 hN1 hBN
  go_wp2
  go_loopw [8] (fun i wr => ∃ k : Nat, k ≤ ss.length ∧ i = .int .i64 k ∧ NineAt wr (w.heap.size + 1) (fun j => (cntL (ss.take k) j : Int)) ∧ NineAt wr w.heap.size (fun _ => 0) ∧ Below w.heap.size w wr) (fun i _ => ss.length - (intOf i).toNat)
  case atStart => exact ⟨0, Nat.zero_le _, rfl, hF.out.1, hF.out.2.1, hF.out.2.2⟩
  case round =>
    clear hF
    obtain ⟨k, hk, rfl, hN, hM, hB⟩ := hrel
    have hO := Lib.hid (And.intro hN (And.intro hM hB))
    clear hN hM hB
    by_cases hlt : k < ss.length
    · obtain ⟨b, off, rfl, hb, hcc⟩ := h.out (by rw [strs_length]; omega)
      have hlt' : (k : Int) < (ss.length : Int) := by omega
      have c1 := (hO.out.2.2.cell (p := ⟨b, off + k, none⟩) hb).trans (hcc k _ (strs_nth ss k hlt))
      clear hcc
      have hz : (W.nth ss k).size ≤ 8 := by rw [W.nth_lt ss k hlt]; exact hs.out _ (List.getElem_mem hlt)
      have Hs := Lib.hid (fun j => cntL_succ ss k j hlt)
      have hcl := cntL_le (ss.take k) (W.nth ss k).size
      rw [List.length_take] at hcl
      generalize W.nth ss k = s at c1 hz Hs hcl
      have h9 : wr.cell? ⟨w.heap.size + 1, s.size, none⟩ = some (.int .i64 (cntL (ss.take k) s.size : Int)) := (hO.out.1 s.size (by omega)).1
      have hf9 := (hO.out.1 s.size (by omega)).2
      generalize hn : cntL (ss.take k) s.size = n at h9 hcl
      have hset := Lib.hid (hO.out.1.set s.size ((n : Int) + 1) (by omega))
      have hoth := Lib.hid (show NineAt (wr.setCell ⟨w.heap.size + 1, s.size, none⟩ (.int .i64 ((n : Int) + 1))) w.heap.size (fun _ => 0) from fun j hj => ⟨by rw [World.cell?_setCell_other _ _ _ _ (by intro e; simp only [Addr.mk.injEq] at e; omega)]; exact (hO.out.2.1 j hj).1, by rw [World.frozen?_setCell]; exact (hO.out.2.1 j hj).2⟩)
      have hHn := Lib.hid hn
      clear hn
      have hF2 := Lib.hid (show NineAt (wr.setCell ⟨w.heap.size + 1, s.size, none⟩ (.int .i64 ((n : Int) + 1))) (w.heap.size + 1) (fun j => (cntL (ss.take (k + 1)) j : Int)) from fun j hj => by
        refine ⟨?_, (hset.out j hj).2⟩
        rw [(hset.out j hj).1]
        show some (Value.int .i64 (if j = s.size then (n : Int) + 1 else (cntL (ss.take k) j : Int))) = some (Value.int .i64 (cntL (ss.take (k + 1)) j : Int))
        by_cases e : j = s.size
        · subst e
          rw [Hs.out, hHn.out]
          simp
        · rw [if_neg e, Hs.out, if_neg (fun e2 => e e2.symm), Nat.add_zero])
      have hB2 := Lib.hid (hO.out.2.2.setCell (p := ⟨w.heap.size + 1, s.size, none⟩) (show w.heap.size ≤ w.heap.size + 1 by omega) (.int .i64 ((n : Int) + 1)))
      clear hset
      go_wp2
      go_roundw
      case rel => exact ⟨k + 1, by omega, by go_num, hF2.out, hoth.out, hB2.out⟩
      case measure => simp [intOf]; omega
    · obtain rfl : k = ss.length := by omega
      have e0 : ss.take ss.length = ss := List.take_length
      rw [e0] at hO
      have d0 : wr.cell? ⟨w.heap.size + 1, 0, none⟩ = some (.int .i64 (cntL ss 0 : Int)) := (hO.out.1 0 (by omega)).1
      have d1 : wr.cell? ⟨w.heap.size + 1, 1, none⟩ = some (.int .i64 (cntL ss 1 : Int)) := (hO.out.1 1 (by omega)).1
      have d2 : wr.cell? ⟨w.heap.size + 1, 2, none⟩ = some (.int .i64 (cntL ss 2 : Int)) := (hO.out.1 2 (by omega)).1
      have d3 : wr.cell? ⟨w.heap.size + 1, 3, none⟩ = some (.int .i64 (cntL ss 3 : Int)) := (hO.out.1 3 (by omega)).1
      have d4 : wr.cell? ⟨w.heap.size + 1, 4, none⟩ = some (.int .i64 (cntL ss 4 : Int)) := (hO.out.1 4 (by omega)).1
      have d5 : wr.cell? ⟨w.heap.size + 1, 5, none⟩ = some (.int .i64 (cntL ss 5 : Int)) := (hO.out.1 5 (by omega)).1
      have d6 : wr.cell? ⟨w.heap.size + 1, 6, none⟩ = some (.int .i64 (cntL ss 6 : Int)) := (hO.out.1 6 (by omega)).1
      have d7 : wr.cell? ⟨w.heap.size + 1, 7, none⟩ = some (.int .i64 (cntL ss 7 : Int)) := (hO.out.1 7 (by omega)).1
      have d8 : wr.cell? ⟨w.heap.size + 1, 8, none⟩ = some (.int .i64 (cntL ss 8 : Int)) := (hO.out.1 8 (by omega)).1
      have m0 : wr.cell? ⟨w.heap.size, 0, none⟩ = some (.int .i64 0) := (hO.out.2.1 0 (by omega)).1
      have m1 : wr.cell? ⟨w.heap.size, 1, none⟩ = some (.int .i64 0) := (hO.out.2.1 1 (by omega)).1
      have m2 : wr.cell? ⟨w.heap.size, 2, none⟩ = some (.int .i64 0) := (hO.out.2.1 2 (by omega)).1
      have m3 : wr.cell? ⟨w.heap.size, 3, none⟩ = some (.int .i64 0) := (hO.out.2.1 3 (by omega)).1
      have m4 : wr.cell? ⟨w.heap.size, 4, none⟩ = some (.int .i64 0) := (hO.out.2.1 4 (by omega)).1
      have m5 : wr.cell? ⟨w.heap.size, 5, none⟩ = some (.int .i64 0) := (hO.out.2.1 5 (by omega)).1
      have m6 : wr.cell? ⟨w.heap.size, 6, none⟩ = some (.int .i64 0) := (hO.out.2.1 6 (by omega)).1
      have m7 : wr.cell? ⟨w.heap.size, 7, none⟩ = some (.int .i64 0) := (hO.out.2.1 7 (by omega)).1
      have m8 : wr.cell? ⟨w.heap.size, 8, none⟩ = some (.int .i64 0) := (hO.out.2.1 8 (by omega)).1
      have f0 := (hO.out.2.1 0 (by omega)).2
      have f1 := (hO.out.2.1 1 (by omega)).2
      have f2 := (hO.out.2.1 2 (by omega)).2
      have f3 := (hO.out.2.1 3 (by omega)).2
      have f4 := (hO.out.2.1 4 (by omega)).2
      have f5 := (hO.out.2.1 5 (by omega)).2
      have f6 := (hO.out.2.1 6 (by omega)).2
      have f7 := (hO.out.2.1 7 (by omega)).2
      have f8 := (hO.out.2.1 8 (by omega)).2
      clear e0
      go_wp2_with fail
      refine bodyPost_ret (v := nineV fun j => (cntL ss j : Int)) (by simp [results, Tryd.results56, go_sem, m0, m1, m2, m3, m4, m5, m6, m7, m8]) rfl ⟨rfl, ?_⟩
      exact (((((((((hO.out.2.2.setCell (Nat.le_refl _) _).setCell (Nat.le_refl _) _).setCell (Nat.le_refl _) _).setCell (Nat.le_refl _) _).setCell (Nat.le_refl _) _).setCell (Nat.le_refl _) _).setCell (Nat.le_refl _) _).setCell (Nat.le_refl _) _).setCell (Nat.le_refl _) _)
theorem lev_two (w : World) (f f' : Nat → Int) (u : World) (hu : u = (w.alloc (.cells #[.int .i64 (f 0), .int .i64 (f 1), .int .i64 (f 2), .int .i64 (f 3), .int .i64 (f 4), .int .i64 (f 5), .int .i64 (f 6), .int .i64 (f 7), .int .i64 (f 8)] 57)).alloc (.cells #[.int .i64 (f' 0), .int .i64 (f' 1), .int .i64 (f' 2), .int .i64 (f' 3), .int .i64 (f' 4), .int .i64 (f' 5), .int .i64 (f' 6), .int .i64 (f' 7), .int .i64 (f' 8)] 57)) :
    (∀ j, j < 9 → u.cell? ⟨w.heap.size, j, none⟩ = some (.int .i64 (f j))) ∧ (∀ j, j < 9 → u.cell? ⟨w.heap.size + 1, j, none⟩ = some (.int .i64 (f' j))) ∧ Below w.heap.size w u ∧ w.heap.size + 1 < u.heap.size := by
  subst hu
  refine ⟨?_, ?_, ((Below.refl _ _).alloc (Nat.le_refl _) _).alloc (by simp) _, by simp⟩
  · intro j hj
    rcases (by omega : j = 0 ∨ j = 1 ∨ j = 2 ∨ j = 3 ∨ j = 4 ∨ j = 5 ∨ j = 6 ∨ j = 7 ∨ j = 8) with rfl | rfl | rfl | rfl | rfl | rfl | rfl | rfl | rfl <;>
      (rw [World.cell?_alloc_lt _ _ _ (by simp), World.cell?_alloc_at _ _ _ _ rfl]; rfl)
  · intro j hj
    rcases (by omega : j = 0 ∨ j = 1 ∨ j = 2 ∨ j = 3 ∨ j = 4 ∨ j = 5 ∨ j = 6 ∨ j = 7 ∨ j = 8) with rfl | rfl | rfl | rfl | rfl | rfl | rfl | rfl | rfl <;>
      (rw [World.cell?_alloc_at _ _ _ _ (by simp)]; rfl)

set_option maxHeartbeats 6400000 in
set_option maxRecDepth 100000 in
theorem impl_LevelsOf (A : Option Addr) (ss : List ByteArray) (c : Nat) (w : World) (h : Row w w.heap.size A (strs ss)) (hl : ss.length ≤ 9223372036854775807) (hs : ∀ s ∈ ss, s.size ≤ 9223372036854775807) :
    Calls Tryd.prog 23 #[.slice A ss.length c] w (OkSS 38 3 w (intss (lvOf ss)) (W.isSet ss)) := by
  have hc := impl_IsSet A ss c w h hl hs
  cases hq : W.isSet ss
  · rw [hq] at hc
    rw [lvOf_no hq]
    replace hc := Lib.hid hc
    clear h hs hq
    go_enter Tryd.func23, Tryd.ntmps23
    go_wp2_with (go_at_call 34; refine hc.out.mono ?_; rintro e w1 ⟨rfl, hB⟩)
    go_ret2
    exact okSS_nil _ _ _ _ _ hB
  · rw [hq] at hc
    rw [lvOf_yes hq]
    replace hc := Lib.hid hc
    have h12 := W.isSet_len ss hq
    have H8 := short_le hq
    have hmx8 := mxTo_le H8 ss.length (Nat.le_refl _)
    have hn1 := Lib.hid (fun (u : World) (hB : Below w.heap.size w u) => impl_numbers A ss c u ((h.below hB).more hB.size) (by omega) H8)
    have hin := Lib.hid (fun (u : World) (hB : Below w.heap.size w u) => impl_innerWords A ss c u ((h.below hB).more hB.size) hq)
    have hil := inB_len hq
    have hi8 := inB_size hq
    have hn2 := Lib.hid (fun (A' : Option Addr) (c' : Nat) (u : World) (hr : Row u u.heap.size A' (strs (inB ss))) => impl_numbers A' (inB ss) c' u hr (by omega) hi8)
    have Hrow := Lib.hid h
    have Hq := Lib.hid hq
    obtain ⟨i0, hi, hz0, hz1, hz2⟩ := info_parts infoRows
    have HR := Lib.hid (And.intro hi (And.intro hz0 (And.intro hz1 hz2)))
    clear hi hz0 hz1 hz2
    clear h hs hq H8 hi8
    have Hgr : Hid (∀ k, ss.length = k + 1 → (W.nth ss k).size = mxTo ss ss.length) := fun k hk => by rw [hk, mxTo_last Hq.out k (by omega)]
    generalize hmx : mxTo ss ss.length = mx at hmx8 Hgr
    have Hmx := Lib.hid hmx
    clear hmx
    go_enter Tryd.func23, Tryd.ntmps23
    go_wp2_with fail
    refine hc.out.mono ?_
    rintro e w1 ⟨rfl, hB1⟩
    by_cases h0 : 0 < ss.length
    · obtain ⟨b, off, rfl, hb, hcc⟩ := Hrow.out (by rw [strs_length]; omega)
      obtain ⟨k, hk⟩ : ∃ k, ss.length = k + 1 := ⟨ss.length - 1, by omega⟩
      have c1 := (hB1.cell (p := ⟨b, off + k, none⟩) hb).trans (hcc k _ (strs_nth ss k (by omega)))
      have hg := Hgr.out k hk
      generalize W.nth ss k = s at c1 hg
      have h0' : (0 : Int) < (ss.length : Int) := by omega
      have e1 : ((ss.length : Int) - 1) = (k : Int) := by omega
      have hlt' : (k : Int) < (ss.length : Int) := by omega
      clear hcc
      replace hk := Lib.hid hk
      have hn1a := Lib.hid (hn1.out w1 hB1)
      go_wp2_with fail
      refine hn1a.out.mono ?_
      rintro e w2 ⟨rfl, hB2⟩
      replace hB2 := hB1.trans (hB2.mono hB1.size)
      have hina := Lib.hid (hin.out w2 hB2)
      go_wp2_with fail
      refine hina.out.mono ?_
      rintro e w3 ⟨A3, c3, rfl, ho3, hB3⟩
      replace hB3 := hB2.trans (hB3.mono hB2.size)
      have hn2a := Lib.hid (hn2.out A3 c3 w3 (Row.of_own ho3))
      clear ho3
      go_wp2_with fail
      refine hn2a.out.mono ?_
      rintro e w4 ⟨rfl, hB4⟩
      replace hB4 := hB3.trans (hB4.mono hB3.size)
      clear hB3 hB2 hB1 hn1 hin hn2 hn1a hina hn2a
      go_wp2_with fail
      obtain ⟨w5, hw5⟩ : ∃ w5, w5 = (w4.alloc (.cells #[.int .i64 (cntL ss 0 : Int), .int .i64 (cntL ss 1 : Int), .int .i64 (cntL ss 2 : Int), .int .i64 (cntL ss 3 : Int), .int .i64 (cntL ss 4 : Int), .int .i64 (cntL ss 5 : Int), .int .i64 (cntL ss 6 : Int), .int .i64 (cntL ss 7 : Int), .int .i64 (cntL ss 8 : Int)] 57)).alloc (.cells #[.int .i64 (cntL (inB ss) 0 : Int), .int .i64 (cntL (inB ss) 1 : Int), .int .i64 (cntL (inB ss) 2 : Int), .int .i64 (cntL (inB ss) 3 : Int), .int .i64 (cntL (inB ss) 4 : Int), .int .i64 (cntL (inB ss) 5 : Int), .int .i64 (cntL (inB ss) 6 : Int), .int .i64 (cntL (inB ss) 7 : Int), .int .i64 (cntL (inB ss) 8 : Int)] 57) := ⟨_, rfl⟩
      have HW := Lib.hid (lev_two w4 (fun j => (cntL ss j : Int)) (fun j => (cntL (inB ss) j : Int)) w5 hw5)
      rw [← hw5]
      clear hw5
      go_loopw [7, 29] (fun v i wr => ∃ (k : Nat) (vs : List Value), k ≤ mx + 1 ∧ i = .int .i64 k ∧ OwnAt wr w5.heap.size 38 3 v vs (intss (lvTo ss k)) ∧ Below w5.heap.size w5 wr) (fun _ i _ => (mx + 1) - (intOf i).toNat)
      case atStart => exact ⟨0, [], Nat.zero_le _, rfl, ownAt_nil _ _ _ _, Below.refl _ _⟩
      case round =>
        obtain ⟨j, vs, hj, rfl, hV, hB5⟩ := hrel
        obtain ⟨Av, cv, rfl⟩ := own_slice hV.own
        have hlT : (intss (lvTo ss j)).length = j := by rw [intss_length, lvTo_len]
        rw [hlT] at hV ⊢
        have hO := Lib.hid (And.intro hV hB5)
        have hszi := hB5.size
        replace hlT := Lib.hid hlT
        clear hV hB5
        by_cases hlj : j < mx + 1
        · have hlj' : (j : Int) < (mx : Int) + 1 := by omega
          have d1 : wr.cell? ⟨w4.heap.size, j, none⟩ = some (.int .i64 (cntL ss j : Int)) := (hO.out.2.cell (p := ⟨w4.heap.size, j, none⟩) (by have := HW.out.2.2.2; show w4.heap.size < _; omega)).trans (HW.out.1 j (by omega))
          have d2 : wr.cell? ⟨w4.heap.size + 1, j, none⟩ = some (.int .i64 (cntL (inB ss) j : Int)) := (hO.out.2.cell (p := ⟨w4.heap.size + 1, j, none⟩) (by have := HW.out.2.2.2; show w4.heap.size + 1 < _; omega)).trans (HW.out.2.1 j (by omega))
          have hj9 : (j : Int) < 9 := by omega
          have Hs := Lib.hid (lvTo_succ ss j)
          have Hr := Lib.hid (show lvRow ss j = [(cntL ss j : Int), (cntL (inB ss) j : Int)] from rfl)
          generalize cntL ss j = x at d1 Hr
          generalize cntL (inB ss) j = y at d2 Hr
          go_wp2
          have hV0 : (((wr.alloc (.cells #[.int .i64 (x : Int), .int .i64 (y : Int)] 3)).alloc (.cells #[.slice (some ⟨wr.heap.size, 0, none⟩) 2 2] 38)).drew).ownsRow w5.heap.size 38 1 (.slice Av j cv) j vs := by
            have := hO.out.1.own
            rw [hlT.out] at this
            exact (this.alloc _).alloc _
          have hV0 := Lib.hid hV0
          have hc0 : (((wr.alloc (.cells #[.int .i64 (x : Int), .int .i64 (y : Int)] 3)).alloc (.cells #[.slice (some ⟨wr.heap.size, 0, none⟩) 2 2] 38)).drew).cell? ⟨wr.heap.size + 1, 0, none⟩ = some (.slice (some ⟨wr.heap.size, 0, none⟩) 2 2) := by
            show ((wr.alloc _).alloc _).cell? _ = _
            rw [World.cell?_alloc_at _ _ _ _ (by simp)]
            rfl
          have hc0 := Lib.hid hc0
          go_region_law (refine step_own_append _ rfl (.tmp 32) (.tmp 40) 33 rfl w5.heap.size 38 i0 (.slice none 0 0) 1 24 Tryd.underlying33 HR.out.1 HR.out.2.1 HR.out.2.2.1 HR.out.2.2.2 rfl (by decide) (.slice Av j cv) j vs (by simp [Act.eval]) hV0.out ⟨wr.heap.size + 1, 0, none⟩ 1 1 [.slice (some ⟨wr.heap.size, 0, none⟩) 2 2] (by simp [Act.eval]) rfl (fun i u hu => by
            have hi0 : i = 0 := by
              have := (List.getElem?_eq_some_iff.1 hu).1
              simpa using this
            subst hi0
            simp at hu
            subst hu
            exact hc0.out) (one_row _ _ _) (by unfold maxLen; omega) (by omega) (by simp; omega) (fun v1 w6 ho1 hg1 => ?_))
          all_goals
            have hBW : Below wr.heap.size wr ((wr.alloc (.cells #[.int .i64 (x : Int), .int .i64 (y : Int)] 3)).alloc (.cells #[.slice (some ⟨wr.heap.size, 0, none⟩) 2 2] 38)).drew := (((Below.refl _ _).alloc (Nat.le_refl _) _).alloc (by simp) _).drew
            have hx1 : (wr.alloc (.cells #[.int .i64 (x : Int), .int .i64 (y : Int)] 3)).ownsRow w5.heap.size 3 1 (.slice (some ⟨wr.heap.size, 0, none⟩) 2 2) 2 (ints [(x : Int), (y : Int)]) := by
              have := World.ownsRow_lit (base := w5.heap.size) (e := 3) (size := 1) wr #[.int .i64 (x : Int), .int .i64 (y : Int)] 2 (by omega) (by unfold maxLen; omega) (by simp)
              simpa [ints] using this
            have hx2 : (((wr.alloc (.cells #[.int .i64 (x : Int), .int .i64 (y : Int)] 3)).alloc (.cells #[.slice (some ⟨wr.heap.size, 0, none⟩) 2 2] 38)).drew).ownsRow w5.heap.size 3 1 (.slice (some ⟨wr.heap.size, 0, none⟩) 2 2) 2 (ints [(x : Int), (y : Int)]) := hx1.alloc _
            have hVW := hO.out.1.below hBW
            have hsep : ∀ u ∈ vs, u.ownBlock = none ∨ u.ownBlock ≠ (Value.slice (some ⟨wr.heap.size, 0, none⟩) 2 2).ownBlock := fun u hu => by
              cases hb2 : u.ownBlock with
              | none => exact .inl rfl
              | some g =>
                right
                intro e2
                have h1 := (hO.out.1.lt u hu g hb2).2
                have h2 : some g = some wr.heap.size := e2
                injection h2 with h2
                omega
            have hlt0 := hV0.out.lt
            have hP := OwnAt.push (by decide) hVW (v' := v1) (xs := ints [(x : Int), (y : Int)]) (A := some ⟨wr.heap.size, 0, none⟩) (c := 2) hx2 hsep (by rw [hlT.out]; exact ho1) hg1
            have hB6 : Below w5.heap.size w5 w6 := (hO.out.2.trans (hBW.mono hszi)).grown hg1 (by have := hBW.size; omega) (fun g hg => (hlt0 g hg).1)
            have HF := Lib.hid (And.intro hP hB6)
            clear hP hB6 hVW hsep hx1 hx2 hBW ho1 hg1 hlt0
            go_wp2
            go_roundw
            case rel =>
              refine ⟨j + 1, vs ++ [.slice (some ⟨wr.heap.size, 0, none⟩) 2 2], by omega, by go_num, ?_, HF.out.2⟩
              rw [Hs.out, Hr.out, intss_snoc]
              exact HF.out.1
            case measure => simp [intOf]; omega
        · obtain rfl : j = mx + 1 := by omega
          go_wp2
          go_ret2
          exact okSS_of (base := w.heap.size) ⟨vs, hO.out.1.lower (Nat.le_trans hB4.size (Nat.le_trans HW.out.2.2.1.size (Nat.le_refl _)))⟩ rfl (hB4.trans ((HW.out.2.2.1.trans (hO.out.2.mono HW.out.2.2.1.size)).mono hB4.size))
    · have hmx0 : mx = 0 := by
        have e : ss = [] := List.eq_nil_of_length_eq_zero (by omega)
        rw [← Hmx.out, e]
        rfl
      subst hmx0
      have h0' : ¬ (0 : Int) < (ss.length : Int) := by omega
      have hn1a := Lib.hid (hn1.out w1 hB1)
      go_wp2_with fail
      refine hn1a.out.mono ?_
      rintro e w2 ⟨rfl, hB2⟩
      replace hB2 := hB1.trans (hB2.mono hB1.size)
      have hina := Lib.hid (hin.out w2 hB2)
      go_wp2_with fail
      refine hina.out.mono ?_
      rintro e w3 ⟨A3, c3, rfl, ho3, hB3⟩
      replace hB3 := hB2.trans (hB3.mono hB2.size)
      have hn2a := Lib.hid (hn2.out A3 c3 w3 (Row.of_own ho3))
      clear ho3
      go_wp2_with fail
      refine hn2a.out.mono ?_
      rintro e w4 ⟨rfl, hB4⟩
      replace hB4 := hB3.trans (hB4.mono hB3.size)
      clear hB3 hB2 hB1 hn1 hin hn2 hn1a hina hn2a
      go_wp2_with fail
      obtain ⟨w5, hw5⟩ : ∃ w5, w5 = (w4.alloc (.cells #[.int .i64 (cntL ss 0 : Int), .int .i64 (cntL ss 1 : Int), .int .i64 (cntL ss 2 : Int), .int .i64 (cntL ss 3 : Int), .int .i64 (cntL ss 4 : Int), .int .i64 (cntL ss 5 : Int), .int .i64 (cntL ss 6 : Int), .int .i64 (cntL ss 7 : Int), .int .i64 (cntL ss 8 : Int)] 57)).alloc (.cells #[.int .i64 (cntL (inB ss) 0 : Int), .int .i64 (cntL (inB ss) 1 : Int), .int .i64 (cntL (inB ss) 2 : Int), .int .i64 (cntL (inB ss) 3 : Int), .int .i64 (cntL (inB ss) 4 : Int), .int .i64 (cntL (inB ss) 5 : Int), .int .i64 (cntL (inB ss) 6 : Int), .int .i64 (cntL (inB ss) 7 : Int), .int .i64 (cntL (inB ss) 8 : Int)] 57) := ⟨_, rfl⟩
      have HW := Lib.hid (lev_two w4 (fun j => (cntL ss j : Int)) (fun j => (cntL (inB ss) j : Int)) w5 hw5)
      rw [← hw5]
      clear hw5
      go_loopw [7, 29] (fun v i wr => ∃ (k : Nat) (vs : List Value), k ≤ 0 + 1 ∧ i = .int .i64 k ∧ OwnAt wr w5.heap.size 38 3 v vs (intss (lvTo ss k)) ∧ Below w5.heap.size w5 wr) (fun _ i _ => (0 + 1) - (intOf i).toNat)
      case atStart => exact ⟨0, [], Nat.zero_le _, rfl, ownAt_nil _ _ _ _, Below.refl _ _⟩
      case round =>
        obtain ⟨j, vs, hj, rfl, hV, hB5⟩ := hrel
        obtain ⟨Av, cv, rfl⟩ := own_slice hV.own
        have hlT : (intss (lvTo ss j)).length = j := by rw [intss_length, lvTo_len]
        rw [hlT] at hV ⊢
        have hO := Lib.hid (And.intro hV hB5)
        have hszi := hB5.size
        replace hlT := Lib.hid hlT
        clear hV hB5
        by_cases hlj : j < 0 + 1
        · have hlj' : (j : Int) < (0 : Int) + 1 := by omega
          have d1 : wr.cell? ⟨w4.heap.size, j, none⟩ = some (.int .i64 (cntL ss j : Int)) := (hO.out.2.cell (p := ⟨w4.heap.size, j, none⟩) (by have := HW.out.2.2.2; show w4.heap.size < _; omega)).trans (HW.out.1 j (by omega))
          have d2 : wr.cell? ⟨w4.heap.size + 1, j, none⟩ = some (.int .i64 (cntL (inB ss) j : Int)) := (hO.out.2.cell (p := ⟨w4.heap.size + 1, j, none⟩) (by have := HW.out.2.2.2; show w4.heap.size + 1 < _; omega)).trans (HW.out.2.1 j (by omega))
          have hj9 : (j : Int) < 9 := by omega
          have Hs := Lib.hid (lvTo_succ ss j)
          have Hr := Lib.hid (show lvRow ss j = [(cntL ss j : Int), (cntL (inB ss) j : Int)] from rfl)
          generalize cntL ss j = x at d1 Hr
          generalize cntL (inB ss) j = y at d2 Hr
          go_wp2
          have hV0 : (((wr.alloc (.cells #[.int .i64 (x : Int), .int .i64 (y : Int)] 3)).alloc (.cells #[.slice (some ⟨wr.heap.size, 0, none⟩) 2 2] 38)).drew).ownsRow w5.heap.size 38 1 (.slice Av j cv) j vs := by
            have := hO.out.1.own
            rw [hlT.out] at this
            exact (this.alloc _).alloc _
          have hV0 := Lib.hid hV0
          have hc0 : (((wr.alloc (.cells #[.int .i64 (x : Int), .int .i64 (y : Int)] 3)).alloc (.cells #[.slice (some ⟨wr.heap.size, 0, none⟩) 2 2] 38)).drew).cell? ⟨wr.heap.size + 1, 0, none⟩ = some (.slice (some ⟨wr.heap.size, 0, none⟩) 2 2) := by
            show ((wr.alloc _).alloc _).cell? _ = _
            rw [World.cell?_alloc_at _ _ _ _ (by simp)]
            rfl
          have hc0 := Lib.hid hc0
          go_region_law (refine step_own_append _ rfl (.tmp 32) (.tmp 40) 33 rfl w5.heap.size 38 i0 (.slice none 0 0) 1 24 Tryd.underlying33 HR.out.1 HR.out.2.1 HR.out.2.2.1 HR.out.2.2.2 rfl (by decide) (.slice Av j cv) j vs (by simp [Act.eval]) hV0.out ⟨wr.heap.size + 1, 0, none⟩ 1 1 [.slice (some ⟨wr.heap.size, 0, none⟩) 2 2] (by simp [Act.eval]) rfl (fun i u hu => by
            have hi0 : i = 0 := by
              have := (List.getElem?_eq_some_iff.1 hu).1
              simpa using this
            subst hi0
            simp at hu
            subst hu
            exact hc0.out) (one_row _ _ _) (by unfold maxLen; omega) (by omega) (by simp; omega) (fun v1 w6 ho1 hg1 => ?_))
          all_goals
            have hBW : Below wr.heap.size wr ((wr.alloc (.cells #[.int .i64 (x : Int), .int .i64 (y : Int)] 3)).alloc (.cells #[.slice (some ⟨wr.heap.size, 0, none⟩) 2 2] 38)).drew := (((Below.refl _ _).alloc (Nat.le_refl _) _).alloc (by simp) _).drew
            have hx1 : (wr.alloc (.cells #[.int .i64 (x : Int), .int .i64 (y : Int)] 3)).ownsRow w5.heap.size 3 1 (.slice (some ⟨wr.heap.size, 0, none⟩) 2 2) 2 (ints [(x : Int), (y : Int)]) := by
              have := World.ownsRow_lit (base := w5.heap.size) (e := 3) (size := 1) wr #[.int .i64 (x : Int), .int .i64 (y : Int)] 2 (by omega) (by unfold maxLen; omega) (by simp)
              simpa [ints] using this
            have hx2 : (((wr.alloc (.cells #[.int .i64 (x : Int), .int .i64 (y : Int)] 3)).alloc (.cells #[.slice (some ⟨wr.heap.size, 0, none⟩) 2 2] 38)).drew).ownsRow w5.heap.size 3 1 (.slice (some ⟨wr.heap.size, 0, none⟩) 2 2) 2 (ints [(x : Int), (y : Int)]) := hx1.alloc _
            have hVW := hO.out.1.below hBW
            have hsep : ∀ u ∈ vs, u.ownBlock = none ∨ u.ownBlock ≠ (Value.slice (some ⟨wr.heap.size, 0, none⟩) 2 2).ownBlock := fun u hu => by
              cases hb2 : u.ownBlock with
              | none => exact .inl rfl
              | some g =>
                right
                intro e2
                have h1 := (hO.out.1.lt u hu g hb2).2
                have h2 : some g = some wr.heap.size := e2
                injection h2 with h2
                omega
            have hlt0 := hV0.out.lt
            have hP := OwnAt.push (by decide) hVW (v' := v1) (xs := ints [(x : Int), (y : Int)]) (A := some ⟨wr.heap.size, 0, none⟩) (c := 2) hx2 hsep (by rw [hlT.out]; exact ho1) hg1
            have hB6 : Below w5.heap.size w5 w6 := (hO.out.2.trans (hBW.mono hszi)).grown hg1 (by have := hBW.size; omega) (fun g hg => (hlt0 g hg).1)
            have HF := Lib.hid (And.intro hP hB6)
            clear hP hB6 hVW hsep hx1 hx2 hBW ho1 hg1 hlt0
            go_wp2
            go_roundw
            case rel =>
              refine ⟨j + 1, vs ++ [.slice (some ⟨wr.heap.size, 0, none⟩) 2 2], by omega, by go_num, ?_, HF.out.2⟩
              rw [Hs.out, Hr.out, intss_snoc]
              exact HF.out.1
            case measure => simp [intOf]; omega
        · obtain rfl : j = 0 + 1 := by omega
          go_wp2
          go_ret2
          exact okSS_of (base := w.heap.size) ⟨vs, hO.out.1.lower (Nat.le_trans hB4.size (Nat.le_trans HW.out.2.2.1.size (Nat.le_refl _)))⟩ rfl (hB4.trans ((HW.out.2.2.1.trans (hO.out.2.mono HW.out.2.2.1.size)).mono hB4.size))
end Go.Proofs.YtojcnalgjeojdaaDoor
