/-
  WHAT THIS FILE PROVES: weighted sums, mean lengths and weights of inner words: the specification's functions give what the plain ones say; asked: slices in memory, lengths that an int holds.
-/
import Derived.Test.YthhiegcdocjfkaaDoorSw
import Derived.Test.YthhiegcdocjfkaaDoorKrS
import Derived.Test.YthhiegcdocjfkaaDoorInnS
import Derived.Test.YthhiegcdocjfkaaDoorFit
namespace Go.Proofs.YthhiegcdocjfkaaDoor
open Go.RowKit Go.Shelf

theorem begs_Sh8 {ss : List ByteArray} (h : W.isSet ss = true) : W.Sh8 (inB ss) := fun k hk => by
  have hm : W.nth (inB ss) k ∈ inB ss := by rw [W.nth_lt _ _ hk]; exact List.getElem_mem hk
  generalize W.nth (inB ss) k = x at hm
  unfold inB begsTo at hm
  rw [mem_ord, List.mem_flatMap] at hm
  obtain ⟨j, hj, hm⟩ := hm
  unfold begs at hm
  obtain ⟨i, hi, rfl⟩ := List.mem_map.1 hm
  have hj2 : j < ss.length := List.mem_range.1 hj
  have hi2 : i < (W.nth ss j).size := List.mem_range.1 hi
  obtain ⟨h8, hwd⟩ := W.set_Sh8 h j hj2
  generalize W.nth ss j = s at hi2 h8 hwd
  have e : (s.extract 0 i).data.toList = s.data.toList.take i := by
    rw [Lib.extract_eq]
    simp
  refine ⟨?_, ?_⟩
  · rw [Lib.size_eq, e, List.length_take, ← Lib.size_eq]; omega
  · rw [e]
    unfold W.isWd at hwd ⊢
    rw [List.all_eq_true] at hwd ⊢
    exact fun y hy => hwd y (List.mem_of_mem_take hy)
/-- what InnerWeight tells -/
def iwOf (ss : List ByteArray) (z : List Int) : Nat × Nat := if W.wsOk ss z then W.low (W.suL z W.oneT (inB ss)) (W.wtT z ^ 8) else (0, 0)
theorem iwOf_no {ss : List ByteArray} {z : List Int} (h : W.wsOk ss z = false) : iwOf ss z = (0, 0) := by unfold iwOf; rw [h]; rfl
theorem iwOf_yes {ss : List ByteArray} {z : List Int} (h : W.wsOk ss z = true) : iwOf ss z = W.low (W.suL z W.oneT (inB ss)) (W.wtT z ^ 8) := by unfold iwOf; rw [h]; rfl
/-- the call hands back the numbers of words in a slice of its own -/
def GivesT (tf : ByteArray → Nat) (ws : List ByteArray) (w : World) (e : Ending) (w' : World) : Prop :=
  ∃ A' c', e = .returned (.slice A' ws.length c') ∧ w'.ownsRow w.heap.size 3 1 (.slice A' ws.length c') ws.length (ints (W.tms tf ws)) ∧ Below w.heap.size w w'
theorem givesT_of {tf : ByteArray → Nat} {ws : List ByteArray} {zs : List Int} {w w' : World} {e : Ending} (hz : W.tms tf ws = zs) (h : GivesInts w zs e w') : GivesT tf ws w e w' := by
  subst hz
  obtain ⟨A', c', rfl, ho, hB⟩ := h
  rw [W.tms_len] at ho ⊢
  exact ⟨A', c', rfl, ho, hB⟩
theorem ones_own (ws : List ByteArray) (w : World) (h : ws.length ≤ 1000) : Calls Tryd.prog 27 #[.int .i64 ws.length] w (GivesT W.oneT ws w) :=
  (spec_leOnes ws.length w h).mono fun _ _ h => givesT_of (W.tms_one ws) h
theorem sizes_own (A : Option Addr) (ws : List ByteArray) (c : Nat) (w : World) (h : Row w w.heap.size A (strs ws)) (h12 : ws.length ≤ 12) (hz : W.Sh8 ws) : Calls Tryd.prog 32 #[.slice A ws.length c] w (GivesT W.sizT ws w) :=
  (spec_krLengths A ws c w h h12 (fun k hk => (hz k hk).1)).mono fun _ _ h => givesT_of (W.tms_size ws) h
set_option maxHeartbeats 1600000 in
theorem spec_WeightedSum (A : Option Addr) (ss : List ByteArray) (c : Nat) (B : Option Addr) (z : List Int) (d : Nat) (w : World) (h : Row w w.heap.size A (strs ss)) (hl : ss.length ≤ 9223372036854775807) (hs : ∀ s ∈ ss, s.size ≤ 9223372036854775807) (g : Row w w.heap.size B (ints z)) (_hl2 : z.length ≤ 9223372036854775807) :
    Calls Tryd.prog 8 #[.slice A ss.length c, .slice B z.length d] w fun e w' => e = .returned (.tuple #[ratV ((W.wsOf W.oneT ss z).1 : Nat) ((W.wsOf W.oneT ss z).2 : Nat), .bool (W.wsOk ss z)]) ∧ Below w.heap.size w w' := by
  have hB := Lib.hid (leW_below w)
  have hr0 := Lib.hid ((h.below hB.out).more hB.out.size)
  have hr2 := Lib.hid ((g.below hB.out).more hB.out.size)
  have hc := spec_wdSet A ss c (leW w) hr0.out hl hs
  have hwt := spec_leWeights B z d (leW w) hr2.out
  clear h g hs
  cases h1 : W.isSet ss
  · have hno : W.wsOk ss z = false := by unfold W.wsOk; rw [h1]; rfl
    rw [W.wsOf_no hno, hno]
    rw [h1] at hc
    replace hc := Lib.hid hc
    clear hno h1 hwt
    go_enter Tryd.func8, Tryd.ntmps8
    go_wp2_with (go_at_call 24; refine hc.out.mono ?_; rintro e w' ⟨rfl, rfl⟩)
    exact bodyPost_ret (v := .tuple #[ratV 0 0, .bool false]) (by simp [results, Tryd.results8, go_sem]) rfl ⟨rfl, hB.out⟩
  · rw [h1] at hc
    replace hc := Lib.hid hc
    cases hz : W.wtB z
    · have hno : W.wsOk ss z = false := by unfold W.wsOk; rw [hz]; simp
      rw [W.wsOf_no hno, hno]
      rw [hz] at hwt
      replace hwt := Lib.hid hwt
      clear hno h1 hz
      go_enter Tryd.func8, Tryd.ntmps8
      go_wp2_with (first | (go_at_call 24; refine hc.out.mono ?_; rintro e w' ⟨rfl, rfl⟩) | (go_at_call 25; refine hwt.out.mono ?_; rintro e w' ⟨rfl, n, rfl⟩))
      exact bodyPost_ret (v := .tuple #[ratV 0 0, .bool false]) (by simp [results, Tryd.results8, go_sem]) rfl ⟨rfl, ((below_drewN hB.out n).setCell (Nat.le_refl _) _).setCell (Nat.le_refl _) _⟩
    · have hyes : W.wsOk ss z = true := by unfold W.wsOk; rw [h1, hz]; rfl
      rw [W.wsOf_yes hyes, hyes]
      rw [hz] at hwt
      replace hwt := Lib.hid hwt
      have h12 := W.isSet_len ss h1
      have htm := fun (u : World) (_ : Row u u.heap.size A (strs ss)) => ones_own ss u (by omega)
      have hsum := fun (A' : Option Addr) (c' : Nat) (u : World) (h0 : Row u u.heap.size A (strs ss)) (ht : Row u u.heap.size A' (ints (W.tms W.oneT ss))) (hq : Row u u.heap.size B (ints z)) => spec_leSum W.oneT A ss c A' c' B z d u h0 ht hq hz (W.set_Sh8 h1) (fun _ _ => by unfold W.oneT; omega) (by omega)
      generalize W.low (W.suL z W.oneT ss) (W.wtT z ^ 8) = pq at hsum ⊢
      obtain ⟨p, q⟩ := pq
      dsimp only at hsum ⊢
      replace htm := Lib.hid htm
      replace hsum := Lib.hid hsum
      clear hyes h1 hz
      go_enter Tryd.func8, Tryd.ntmps8
      go_wp2_with (first | (go_at_call 24; refine hc.out.mono ?_; rintro e w' ⟨rfl, rfl⟩) | (go_at_call 25; refine hwt.out.mono ?_; rintro e w' ⟨rfl, n, rfl⟩))
      have hD := Lib.hid (below_drewN (Below.refl (leW w).heap.size (leW w)) n)
      have hrA := Lib.hid ((hr0.out.below hD.out).more hD.out.size)
      have htm1 := Lib.hid (htm.out _ hrA.out)
      generalize (leW w).drewN n = wd at hD hrA htm1 ⊢
      go_wp2_with fail
      refine htm1.out.mono ?_
      rintro e w2 ⟨A2, c2, rfl, ho2, hB2⟩
      have H2 := Lib.hid (hD.out.trans (hB2.mono hD.out.size))
      have hs1 := Lib.hid (hsum.out A2 c2 w2 ((hr0.out.below H2.out).more H2.out.size) (Row.of_own ho2) ((hr2.out.below H2.out).more H2.out.size))
      clear ho2 hB2
      go_wp2_with fail
      refine hs1.out.mono ?_
      rintro e w3 ⟨rfl, hB3'⟩
      have hB3 := H2.out.trans (hB3'.mono H2.out.size)
      have hB4 := Lib.hid (hB.out.trans (hB3.mono hB.out.size))
      obtain ⟨c0, c1', f0, f1⟩ := res_cells hB3
      clear hB3' hB3
      go_wp2
      exact bodyPost_ret (v := .tuple #[ratV p q, .bool true]) (by simp [results, Tryd.results8, go_sem, c0, c1']) rfl ⟨rfl, (hB4.out.setCell (Nat.le_refl _) _).setCell (Nat.le_refl _) _⟩
set_option maxHeartbeats 1600000 in
theorem spec_MeanLength (A : Option Addr) (ss : List ByteArray) (c : Nat) (B : Option Addr) (z : List Int) (d : Nat) (w : World) (h : Row w w.heap.size A (strs ss)) (hl : ss.length ≤ 9223372036854775807) (hs : ∀ s ∈ ss, s.size ≤ 9223372036854775807) (g : Row w w.heap.size B (ints z)) (_hl2 : z.length ≤ 9223372036854775807) :
    Calls Tryd.prog 15 #[.slice A ss.length c, .slice B z.length d] w fun e w' => e = .returned (.tuple #[ratV ((W.wsOf W.sizT ss z).1 : Nat) ((W.wsOf W.sizT ss z).2 : Nat), .bool (W.wsOk ss z)]) ∧ Below w.heap.size w w' := by
  have hB := Lib.hid (leW_below w)
  have hr0 := Lib.hid ((h.below hB.out).more hB.out.size)
  have hr2 := Lib.hid ((g.below hB.out).more hB.out.size)
  have hc := spec_wdSet A ss c (leW w) hr0.out hl hs
  have hwt := spec_leWeights B z d (leW w) hr2.out
  clear h g hs
  cases h1 : W.isSet ss
  · have hno : W.wsOk ss z = false := by unfold W.wsOk; rw [h1]; rfl
    rw [W.wsOf_no hno, hno]
    rw [h1] at hc
    replace hc := Lib.hid hc
    clear hno h1 hwt
    go_enter Tryd.func15, Tryd.ntmps15
    go_wp2_with (go_at_call 24; refine hc.out.mono ?_; rintro e w' ⟨rfl, rfl⟩)
    exact bodyPost_ret (v := .tuple #[ratV 0 0, .bool false]) (by simp [results, Tryd.results15, go_sem]) rfl ⟨rfl, hB.out⟩
  · rw [h1] at hc
    replace hc := Lib.hid hc
    cases hz : W.wtB z
    · have hno : W.wsOk ss z = false := by unfold W.wsOk; rw [hz]; simp
      rw [W.wsOf_no hno, hno]
      rw [hz] at hwt
      replace hwt := Lib.hid hwt
      clear hno h1 hz
      go_enter Tryd.func15, Tryd.ntmps15
      go_wp2_with (first | (go_at_call 24; refine hc.out.mono ?_; rintro e w' ⟨rfl, rfl⟩) | (go_at_call 25; refine hwt.out.mono ?_; rintro e w' ⟨rfl, n, rfl⟩))
      exact bodyPost_ret (v := .tuple #[ratV 0 0, .bool false]) (by simp [results, Tryd.results15, go_sem]) rfl ⟨rfl, ((below_drewN hB.out n).setCell (Nat.le_refl _) _).setCell (Nat.le_refl _) _⟩
    · have hyes : W.wsOk ss z = true := by unfold W.wsOk; rw [h1, hz]; rfl
      rw [W.wsOf_yes hyes, hyes]
      rw [hz] at hwt
      replace hwt := Lib.hid hwt
      have h12 := W.isSet_len ss h1
      have htm := fun (u : World) (hu : Row u u.heap.size A (strs ss)) => sizes_own A ss c u hu h12 (W.set_Sh8 h1)
      have hsum := fun (A' : Option Addr) (c' : Nat) (u : World) (h0 : Row u u.heap.size A (strs ss)) (ht : Row u u.heap.size A' (ints (W.tms W.sizT ss))) (hq : Row u u.heap.size B (ints z)) => spec_leSum W.sizT A ss c A' c' B z d u h0 ht hq hz (W.set_Sh8 h1) (fun k hk => (W.set_Sh8 h1 k hk).1) (by omega)
      generalize W.low (W.suL z W.sizT ss) (W.wtT z ^ 8) = pq at hsum ⊢
      obtain ⟨p, q⟩ := pq
      dsimp only at hsum ⊢
      replace htm := Lib.hid htm
      replace hsum := Lib.hid hsum
      clear hyes h1 hz
      go_enter Tryd.func15, Tryd.ntmps15
      go_wp2_with (first | (go_at_call 24; refine hc.out.mono ?_; rintro e w' ⟨rfl, rfl⟩) | (go_at_call 25; refine hwt.out.mono ?_; rintro e w' ⟨rfl, n, rfl⟩))
      have hD := Lib.hid (below_drewN (Below.refl (leW w).heap.size (leW w)) n)
      have hrA := Lib.hid ((hr0.out.below hD.out).more hD.out.size)
      have htm1 := Lib.hid (htm.out _ hrA.out)
      generalize (leW w).drewN n = wd at hD hrA htm1 ⊢
      go_wp2_with fail
      refine htm1.out.mono ?_
      rintro e w2 ⟨A2, c2, rfl, ho2, hB2⟩
      have H2 := Lib.hid (hD.out.trans (hB2.mono hD.out.size))
      have hs1 := Lib.hid (hsum.out A2 c2 w2 ((hr0.out.below H2.out).more H2.out.size) (Row.of_own ho2) ((hr2.out.below H2.out).more H2.out.size))
      clear ho2 hB2
      go_wp2_with fail
      refine hs1.out.mono ?_
      rintro e w3 ⟨rfl, hB3'⟩
      have hB3 := H2.out.trans (hB3'.mono H2.out.size)
      have hB4 := Lib.hid (hB.out.trans (hB3.mono hB.out.size))
      obtain ⟨c0, c1', f0, f1⟩ := res_cells hB3
      clear hB3' hB3
      go_wp2
      exact bodyPost_ret (v := .tuple #[ratV p q, .bool true]) (by simp [results, Tryd.results15, go_sem, c0, c1']) rfl ⟨rfl, (hB4.out.setCell (Nat.le_refl _) _).setCell (Nat.le_refl _) _⟩
set_option maxHeartbeats 1600000 in
theorem spec_InnerWeight (A : Option Addr) (ss : List ByteArray) (c : Nat) (B : Option Addr) (z : List Int) (d : Nat) (w : World) (h : Row w w.heap.size A (strs ss)) (hl : ss.length ≤ 9223372036854775807) (hs : ∀ s ∈ ss, s.size ≤ 9223372036854775807) (g : Row w w.heap.size B (ints z)) (_hl2 : z.length ≤ 9223372036854775807) :
    Calls Tryd.prog 22 #[.slice A ss.length c, .slice B z.length d] w fun e w' => e = .returned (.tuple #[ratV ((iwOf ss z).1 : Nat) ((iwOf ss z).2 : Nat), .bool (W.wsOk ss z)]) ∧ Below w.heap.size w w' := by
  have hB := Lib.hid (leW_below w)
  have hr0 := Lib.hid ((h.below hB.out).more hB.out.size)
  have hr2 := Lib.hid ((g.below hB.out).more hB.out.size)
  have hc := spec_wdSet A ss c (leW w) hr0.out hl hs
  have hwt := spec_leWeights B z d (leW w) hr2.out
  clear h g hs
  cases h1 : W.isSet ss
  · have hno : W.wsOk ss z = false := by unfold W.wsOk; rw [h1]; rfl
    rw [iwOf_no hno, hno]
    rw [h1] at hc
    replace hc := Lib.hid hc
    clear hno h1 hwt
    go_enter Tryd.func22, Tryd.ntmps22
    go_wp2_with (go_at_call 24; refine hc.out.mono ?_; rintro e w' ⟨rfl, rfl⟩)
    exact bodyPost_ret (v := .tuple #[ratV 0 0, .bool false]) (by simp [results, Tryd.results22, go_sem]) rfl ⟨rfl, hB.out⟩
  · rw [h1] at hc
    replace hc := Lib.hid hc
    cases hz : W.wtB z
    · have hno : W.wsOk ss z = false := by unfold W.wsOk; rw [hz]; simp
      rw [iwOf_no hno, hno]
      rw [hz] at hwt
      replace hwt := Lib.hid hwt
      clear hno h1 hz
      go_enter Tryd.func22, Tryd.ntmps22
      go_wp2_with (first | (go_at_call 24; refine hc.out.mono ?_; rintro e w' ⟨rfl, rfl⟩) | (go_at_call 25; refine hwt.out.mono ?_; rintro e w' ⟨rfl, n, rfl⟩))
      exact bodyPost_ret (v := .tuple #[ratV 0 0, .bool false]) (by simp [results, Tryd.results22, go_sem]) rfl ⟨rfl, ((below_drewN hB.out n).setCell (Nat.le_refl _) _).setCell (Nat.le_refl _) _⟩
    · have hyes : W.wsOk ss z = true := by unfold W.wsOk; rw [h1, hz]; rfl
      rw [iwOf_yes hyes, hyes]
      rw [hz] at hwt
      replace hwt := Lib.hid hwt
      have h12 := W.isSet_len ss h1
      have hlen := inB_len h1
      have hin := fun (u : World) (hu : Row u u.heap.size A (strs ss)) => spec_pfInner A ss c u hu h1
      have hones := fun (u : World) => ones_own (inB ss) u (by omega)
      have hsum := fun (A1 : Option Addr) (c1 : Nat) (A' : Option Addr) (c' : Nat) (u : World) (h0 : Row u u.heap.size A1 (strs (inB ss))) (ht : Row u u.heap.size A' (ints (W.tms W.oneT (inB ss)))) (hq : Row u u.heap.size B (ints z)) => spec_leSum W.oneT A1 (inB ss) c1 A' c' B z d u h0 ht hq hz (begs_Sh8 h1) (fun _ _ => by unfold W.oneT; omega) (by omega)
      generalize inB ss = ws at hin hones hsum hlen ⊢
      generalize W.low (W.suL z W.oneT ws) (W.wtT z ^ 8) = pq at hsum ⊢
      obtain ⟨p, q⟩ := pq
      dsimp only at hsum ⊢
      replace hin := Lib.hid hin
      replace hones := Lib.hid hones
      replace hsum := Lib.hid hsum
      clear hyes h1 hz
      go_enter Tryd.func22, Tryd.ntmps22
      go_wp2_with (first | (go_at_call 24; refine hc.out.mono ?_; rintro e w' ⟨rfl, rfl⟩) | (go_at_call 25; refine hwt.out.mono ?_; rintro e w' ⟨rfl, n, rfl⟩))
      have hD := Lib.hid (below_drewN (Below.refl (leW w).heap.size (leW w)) n)
      have hrA := Lib.hid ((hr0.out.below hD.out).more hD.out.size)
      have hin1 := Lib.hid (hin.out _ hrA.out)
      generalize (leW w).drewN n = wd at hD hrA hin1 ⊢
      go_wp2_with fail
      refine hin1.out.mono ?_
      rintro e w1 ⟨A1, c1, rfl, ho1, hB1⟩
      have H1 := Lib.hid (And.intro ho1 (hD.out.trans (hB1.mono hD.out.size)))
      have hon1 := Lib.hid (hones.out w1)
      clear ho1 hB1
      go_wp2_with fail
      refine hon1.out.mono ?_
      rintro e w2 ⟨A2, c2, rfl, ho2, hB2⟩
      have H2 := Lib.hid (H1.out.2.trans (hB2.mono H1.out.2.size))
      have hs1 := Lib.hid (hsum.out A1 c1 A2 c2 w2 (Row.of_own (own_below H1.out.1 hB2)) (Row.of_own ho2) ((hr2.out.below H2.out).more H2.out.size))
      clear ho2 hB2
      go_wp2_with fail
      refine hs1.out.mono ?_
      rintro e w3 ⟨rfl, hB3'⟩
      have hB3 := H2.out.trans (hB3'.mono H2.out.size)
      have hB4 := Lib.hid (hB.out.trans (hB3.mono hB.out.size))
      obtain ⟨c0, c1', f0, f1⟩ := res_cells hB3
      clear hB3' hB3
      go_wp2
      exact bodyPost_ret (v := .tuple #[ratV p q, .bool true]) (by simp [results, Tryd.results22, go_sem, c0, c1']) rfl ⟨rfl, (hB4.out.setCell (Nat.le_refl _) _).setCell (Nat.le_refl _) _⟩
end Go.Proofs.YthhiegcdocjfkaaDoor
