/-
  WHAT THIS FILE PROVES: ordered lists, merging and the cost of best lengths: the specification's functions give the plain values; asked: slices in memory, lengths that an int holds.
  And: merging, the cost of best lengths and whether lengths are best: the specification's exported functions give the plain values; asked: slices in memory, lengths that an int holds.
-/
import Derived.Test.YtelfchoeielmhaaGreatDoorMr
import Derived.Test.YtelfchoeielmhaaGreatDoorBeS
import Derived.Test.YtelfchoeielmhaaGreatDoorAppend
import Derived.Maps.AppendAt
import Derived.Deep.LoopGhost
namespace Go.Proofs.YtelfchoeielmhaaGreatDoor
open Go.RowKit Go.Shelf

theorem intsCellsM (z : List Int) : ∀ u ∈ ints z, u.oneCell' = true := fun u hu => by
  unfold ints at hu
  obtain ⟨x, _, rfl⟩ := List.mem_map.1 hu
  rfl
set_option maxHeartbeats 800000 in
theorem spec_l1OwnM (n : Nat) (A : Option Addr) (z : List Int) (c : Nat) (w : World) (hn : z.length = n) (h : Row w w.heap.size A (ints z)) (hl : n ≤ 1048576) :
    Calls Tryz.prog 26 #[.slice A n c] w fun e w' => ∃ v, e = .returned v ∧ w'.ownsRow w.heap.size 3 1 v n (ints z) ∧ Below w.heap.size w w' := by
  subst hn
  obtain ⟨i0, hi, hz0, hz1, hz2⟩ := info_parts infoInt
  have HR := Lib.hid (And.intro hi (And.intro hz0 (And.intro hz1 hz2)))
  have hown0 := Lib.hid (World.ownsRow_made (base := w.heap.size) (e := 3) (size := 1) w #[] 0 (Nat.le_refl _) (Nat.zero_le _) rfl)
  have hB0 := Lib.hid ((Below.refl w.heap.size w).alloc (Nat.le_refl _) (.cells #[] 3))
  have hrow := Lib.hid (h.below hB0.out)
  clear h hi hz0 hz1 hz2
  go_enter Tryz.func26, Tryz.ntmps26
  go_wp2_with (at_builtin; refine wpList_append_row _ rfl _ _ 22 rfl w.heap.size 3 i0 _ 8 Tryz.underlying22 HR.out.1 HR.out.2.1 HR.out.2.2.1 HR.out.2.2.2 rfl (.slice (some ⟨w.heap.size, 0, none⟩) 0 0) 0 [] rfl hown0.out w.heap.size A c (ints z) (by rw [ints_length]; rfl) hrow.out (intsCellsM z) (by rw [ints_length]; unfold maxLen; omega) (by rw [ints_length]; omega) (by simp) ?_)
  intro v1 w1 ho1 hg1
  have hF := Lib.hid (And.intro ho1 (hB0.out.grown hg1 (by simp) (fun g hg => by have hg2 : some w.heap.size = some g := hg; injection hg2 with hg2; omega)))
  clear ho1 hg1
  go_wp2
  go_ret
  refine ⟨_, rfl, ?_, hF.out.2⟩
  have := hF.out.1
  rw [ints_length] at this
  exact this
theorem row_takeI {w : World} {B : Nat} {A : Option Addr} {z : List Int} (h : Row w B A (ints z)) (k : Nat) : Row w B A (ints (z.take k)) := fun hl => by
  rw [ints_length, List.length_take] at hl
  obtain ⟨b, off, e, hb, hc⟩ := h (by rw [ints_length]; omega)
  refine ⟨b, off, e, hb, fun i v hv => hc i v ?_⟩
  unfold ints at hv ⊢
  rw [List.map_take, List.getElem?_take] at hv
  split at hv
  · exact hv
  · cases hv
theorem row_dropI {w : World} {B b off : Nat} {z : List Int} (h : Row w B (some ⟨b, off, none⟩) (ints z)) (k : Nat) : Row w B (some ⟨b, off + k, none⟩) (ints (z.drop k)) := fun hl => by
  rw [ints_length, List.length_drop] at hl
  obtain ⟨b', off', e, hb, hc⟩ := h (by rw [ints_length]; omega)
  injection e with e
  simp only [Addr.mk.injEq] at e
  obtain ⟨rfl, rfl, _⟩ := e
  refine ⟨b, off + k, rfl, hb, fun i v hv => ?_⟩
  rw [Nat.add_assoc]
  refine hc (k + i) v ?_
  unfold ints at hv ⊢
  rwa [List.map_drop, List.getElem?_drop] at hv
set_option maxHeartbeats 1600000 in
theorem spec_bePut_nil (x : Int) (w : World) :
    Calls Tryz.prog 16 #[.slice none 0 0, .int .i64 x] w (GivesInts w [x]) := by
  obtain ⟨i1, hi, hz0, hz1, hz2⟩ := info_parts infoInt
  have HI := Lib.hid (And.intro hi (And.intro hz0 (And.intro hz1 hz2)))
  have hown := Lib.hid (spec_l1OwnM 0 none [] 0 w rfl (fun h => by simp [ints] at h) (by omega))
  clear hi hz0 hz1 hz2
  go_enter Tryz.func16, Tryz.ntmps16
  go_wp2
  refine wp_loop_rounds 1 ?_
  rw [rounds_succ]
  go_wp2_with fail
  refine hown.out.mono ?_
  rintro e w1 ⟨v1, rfl, ho1, hB1⟩
  have hO := Lib.hid (And.intro ho1 hB1)
  have hsz := hB1.size
  clear ho1 hB1
  go_wp2_with (at_builtin; refine wpList_append_own _ rfl _ _ 22 rfl w.heap.size 3 i1 (.int .i64 0) 1 8 Tryz.underlying22 HI.out.1 HI.out.2.1 HI.out.2.2.1 HI.out.2.2.2 rfl (by decide) _ _ _ rfl (hO.out.1.alloc _) ⟨w1.heap.size, 0, none⟩ 1 1 [.int .i64 x] rfl rfl (cell_one_new _ _ _) (one_cell _) (by unfold maxLen; omega) (by omega) (by simp; omega) ?_)
  intro v2 w2 ho2 hg2 _
  have hO2 := Lib.hid (And.intro ho2 ((hO.out.2.alloc hsz _).grown hg2 (by simp; omega) (fun k hk => (hO.out.1.lt k hk).1)))
  have hsz2 := hO2.out.2.size
  clear ho2 hg2
  go_wp2_with (at_builtin; refine wpList_append_row _ rfl _ _ 22 rfl w.heap.size 3 i1 _ 8 Tryz.underlying22 HI.out.1 HI.out.2.1 HI.out.2.2.1 HI.out.2.2.2 rfl _ _ _ rfl hO2.out.1 w.heap.size none 0 (ints []) rfl (fun h => by simp [ints] at h) (intsCellsM []) (by simp [ints]; unfold maxLen; omega) (by simp [ints]) hsz2 ?_)
  intro v3 w3 ho3 hg3
  have hF := Lib.hid (And.intro ho3 (hO2.out.2.grown hg3 hsz2 (fun k hk => (hO2.out.1.lt k hk).1)))
  clear ho3 hg3
  go_wp2
  go_ret
  exact givesInts_of (base := w.heap.size) (by simpa [ints] using hF.out.1) rfl hF.out.2
set_option maxHeartbeats 6400000 in
set_option maxRecDepth 100000 in
theorem spec_bePut (n b off : Nat) (z : List Int) (c : Nat) (x : Int) (w : World) (hn : z.length = n) (h : Row w w.heap.size (some ⟨b, off, none⟩) (ints z)) (hl : n ≤ 1000) (hcap : n ≤ c) :
    Calls Tryz.prog 16 #[.slice (some ⟨b, off, none⟩) n c, .int .i64 x] w (GivesInts w (W.putI z x)) := by
  subst hn
  obtain ⟨i1, hi, hz0, hz1, hz2⟩ := info_parts infoInt
  have HI := Lib.hid (And.intro hi (And.intro hz0 (And.intro hz1 hz2)))
  obtain ⟨T, hT⟩ : ∃ T, T = W.putI z x := ⟨_, rfl⟩
  rw [← hT]
  have HT := Lib.hid (show ∀ k, k ≤ z.length → (∀ j (hj : j < z.length), j < k → z[j] ≤ x) → (∀ hk : k < z.length, x < z[k]) → T = z.take k ++ x :: z.drop k from fun k hk h1 h2 => hT.trans (W.putI_at z x k hk h1 (fun hk' => Int.not_le.2 (h2 hk'))))
  have HTl := Lib.hid (show T.length = z.length + 1 by rw [hT]; exact W.putI_length z x)
  have H := Lib.hid h
  have hcapi : (z.length : Int) ≤ (c : Int) := by omega
  clear hi hz0 hz1 hz2 h hT
  go_enter Tryz.func16, Tryz.ntmps16
  go_wp2
  go_loop [5] (fun i => ∃ k : Nat, k ≤ z.length ∧ i = .int .i64 k ∧ Hid (∀ j (hj : j < z.length), j < k → z[j] ≤ x)) (fun i => z.length - (intOf i).toNat)
  case atStart => exact ⟨0, Nat.zero_le _, rfl, fun j hj hj2 => absurd hj2 (Nat.not_lt_zero _)⟩
  case round =>
    obtain ⟨k, hk, rfl, hT⟩ := hrel
    by_cases hgo : ∃ hlt : k < z.length, z[k] ≤ x
    · obtain ⟨hlt, hle⟩ := hgo
      obtain ⟨b', off', e, hb, hcc⟩ := Row.int_at H.out (by omega)
      simp only [Option.some.injEq, Addr.mk.injEq] at e
      obtain ⟨rfl, rfl, _⟩ := e
      have hlt' : (k : Int) < (z.length : Int) := by omega
      have c1 := hcc k hlt
      have hT2 : Hid (∀ j (hj : j < z.length), j < k + 1 → z[j] ≤ x) := fun j hj hj2 => by
        by_cases e : j = k
        · subst e; exact hle
        · exact hT.out j hj (by omega)
      clear hcc
      generalize z[k] = y at c1 hle
      go_wp2
      go_round
      case rel => exact ⟨k + 1, by omega, by go_num, hT2⟩
      case measure => simp [intOf]; omega
    · have hTk := Lib.hid (HT.out k hk hT.out (fun hlt => Int.not_le.1 fun hle => hgo (Exists.intro hlt hle)))
      have hcl : (k : Int) ≤ (c : Int) := by omega
      have hk0 : (0 : Int) ≤ (k : Int) := by omega
      have hkz : (k : Int) ≤ (z.length : Int) := by omega
      have hown := Lib.hid (fun (cc : Nat) => spec_l1OwnM k (some ⟨b, off, none⟩) (z.take k) cc w (by rw [List.length_take]; omega) (row_takeI H.out k) (by omega))
      have htl : (z.take k).length = k := by rw [List.length_take]; omega
      have hfin := Lib.hid (fun (u : World) (v : Value) (ho : u.ownsRow w.heap.size 3 1 v (k + 1 + (ints (z.drop k)).length) (ints (z.take k) ++ (.int .i64 x) :: ints (z.drop k))) => show u.ownsRow w.heap.size 3 1 v T.length (ints T) by
        rw [ints_length, List.length_drop] at ho
        rw [HTl.out, hTk.out, show ints (z.take k ++ x :: z.drop k) = ints (z.take k) ++ (.int .i64 x) :: ints (z.drop k) by unfold ints; simp, show z.length + 1 = k + 1 + (z.length - k) by omega]
        exact ho)
      have hrest := Lib.hid (row_dropI H.out k)
      have hdl : (ints (z.drop k)).length = z.length - k := by rw [ints_length, List.length_drop]
      replace hdl := Lib.hid hdl
      clear htl
      have hway : (k = z.length) ∨ (∃ hlt : k < z.length, x < z[k]) := by
        by_cases hlt : k < z.length
        · exact .inr ⟨hlt, Int.not_le.1 fun hle => hgo (Exists.intro hlt hle)⟩
        · exact .inl (by omega)
      clear hgo
      by_cases hck : c = k
      · have hkz2 : k = z.length := by omega
        have hnl : ¬ ((k : Int) < (z.length : Int)) := by omega
        have hd0 : z.drop k = [] := List.drop_of_length_le (by omega)
        replace hd0 := Lib.hid hd0
        have hck2 := hck.symm
        subst hck2
        replace hkz2 := Lib.hid hkz2
        clear hway
        go_wp2_with fail
        refine (hown.out _).mono ?_
        rintro e w1 ⟨v1, rfl, ho1, hB1⟩
        have hO := Lib.hid (And.intro ho1 hB1)
        have hsz := hB1.size
        clear ho1 hB1
        go_wp2_with (at_builtin; refine wpList_append_own _ rfl _ _ 22 rfl w.heap.size 3 i1 (.int .i64 0) 1 8 Tryz.underlying22 HI.out.1 HI.out.2.1 HI.out.2.2.1 HI.out.2.2.2 rfl (by decide) _ _ _ rfl (hO.out.1.alloc _) ⟨w1.heap.size, 0, none⟩ 1 1 [.int .i64 x] rfl rfl (cell_one_new _ _ _) (one_cell _) (by unfold maxLen; omega) (by omega) (by simp; omega) ?_)
        intro v2 w2 ho2 hg2 _
        have hO2 := Lib.hid (And.intro ho2 ((hO.out.2.alloc hsz _).grown hg2 (by simp; omega) (fun k hk => (hO.out.1.lt k hk).1)))
        have hsz2 := hO2.out.2.size
        clear ho2 hg2
        have hr2 := Lib.hid (show Row w2 w.heap.size (some ⟨b, off, none⟩) (ints []) from fun h => by simp [ints] at h)
        go_wp2_with (at_builtin; refine wpList_append_row _ rfl _ _ 22 rfl w.heap.size 3 i1 _ 8 Tryz.underlying22 HI.out.1 HI.out.2.1 HI.out.2.2.1 HI.out.2.2.2 rfl _ _ _ rfl hO2.out.1 w.heap.size (some ⟨b, off, none⟩) 0 (ints []) rfl hr2.out (intsCellsM []) (by simp [ints]; unfold maxLen; omega) (by simp [ints]; omega) hsz2 ?_)
        intro v3 w3 ho3 hg3
        have hF := Lib.hid (And.intro (hfin.out w3 v3 (by rw [hd0.out]; simpa [ints] using ho3)) (hO2.out.2.grown hg3 hsz2 (fun k hk => (hO2.out.1.lt k hk).1)))
        clear ho3 hg3
        go_wp2
        go_ret
        exact givesInts_of hF.out.1 rfl hF.out.2
      · have hck' : ¬ (c - k = 0) := by omega
        rcases hway with hkz2 | ⟨hlt, hxk⟩
        · have hnl : ¬ ((k : Int) < (z.length : Int)) := by omega
          replace hkz2 := Lib.hid hkz2
          go_wp2_with fail
          refine (hown.out _).mono ?_
          rintro e w1 ⟨v1, rfl, ho1, hB1⟩
          have hO := Lib.hid (And.intro ho1 hB1)
          have hsz := hB1.size
          clear ho1 hB1
          go_wp2_with (at_builtin; refine wpList_append_own _ rfl _ _ 22 rfl w.heap.size 3 i1 (.int .i64 0) 1 8 Tryz.underlying22 HI.out.1 HI.out.2.1 HI.out.2.2.1 HI.out.2.2.2 rfl (by decide) _ _ _ rfl (hO.out.1.alloc _) ⟨w1.heap.size, 0, none⟩ 1 1 [.int .i64 x] rfl rfl (cell_one_new _ _ _) (one_cell _) (by unfold maxLen; omega) (by omega) (by simp; omega) ?_)
          intro v2 w2 ho2 hg2 _
          have hO2 := Lib.hid (And.intro ho2 ((hO.out.2.alloc hsz _).grown hg2 (by simp; omega) (fun k hk => (hO.out.1.lt k hk).1)))
          have hsz2 := hO2.out.2.size
          clear ho2 hg2
          have hr2 := Lib.hid (show Row w2 w.heap.size (some ⟨b, off + k, none⟩) (ints (z.drop k)) from hrest.out.below hO2.out.2)
          go_wp2_with (at_builtin; refine wpList_append_row _ rfl _ _ 22 rfl w.heap.size 3 i1 _ 8 Tryz.underlying22 HI.out.1 HI.out.2.1 HI.out.2.2.1 HI.out.2.2.2 rfl _ _ _ rfl hO2.out.1 w.heap.size (some ⟨b, off + k, none⟩) (c - k) (ints (z.drop k)) (by rw [hdl.out]; rfl) hr2.out (intsCellsM _) (by rw [hdl.out]; unfold maxLen; omega) (by rw [hdl.out]; omega) hsz2 ?_)
          intro v3 w3 ho3 hg3
          have hF := Lib.hid (And.intro (hfin.out w3 v3 ho3) (hO2.out.2.grown hg3 hsz2 (fun k hk => (hO2.out.1.lt k hk).1)))
          clear ho3 hg3
          go_wp2
          go_ret
          exact givesInts_of hF.out.1 rfl hF.out.2
        · obtain ⟨b', off', e, hb, hcc⟩ := Row.int_at H.out (by omega)
          simp only [Option.some.injEq, Addr.mk.injEq] at e
          obtain ⟨rfl, rfl, _⟩ := e
          have hlt' : (k : Int) < (z.length : Int) := by omega
          have c1 := hcc k hlt
          clear hcc
          generalize z[k] = y at c1 hxk
          have hxk' : ¬ y ≤ x := by omega
          go_wp2_with fail
          refine (hown.out _).mono ?_
          rintro e w1 ⟨v1, rfl, ho1, hB1⟩
          have hO := Lib.hid (And.intro ho1 hB1)
          have hsz := hB1.size
          clear ho1 hB1
          go_wp2_with (at_builtin; refine wpList_append_own _ rfl _ _ 22 rfl w.heap.size 3 i1 (.int .i64 0) 1 8 Tryz.underlying22 HI.out.1 HI.out.2.1 HI.out.2.2.1 HI.out.2.2.2 rfl (by decide) _ _ _ rfl (hO.out.1.alloc _) ⟨w1.heap.size, 0, none⟩ 1 1 [.int .i64 x] rfl rfl (cell_one_new _ _ _) (one_cell _) (by unfold maxLen; omega) (by omega) (by simp; omega) ?_)
          intro v2 w2 ho2 hg2 _
          have hO2 := Lib.hid (And.intro ho2 ((hO.out.2.alloc hsz _).grown hg2 (by simp; omega) (fun k hk => (hO.out.1.lt k hk).1)))
          have hsz2 := hO2.out.2.size
          clear ho2 hg2
          have hr2 := Lib.hid (show Row w2 w.heap.size (some ⟨b, off + k, none⟩) (ints (z.drop k)) from hrest.out.below hO2.out.2)
          go_wp2_with (at_builtin; refine wpList_append_row _ rfl _ _ 22 rfl w.heap.size 3 i1 _ 8 Tryz.underlying22 HI.out.1 HI.out.2.1 HI.out.2.2.1 HI.out.2.2.2 rfl _ _ _ rfl hO2.out.1 w.heap.size (some ⟨b, off + k, none⟩) (c - k) (ints (z.drop k)) (by rw [hdl.out]; rfl) hr2.out (intsCellsM _) (by rw [hdl.out]; unfold maxLen; omega) (by rw [hdl.out]; omega) hsz2 ?_)
          intro v3 w3 ho3 hg3
          have hF := Lib.hid (And.intro (hfin.out w3 v3 ho3) (hO2.out.2.grown hg3 hsz2 (fun k hk => (hO2.out.1.lt k hk).1)))
          clear ho3 hg3
          go_wp2
          go_ret
          exact givesInts_of hF.out.1 rfl hF.out.2
end Go.Proofs.YtelfchoeielmhaaGreatDoor
namespace Go.Proofs.YtelfchoeielmhaaGreatDoor
open Go.RowKit Go.Shelf

set_option maxHeartbeats 1600000 in
theorem spec_beFit (A : Option Addr) (z : List Int) (c L : Nat) (w : World) (h : Row w w.heap.size A (ints z)) (h12 : z.length ≤ 12) (hz : z.all (fun x => decide (1 ≤ x ∧ x ≤ 11)) = true) (h2 : 2 ≤ L) (h3 : L ≤ 3) :
    Calls Tryz.prog 15 #[.slice A z.length c, .int .i64 L] w fun e w' => e = .returned (.bool (W.fitD L z)) ∧ w = w' := by
  have Hdef := Lib.hid (show W.fitD L z = decide ((0 : Int) ≤ ((L ^ 11 : Nat) : Int) - ((W.sharesD L (z.take z.length) : Nat) : Int)) by
    rw [List.take_length]
    unfold W.fitD
    generalize L ^ 11 = D
    generalize W.sharesD L z = S
    rw [Bool.eq_iff_iff, decide_eq_true_eq, decide_eq_true_eq]
    omega)
  have hw := fun u => spec_krPower L 11 u (pow_small L _ h3 (by omega)) (by omega)
  have hD := W.wholeD_le L h3
  have Hst := Lib.hid (fun k (hk : k < z.length) => W.sharesD_succ L z k hk)
  have Hle := Lib.hid (fun k => Nat.le_trans (W.sharesD_take_le L z k) (W.sharesD_le L h2 h3 z hz))
  have Hz := Lib.hid (fun k (hk : k < z.length) => W.all_at hz k hk)
  have Hpl := Lib.hid (fun k (hk : k < z.length) => W.partD_le L h2 h3 z[k] (W.all_at hz k hk).1)
  have Hpw := Lib.hid (fun (l : Int) (h1 : 1 ≤ l) (h8 : l ≤ 11) => by
    have hc := spec_krPower L (11 - l.toNat) w (pow_small L _ h3 (by omega)) (by omega)
    rw [show ((11 - l.toNat : Nat) : Int) = 11 - l by omega, show L ^ (11 - l.toNat) = W.partD L l from rfl] at hc
    exact hc)
  rw [show ((11 : Nat) : Int) = 11 from rfl] at hw
  generalize L ^ 11 = D at hw hD Hdef
  have hL3 : (L : Int) ≤ 3 := by omega
  replace hw := Lib.hid hw
  replace h := Lib.hid h
  generalize W.fitD L z = r at Hdef ⊢
  clear hz
  go_enter Tryz.func15, Tryz.ntmps15
  go_wp2_with (go_at_call 25; refine (hw.out _).mono ?_; rintro e w' ⟨rfl, rfl⟩)
  go_loop [5, 12] (fun s i => ∃ k q : Nat, k ≤ z.length ∧ i = .int .i64 k ∧ s = .int .i64 ((D : Int) - (q : Int)) ∧ Hid (q = W.sharesD L (z.take k))) (fun _ i => z.length - (intOf i).toNat)
  case atStart => exact ⟨0, 0, Nat.zero_le _, rfl, by simp, rfl⟩
  case round =>
    obtain ⟨k, q, hk, rfl, rfl, hq⟩ := hrel
    have hq4 := Hle.out k
    rw [← hq.out] at hq4
    by_cases hlt : k < z.length
    · obtain ⟨b, off, rfl, hb, hcc⟩ := Row.int_at h.out (by omega)
      have hlt' : (k : Int) < (z.length : Int) := by omega
      have c1 := hcc k hlt
      clear hcc
      have hl := Hz.out k hlt
      have hs := Hst.out k hlt
      have hp := Hpl.out k hlt
      have hpw := Hpw.out _ hl.1 hl.2
      generalize z[k] = l at c1 hl hs hp hpw
      rw [← hq.out] at hs
      generalize W.partD L l = p at hs hp hpw
      have hpi : (p : Int) ≤ 59049 := by omega
      have hqi : (q : Int) ≤ 708588 := by omega
      have hDi : (D : Int) ≤ 177147 := by omega
      replace hs := Lib.hid hs
      replace hpw := Lib.hid hpw
      go_wp2_with (go_at_call 25; refine hpw.out.mono ?_; rintro e w' ⟨rfl, rfl⟩)
      go_round
      case rel => exact ⟨k + 1, q + p, by omega, by go_num, by go_num, hs.out.symm⟩
      case measure => simp [intOf]; omega
    · obtain rfl : k = z.length := by omega
      have hd := Hdef.out
      rw [← hq.out] at hd
      replace hd := Lib.hid hd
      go_wp2
      go_ret
      refine ⟨?_, rfl⟩
      rw [hd.out]
      simp
end Go.Proofs.YtelfchoeielmhaaGreatDoor
