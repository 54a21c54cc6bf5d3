/-
  WHAT THIS FILE PROVES: ordered lists, merging and the cost of best lengths: the specification's functions give the plain values; asked: slices in memory, lengths that an int holds.
  And: merging, the cost of best lengths and whether lengths are best: the specification's exported functions give the plain values; asked: slices in memory, lengths that an int holds.
-/
import Derived.Test.YthkkneboblhmlaaMr
import Derived.Test.YthkkneboblhmlaaBeS
import Derived.Test.YthkkneboblhmlaaAppend
import Derived.Maps.AppendAt
import Derived.Deep.LoopGhost
namespace Go.Proofs.Ythkkneboblhmlaa
open Go.RowKit Go.Shelf

theorem intsCellsM (z : List Int) : ∀ u ∈ ints z, u.oneCell' = true := fun u hu => by
  unfold ints at hu
  obtain ⟨x, _, rfl⟩ := List.mem_map.1 hu
  rfl
set_option maxHeartbeats 800000 in
theorem spec_l1OwnM (n : Nat) (A : Option Addr) (z : List Int) (c : Nat) (w : World) (hn : z.length = n) (h : Row w w.heap.size A (ints z)) (hl : n ≤ 1048576) :
    Calls Try.prog 33 #[.slice A n c] w fun e w' => ∃ v, e = .returned v ∧ w'.ownsRow w.heap.size 3 1 v n (ints z) ∧ Below w.heap.size w w' := by
  subst hn
  obtain ⟨i0, hi, hz0, hz1, hz2⟩ := info_parts infoInt
  have HR := Lib.hid (And.intro hi (And.intro hz0 (And.intro hz1 hz2)))
  have hown0 := Lib.hid (World.ownsRow_made (base := w.heap.size) (e := 3) (size := 1) w #[] 0 (Nat.le_refl _) (Nat.zero_le _) rfl)
  have hB0 := Lib.hid ((Below.refl w.heap.size w).alloc (Nat.le_refl _) (.cells #[] 3))
  have hrow := Lib.hid (h.below hB0.out)
  clear h hi hz0 hz1 hz2
  go_enter Try.func33, Try.ntmps33
  go_wp2_with (at_builtin; refine wpList_append_row _ rfl _ _ 22 rfl w.heap.size 3 i0 _ 8 Try.underlying22 HR.out.1 HR.out.2.1 HR.out.2.2.1 HR.out.2.2.2 rfl (.slice (some ⟨w.heap.size, 0, none⟩) 0 0) 0 [] rfl hown0.out w.heap.size A c (ints z) (by rw [ints_length]; rfl) hrow.out (intsCellsM z) (by rw [ints_length]; unfold maxLen; omega) (by rw [ints_length]; omega) (by simp) ?_)
  intro v1 w1 ho1 hg1
  have hF := Lib.hid (And.intro ho1 (hB0.out.grown hg1 (by simp) (fun g hg => by have hg2 : some w.heap.size = some g := hg; injection hg2 with hg2; omega)))
  clear ho1 hg1
  go_wp2
  go_ret
  refine ⟨_, rfl, ?_, hF.out.2⟩
  have := hF.out.1
  rw [ints_length] at this
  exact this
theorem row_takeI {w : World} {B : Nat} {A : Option Addr} {z : List Int} (h : Row w B A (ints z)) (k : Nat) : Row w B A (ints (z.take k)) := fun hl => by
  rw [ints_length, List.length_take] at hl
  obtain ⟨b, off, e, hb, hc⟩ := h (by rw [ints_length]; omega)
  refine ⟨b, off, e, hb, fun i v hv => hc i v ?_⟩
  unfold ints at hv ⊢
  rw [List.map_take, List.getElem?_take] at hv
  split at hv
  · exact hv
  · cases hv
theorem row_dropI {w : World} {B b off : Nat} {z : List Int} (h : Row w B (some ⟨b, off, none⟩) (ints z)) (k : Nat) : Row w B (some ⟨b, off + k, none⟩) (ints (z.drop k)) := fun hl => by
  rw [ints_length, List.length_drop] at hl
  obtain ⟨b', off', e, hb, hc⟩ := h (by rw [ints_length]; omega)
  injection e with e
  simp only [Addr.mk.injEq] at e
  obtain ⟨rfl, rfl, _⟩ := e
  refine ⟨b, off + k, rfl, hb, fun i v hv => ?_⟩
  rw [Nat.add_assoc]
  refine hc (k + i) v ?_
  unfold ints at hv ⊢
  rwa [List.map_drop, List.getElem?_drop] at hv
set_option maxHeartbeats 1600000 in
theorem spec_bePut_nil (x : Int) (w : World) :
    Calls Try.prog 63 #[.slice none 0 0, .int .i64 x] w (GivesInts w [x]) := by
  obtain ⟨i1, hi, hz0, hz1, hz2⟩ := info_parts infoInt
  have HI := Lib.hid (And.intro hi (And.intro hz0 (And.intro hz1 hz2)))
  have hown := Lib.hid (spec_l1OwnM 0 none [] 0 w rfl (fun h => by simp [ints] at h) (by omega))
  clear hi hz0 hz1 hz2
  go_enter Try.func63, Try.ntmps63
  go_wp2
  refine wp_loop_rounds 1 ?_
  rw [rounds_succ]
  go_wp2_with fail
  refine hown.out.mono ?_
  rintro e w1 ⟨v1, rfl, ho1, hB1⟩
  have hO := Lib.hid (And.intro ho1 hB1)
  have hsz := hB1.size
  clear ho1 hB1
  go_wp2_with (at_builtin; refine wpList_append_own _ rfl _ _ 22 rfl w.heap.size 3 i1 (.int .i64 0) 1 8 Try.underlying22 HI.out.1 HI.out.2.1 HI.out.2.2.1 HI.out.2.2.2 rfl (by decide) _ _ _ rfl (hO.out.1.alloc _) ⟨w1.heap.size, 0, none⟩ 1 1 [.int .i64 x] rfl rfl (cell_one_new _ _ _) (one_cell _) (by unfold maxLen; omega) (by omega) (by simp; omega) ?_)
  intro v2 w2 ho2 hg2 _
  have hO2 := Lib.hid (And.intro ho2 ((hO.out.2.alloc hsz _).grown hg2 (by simp; omega) (fun k hk => (hO.out.1.lt k hk).1)))
  have hsz2 := hO2.out.2.size
  clear ho2 hg2
  go_wp2_with (at_builtin; refine wpList_append_row _ rfl _ _ 22 rfl w.heap.size 3 i1 _ 8 Try.underlying22 HI.out.1 HI.out.2.1 HI.out.2.2.1 HI.out.2.2.2 rfl _ _ _ rfl hO2.out.1 w.heap.size none 0 (ints []) rfl (fun h => by simp [ints] at h) (intsCellsM []) (by simp [ints]; unfold maxLen; omega) (by simp [ints]) hsz2 ?_)
  intro v3 w3 ho3 hg3
  have hF := Lib.hid (And.intro ho3 (hO2.out.2.grown hg3 hsz2 (fun k hk => (hO2.out.1.lt k hk).1)))
  clear ho3 hg3
  go_wp2
  go_ret
  exact givesInts_of (base := w.heap.size) (by simpa [ints] using hF.out.1) rfl hF.out.2
set_option maxHeartbeats 6400000 in
set_option maxRecDepth 100000 in
theorem spec_bePut (n b off : Nat) (z : List Int) (c : Nat) (x : Int) (w : World) (hn : z.length = n) (h : Row w w.heap.size (some ⟨b, off, none⟩) (ints z)) (hl : n ≤ 1000) (hcap : n ≤ c) :
    Calls Try.prog 63 #[.slice (some ⟨b, off, none⟩) n c, .int .i64 x] w (GivesInts w (W.putI z x)) := by
  subst hn
  obtain ⟨i1, hi, hz0, hz1, hz2⟩ := info_parts infoInt
  have HI := Lib.hid (And.intro hi (And.intro hz0 (And.intro hz1 hz2)))
  obtain ⟨T, hT⟩ : ∃ T, T = W.putI z x := ⟨_, rfl⟩
  rw [← hT]
  have HT := Lib.hid (show ∀ k, k ≤ z.length → (∀ j (hj : j < z.length), j < k → z[j] ≤ x) → (∀ hk : k < z.length, x < z[k]) → T = z.take k ++ x :: z.drop k from fun k hk h1 h2 => hT.trans (W.putI_at z x k hk h1 (fun hk' => Int.not_le.2 (h2 hk'))))
  have HTl := Lib.hid (show T.length = z.length + 1 by rw [hT]; exact W.putI_length z x)
  have H := Lib.hid h
  have hcapi : (z.length : Int) ≤ (c : Int) := by omega
  clear hi hz0 hz1 hz2 h hT
  go_enter Try.func63, Try.ntmps63
  go_wp2
  go_loop [5] (fun i => ∃ k : Nat, k ≤ z.length ∧ i = .int .i64 k ∧ Hid (∀ j (hj : j < z.length), j < k → z[j] ≤ x)) (fun i => z.length - (intOf i).toNat)
  case atStart => exact ⟨0, Nat.zero_le _, rfl, fun j hj hj2 => absurd hj2 (Nat.not_lt_zero _)⟩
  case round =>
    obtain ⟨k, hk, rfl, hT⟩ := hrel
    by_cases hgo : ∃ hlt : k < z.length, z[k] ≤ x
    · obtain ⟨hlt, hle⟩ := hgo
      obtain ⟨b', off', e, hb, hcc⟩ := Row.int_at H.out (by omega)
      simp only [Option.some.injEq, Addr.mk.injEq] at e
      obtain ⟨rfl, rfl, _⟩ := e
      have hlt' : (k : Int) < (z.length : Int) := by omega
      have c1 := hcc k hlt
      have hT2 : Hid (∀ j (hj : j < z.length), j < k + 1 → z[j] ≤ x) := fun j hj hj2 => by
        by_cases e : j = k
        · subst e; exact hle
        · exact hT.out j hj (by omega)
      clear hcc
      generalize z[k] = y at c1 hle
      go_wp2
      go_round
      case rel => exact ⟨k + 1, by omega, by go_num, hT2⟩
      case measure => simp [intOf]; omega
    · have hTk := Lib.hid (HT.out k hk hT.out (fun hlt => Int.not_le.1 fun hle => hgo (Exists.intro hlt hle)))
      have hcl : (k : Int) ≤ (c : Int) := by omega
      have hk0 : (0 : Int) ≤ (k : Int) := by omega
      have hkz : (k : Int) ≤ (z.length : Int) := by omega
      have hown := Lib.hid (fun (cc : Nat) => spec_l1OwnM k (some ⟨b, off, none⟩) (z.take k) cc w (by rw [List.length_take]; omega) (row_takeI H.out k) (by omega))
      have htl : (z.take k).length = k := by rw [List.length_take]; omega
      have hfin := Lib.hid (fun (u : World) (v : Value) (ho : u.ownsRow w.heap.size 3 1 v (k + 1 + (ints (z.drop k)).length) (ints (z.take k) ++ (.int .i64 x) :: ints (z.drop k))) => show u.ownsRow w.heap.size 3 1 v T.length (ints T) by
        rw [ints_length, List.length_drop] at ho
        rw [HTl.out, hTk.out, show ints (z.take k ++ x :: z.drop k) = ints (z.take k) ++ (.int .i64 x) :: ints (z.drop k) by unfold ints; simp, show z.length + 1 = k + 1 + (z.length - k) by omega]
        exact ho)
      have hrest := Lib.hid (row_dropI H.out k)
      have hdl : (ints (z.drop k)).length = z.length - k := by rw [ints_length, List.length_drop]
      replace hdl := Lib.hid hdl
      clear htl
      have hway : (k = z.length) ∨ (∃ hlt : k < z.length, x < z[k]) := by
        by_cases hlt : k < z.length
        · exact .inr ⟨hlt, Int.not_le.1 fun hle => hgo (Exists.intro hlt hle)⟩
        · exact .inl (by omega)
      clear hgo
      by_cases hck : c = k
      · have hkz2 : k = z.length := by omega
        have hnl : ¬ ((k : Int) < (z.length : Int)) := by omega
        have hd0 : z.drop k = [] := List.drop_of_length_le (by omega)
        replace hd0 := Lib.hid hd0
        have hck2 := hck.symm
        subst hck2
        replace hkz2 := Lib.hid hkz2
        clear hway
        go_wp2_with fail
        refine (hown.out _).mono ?_
        rintro e w1 ⟨v1, rfl, ho1, hB1⟩
        have hO := Lib.hid (And.intro ho1 hB1)
        have hsz := hB1.size
        clear ho1 hB1
        go_wp2_with (at_builtin; refine wpList_append_own _ rfl _ _ 22 rfl w.heap.size 3 i1 (.int .i64 0) 1 8 Try.underlying22 HI.out.1 HI.out.2.1 HI.out.2.2.1 HI.out.2.2.2 rfl (by decide) _ _ _ rfl (hO.out.1.alloc _) ⟨w1.heap.size, 0, none⟩ 1 1 [.int .i64 x] rfl rfl (cell_one_new _ _ _) (one_cell _) (by unfold maxLen; omega) (by omega) (by simp; omega) ?_)
        intro v2 w2 ho2 hg2 _
        have hO2 := Lib.hid (And.intro ho2 ((hO.out.2.alloc hsz _).grown hg2 (by simp; omega) (fun k hk => (hO.out.1.lt k hk).1)))
        have hsz2 := hO2.out.2.size
        clear ho2 hg2
        have hr2 := Lib.hid (show Row w2 w.heap.size (some ⟨b, off, none⟩) (ints []) from fun h => by simp [ints] at h)
        go_wp2_with (at_builtin; refine wpList_append_row _ rfl _ _ 22 rfl w.heap.size 3 i1 _ 8 Try.underlying22 HI.out.1 HI.out.2.1 HI.out.2.2.1 HI.out.2.2.2 rfl _ _ _ rfl hO2.out.1 w.heap.size (some ⟨b, off, none⟩) 0 (ints []) rfl hr2.out (intsCellsM []) (by simp [ints]; unfold maxLen; omega) (by simp [ints]; omega) hsz2 ?_)
        intro v3 w3 ho3 hg3
        have hF := Lib.hid (And.intro (hfin.out w3 v3 (by rw [hd0.out]; simpa [ints] using ho3)) (hO2.out.2.grown hg3 hsz2 (fun k hk => (hO2.out.1.lt k hk).1)))
        clear ho3 hg3
        go_wp2
        go_ret
        exact givesInts_of hF.out.1 rfl hF.out.2
      · have hck' : ¬ (c - k = 0) := by omega
        rcases hway with hkz2 | ⟨hlt, hxk⟩
        · have hnl : ¬ ((k : Int) < (z.length : Int)) := by omega
          replace hkz2 := Lib.hid hkz2
          go_wp2_with fail
          refine (hown.out _).mono ?_
          rintro e w1 ⟨v1, rfl, ho1, hB1⟩
          have hO := Lib.hid (And.intro ho1 hB1)
          have hsz := hB1.size
          clear ho1 hB1
          go_wp2_with (at_builtin; refine wpList_append_own _ rfl _ _ 22 rfl w.heap.size 3 i1 (.int .i64 0) 1 8 Try.underlying22 HI.out.1 HI.out.2.1 HI.out.2.2.1 HI.out.2.2.2 rfl (by decide) _ _ _ rfl (hO.out.1.alloc _) ⟨w1.heap.size, 0, none⟩ 1 1 [.int .i64 x] rfl rfl (cell_one_new _ _ _) (one_cell _) (by unfold maxLen; omega) (by omega) (by simp; omega) ?_)
          intro v2 w2 ho2 hg2 _
          have hO2 := Lib.hid (And.intro ho2 ((hO.out.2.alloc hsz _).grown hg2 (by simp; omega) (fun k hk => (hO.out.1.lt k hk).1)))
          have hsz2 := hO2.out.2.size
          clear ho2 hg2
          have hr2 := Lib.hid (show Row w2 w.heap.size (some ⟨b, off + k, none⟩) (ints (z.drop k)) from hrest.out.below hO2.out.2)
          go_wp2_with (at_builtin; refine wpList_append_row _ rfl _ _ 22 rfl w.heap.size 3 i1 _ 8 Try.underlying22 HI.out.1 HI.out.2.1 HI.out.2.2.1 HI.out.2.2.2 rfl _ _ _ rfl hO2.out.1 w.heap.size (some ⟨b, off + k, none⟩) (c - k) (ints (z.drop k)) (by rw [hdl.out]; rfl) hr2.out (intsCellsM _) (by rw [hdl.out]; unfold maxLen; omega) (by rw [hdl.out]; omega) hsz2 ?_)
          intro v3 w3 ho3 hg3
          have hF := Lib.hid (And.intro (hfin.out w3 v3 ho3) (hO2.out.2.grown hg3 hsz2 (fun k hk => (hO2.out.1.lt k hk).1)))
          clear ho3 hg3
          go_wp2
          go_ret
          exact givesInts_of hF.out.1 rfl hF.out.2
        · obtain ⟨b', off', e, hb, hcc⟩ := Row.int_at H.out (by omega)
          simp only [Option.some.injEq, Addr.mk.injEq] at e
          obtain ⟨rfl, rfl, _⟩ := e
          have hlt' : (k : Int) < (z.length : Int) := by omega
          have c1 := hcc k hlt
          clear hcc
          generalize z[k] = y at c1 hxk
          have hxk' : ¬ y ≤ x := by omega
          go_wp2_with fail
          refine (hown.out _).mono ?_
          rintro e w1 ⟨v1, rfl, ho1, hB1⟩
          have hO := Lib.hid (And.intro ho1 hB1)
          have hsz := hB1.size
          clear ho1 hB1
          go_wp2_with (at_builtin; refine wpList_append_own _ rfl _ _ 22 rfl w.heap.size 3 i1 (.int .i64 0) 1 8 Try.underlying22 HI.out.1 HI.out.2.1 HI.out.2.2.1 HI.out.2.2.2 rfl (by decide) _ _ _ rfl (hO.out.1.alloc _) ⟨w1.heap.size, 0, none⟩ 1 1 [.int .i64 x] rfl rfl (cell_one_new _ _ _) (one_cell _) (by unfold maxLen; omega) (by omega) (by simp; omega) ?_)
          intro v2 w2 ho2 hg2 _
          have hO2 := Lib.hid (And.intro ho2 ((hO.out.2.alloc hsz _).grown hg2 (by simp; omega) (fun k hk => (hO.out.1.lt k hk).1)))
          have hsz2 := hO2.out.2.size
          clear ho2 hg2
          have hr2 := Lib.hid (show Row w2 w.heap.size (some ⟨b, off + k, none⟩) (ints (z.drop k)) from hrest.out.below hO2.out.2)
          go_wp2_with (at_builtin; refine wpList_append_row _ rfl _ _ 22 rfl w.heap.size 3 i1 _ 8 Try.underlying22 HI.out.1 HI.out.2.1 HI.out.2.2.1 HI.out.2.2.2 rfl _ _ _ rfl hO2.out.1 w.heap.size (some ⟨b, off + k, none⟩) (c - k) (ints (z.drop k)) (by rw [hdl.out]; rfl) hr2.out (intsCellsM _) (by rw [hdl.out]; unfold maxLen; omega) (by rw [hdl.out]; omega) hsz2 ?_)
          intro v3 w3 ho3 hg3
          have hF := Lib.hid (And.intro (hfin.out w3 v3 ho3) (hO2.out.2.grown hg3 hsz2 (fun k hk => (hO2.out.1.lt k hk).1)))
          clear ho3 hg3
          go_wp2
          go_ret
          exact givesInts_of hF.out.1 rfl hF.out.2
set_option maxHeartbeats 6400000 in
set_option maxRecDepth 100000 in
theorem spec_beMerge (L : Nat) (A : Option Addr) (z : List Int) (c : Nat) (w : World) (h : Row w w.heap.size A (ints z)) (hz : W.beN 100 z = true) (h2 : 2 ≤ L) (h3 : L ≤ 3) :
    Calls Try.prog 56 #[.slice A z.length c, .int .i64 L] w (GivesInts w (W.mgAll L z)) := by
  obtain ⟨⟨hz1, hz12⟩, _⟩ := W.beN_parts hz
  have Hsm := Lib.hid ((W.beN_small hz).perm (W.sortI_perm z).symm)
  obtain ⟨i1, hi, hy0, hy1, hy2⟩ := info_parts infoInt
  have HI := Lib.hid (And.intro hi (And.intro hy0 (And.intro hy1 hy2)))
  obtain ⟨T, hT⟩ : ∃ T, T = W.mgAll L z := ⟨_, rfl⟩
  rw [← hT]
  have HT : Hid ([] ++ W.mgR L 12 (W.mgT L z.length) (W.sortI z) = T) := by show _ = _; rw [hT, W.mgR_sort]; rfl
  have Hok := Lib.hid (W.mgOk_first h2 h3 z.length)
  have Htk := Lib.hid (fun k (hk : k < z.length) => W.sortI_take_succ z k hk)
  have HsL := Lib.hid (fun k (hk : k ≤ z.length) => show (W.sortI (z.take k)).length = k by rw [W.sortI_length, List.length_take]; omega)
  have Hup := Lib.hid (W.sortI_up z)
  have Hall : Hid (W.sortI (z.take z.length) = W.sortI z) := by show _ = _; rw [List.take_length]
  have H := Lib.hid h
  have H0 : Hid (W.sortI (z.take 0) = []) := by show _ = _; rw [List.take_zero]; exact W.sortI_nil
  have hz12' : (z.length : Int) ≤ 12 := by omega
  have hz1' : (1 : Int) ≤ (z.length : Int) := by omega
  clear h hz hi hy0 hy1 hy2 hT
  have hcase : (((L : Int) == 3) = false ∧ W.mgT L z.length = L) ∨ (((L : Int) == 3) = true ∧ (z.length : Int) % 2 = 0 ∧ W.mgT L z.length = 2) ∨ (((L : Int) == 3) = true ∧ (z.length : Int) % 2 = 1 ∧ W.mgT L z.length = L) := by
    unfold W.mgT
    have hL : L = 2 ∨ L = 3 := by omega
    rcases hL with rfl | rfl
    · exact .inl ⟨rfl, if_neg (by omega)⟩
    · by_cases hp : z.length % 2 = 0
      · exact .inr (.inl ⟨rfl, by omega, if_pos ⟨rfl, hp⟩⟩)
      · exact .inr (.inr ⟨rfl, by omega, if_neg (by omega)⟩)
  have hL2 : (2 : Int) ≤ L := by omega
  have hL3 : (L : Int) ≤ 3 := by omega
  replace hcase := Lib.hid hcase
  go_enter Try.func56, Try.ntmps56
  go_wp2
  go_loopw [5, 15] (fun v i wr => ∃ k : Nat, k ≤ z.length ∧ i = .int .i64 k ∧ (k = 0 → v = .slice none 0 0) ∧ wr.ownsRow w.heap.size 3 1 v k (ints (W.sortI (z.take k))) ∧ Below w.heap.size w wr) (fun _ i _ => z.length - (intOf i).toNat)
  case atStart => exact ⟨0, Nat.zero_le _, rfl, fun _ => rfl, by rw [H0.out]; exact World.ownsRow_nil _ _ _ _, Below.refl _ _⟩
  case round =>
    obtain ⟨k, hk, rfl, hnil, ho, hB⟩ := hrel
    have hO := Lib.hid (And.intro ho hB)
    have hszr := hB.size
    clear ho hB
    by_cases hlt : k < z.length
    · obtain ⟨b, off, rfl, hb, hcc⟩ := Row.int_at H.out (by omega)
      have hlt' : (k : Int) < (z.length : Int) := by omega
      have c1 := (hO.out.2.cell (p := ⟨b, off + k, none⟩) hb).trans (hcc k hlt)
      have htk := Htk.out k hlt
      have hl1 := HsL.out (k + 1) (by omega)
      rw [htk] at hl1
      clear hcc
      generalize z[k] = x at c1 htk hl1
      have hput : Hid (Calls Try.prog 63 #[u5, .int .i64 x] wr (GivesInts wr (W.putI (W.sortI (z.take k)) x))) := by
        by_cases h0 : k = 0
        · subst h0
          rw [hnil rfl, H0.out]
          exact spec_bePut_nil x wr
        · obtain ⟨A1, c1', rfl⟩ := own_slice hO.out.1
          obtain ⟨g1, rfl, _, _⟩ := own_form hO.out.1 (by omega)
          exact spec_bePut k g1 0 _ c1' x wr (HsL.out k hk) (Row.of_own hO.out.1) (by omega) (own_cap hO.out.1)
      replace htk := Lib.hid htk
      replace hl1 := Lib.hid hl1
      clear hnil
      go_wp2_with fail
      refine hput.out.mono ?_
      rintro e w1 ⟨A2, c2, rfl, ho2, hB2⟩
      have hF := Lib.hid (And.intro (own_base ho2 hszr) (hO.out.2.trans (hB2.mono hszr)))
      clear ho2 hB2
      go_wp2
      go_roundw
      case rel => exact ⟨k + 1, by omega, by go_num, fun h => by omega, by rw [htk.out]; have := hF.out.1; rw [hl1.out] at this ⊢; exact this, hF.out.2⟩
      case measure => simp [intOf]; omega
    · obtain rfl : k = z.length := by omega
      obtain ⟨A1, c1, rfl⟩ := own_slice hO.out.1
      obtain ⟨g1, rfl, hg1, hg2⟩ := own_form hO.out.1 (by omega)
      have hO1 := hO.out
      rw [Hall.out] at hO1
      have hsl0 := W.sortI_length z
      generalize W.sortI z = s0 at HT Hsm Hup hO1 hsl0
      replace hO1 := Lib.hid hO1
      have hszr2 := hszr
      clear hO hnil
      rcases hcase.out with ⟨hLe, ht⟩ | ⟨hLe, hpi, ht⟩ | ⟨hLe, hpi, ht⟩
      all_goals
        rw [ht] at HT Hok
        clear ht hcase
        generalize wr = wq at *
        go_wp2_with fail
        clear hLe
        try clear hpi
        go_loopg [5, 8, 9] z.length (fun gk lv ov tv wr => ∃ (s sums : List Int) (t f g cap : Nat), lv = .slice (some ⟨g, 0, none⟩) s.length cap ∧ tv = .int .i64 t ∧ 1 ≤ s.length ∧ s.length ≤ gk ∧ s.length ≤ f ∧ sums.length + s.length ≤ 13 ∧ s.length ≤ 12 ∧ Hid (sums ++ W.mgR L f t s = T) ∧ Hid (W.Sm 1200 s) ∧ Hid (W.UpI s) ∧ Hid (W.mgOk L t s.length) ∧ wr.ownsRow w.heap.size 3 1 ov sums.length (ints sums) ∧ wr.ownsRow w.heap.size 3 1 (.slice (some ⟨g, 0, none⟩) s.length cap) s.length (ints s) ∧ (ov.ownBlock = none ∨ ov.ownBlock ≠ some g) ∧ Below w.heap.size w wr)
        case atStart => first
          | exact ⟨s0, [], L, 12, g1, c1, by rw [hsl0], rfl, by omega, by omega, by omega, by simp; omega, by omega, HT, Hsm.out, Hup.out, by rw [hsl0]; exact Hok.out, World.ownsRow_nil _ _ _ _, by rw [hsl0]; exact hO1.out.1, .inl rfl, hO1.out.2⟩
          | exact ⟨s0, [], 2, 12, g1, c1, by rw [hsl0], rfl, by omega, by omega, by omega, by simp; omega, by omega, HT, Hsm.out, Hup.out, by rw [hsl0]; exact Hok.out, World.ownsRow_nil _ _ _ _, by rw [hsl0]; exact hO1.out.1, .inl rfl, hO1.out.2⟩
        case round =>
          clear hO1
          obtain ⟨s, sums, t, f, g, cap, rfl, rfl, hn1, hngk, hnf, hsn, hn12, HT', HS, HU, HO, ho, hol, hap, hB⟩ := hrel
          have hncap := own_cap hol
          have hgl := hol.lt g rfl
          have hO := Lib.hid (And.intro ho (And.intro hol (And.intro hap hB)))
          have hszr := hB.size
          clear ho hol hap hB
          by_cases hlt : 1 < s.length
          · have hlt' : (1 : Int) < (s.length : Int) := by omega
            obtain ⟨ht2, htn, ht3⟩ := W.mgOk_le HO.out hlt
            obtain ⟨f', rfl⟩ : ∃ f', f = f' + 1 := ⟨f - 1, by omega⟩
            have hst := Lib.hid HT'.out
            rw [W.mgR_put L f' t HU.out hlt] at hst
            have hSp := Lib.hid (HS.out.put HU.out t)
            have hUp := Lib.hid (W.putI_up (W.up_drop HU.out t) ((s.take t).sum))
            have hOn := Lib.hid (W.mgOk_next HO.out hlt)
            have hNl := W.putI_length (s.drop t) ((s.take t).sum)
            rw [List.length_drop] at hNl
            have hss := Lib.hid (fun k (hk : k < t) => W.sum_take_succ (s.take t) k (by rw [List.length_take]; omega))
            have hsb := Lib.hid (fun k (hk : k ≤ t) => ((HS.out.take t).take k).total)
            have hend0 : Hid ((List.take t (s.take t)).sum = (s.take t).sum) := by show _ = _; rw [List.take_take, Nat.min_self]
            have hst0 : Hid ((List.take 0 (s.take t)).sum = 0) := rfl
            have hgt := Lib.hid (fun k (hk : k < t) => show (s.take t)[k]'(by rw [List.length_take]; omega) = s[k]'(by omega) from List.getElem_take ..)
            have hxs := Lib.hid (fun k (hk : k < s.length) => HS.out.at k hk)
            have hrow := Lib.hid (fun (u : World) (hu : u.ownsRow w.heap.size 3 1 (.slice (some ⟨g, 0, none⟩) s.length cap) s.length (ints s)) => show Row u u.heap.size (some ⟨g, 0 + t, none⟩) (ints (s.drop t)) from row_dropI (Row.of_own hu) t)
            have hdl : Hid ((s.drop t).length = s.length - t) := List.length_drop
            have hputT := Lib.hid (fun (off cc : Nat) (u : World) (hu : Row u u.heap.size (some ⟨g, off, none⟩) (ints (s.drop t))) (hc : s.length - t ≤ cc) => spec_bePut (s.length - t) g off (s.drop t) cc ((s.take t).sum) u List.length_drop hu (by omega) hc)
            generalize hX : W.putI (s.drop t) ((s.take t).sum) = s2 at hst hSp hUp hNl hputT
            clear hX
            generalize hx : (s.take t).sum = x at hst hend0 hputT
            have hxb : 0 ≤ x ∧ x ≤ 1200 := by rw [← hx]; exact (HS.out.take t).total
            clear hx
            have ht0 : (0 : Int) ≤ (t : Int) := by omega
            have htc : (t : Int) ≤ (cap : Int) := by omega
            have htn' : (t : Int) ≤ (s.length : Int) := by omega
            go_wp2_with fail
            go_loop [10, 39] (fun sv i => ∃ (k : Nat) (q : Int), k ≤ t ∧ i = .int .i64 k ∧ sv = .int .i64 q ∧ Hid (q = (List.take k (s.take t)).sum)) (fun _ i => t - (intOf i).toNat)
            case atStart => exact ⟨0, 0, Nat.zero_le _, rfl, rfl, hst0.out.symm⟩
            case round =>
              obtain ⟨k, q, hk, rfl, rfl, hq⟩ := hrel
              by_cases hkt : k < t
              · have hkt' : (k : Int) < (t : Int) := by omega
                have cc1 := hO.out.2.1.cellAt k (by omega)
                rw [ints_at s k (by omega)] at cc1
                have hs1 := hss.out k hkt
                have hb1 := hsb.out k hk
                rw [hgt.out k hkt] at hs1
                rw [← hq.out] at hs1 hb1
                have hxk := hxs.out k (by omega)
                generalize s[k] = y at cc1 hs1 hxk
                replace hs1 := Lib.hid hs1
                go_wp2
                go_round
                case rel => exact ⟨k + 1, q + y, by omega, by go_num, by go_num, hs1.out.symm⟩
                case measure => simp [intOf]; omega
              · have e : t = k := by omega
                subst e
                obtain rfl : x = q := (hq.out.trans hend0.out).symm
                clear hq
                by_cases hct : cap = t
                · have hd0 : s.drop t = [] := List.drop_of_length_le (by omega)
                  have hp1 := Lib.hid (hputT.out 0 0 wr (fun h => by rw [hd0] at h; simp [ints] at h) (by omega))
                  replace hd0 := Lib.hid hd0
                  go_wp2_with fail
                  refine hp1.out.mono ?_
                  rintro e w1 ⟨A2, c2, rfl, ho2, hB2⟩
                  obtain ⟨g2, rfl, hg2a, hg2b⟩ := own_form ho2 (by omega)
                  have hsz1 := hB2.size
                  have hO1 := Lib.hid (show w1.ownsRow w.heap.size 3 1 u8 sums.length (ints sums) ∧ w1.ownsRow w.heap.size 3 1 (.slice (some ⟨g2, 0, none⟩) s2.length c2) s2.length (ints s2) ∧ (u8.ownBlock = none ∨ u8.ownBlock ≠ some g2) ∧ Below w.heap.size w w1 from ⟨own_below hO.out.1 hB2, own_base ho2 hszr, by
                    cases hob : u8.ownBlock with
                    | none => exact .inl rfl
                    | some k =>
                      right
                      intro e
                      injection e with e
                      have := (hO.out.1.lt k hob).2
                      omega, hO.out.2.2.2.trans (hB2.mono hszr)⟩)
                  clear ho2 hB2
                  go_wp2_with (at_builtin; refine wpList_append_own_at _ rfl _ _ 22 rfl w.heap.size 3 i1 (.int .i64 0) 1 8 Try.underlying22 HI.out.1 HI.out.2.1 HI.out.2.2.1 HI.out.2.2.2 rfl (by decide) _ _ _ rfl (hO1.out.1.alloc _) ⟨w1.heap.size, 0, none⟩ 1 1 [.int .i64 x] rfl rfl (cell_one_new _ _ _) (one_cell _) (by unfold maxLen; omega) (by omega) (by simp; omega) ?_)
                  intro v3 w3 hown3 hgr3 _ hat3
                  have hF := Lib.hid (show w3.ownsRow w.heap.size 3 1 v3 (sums ++ [x]).length (ints (sums ++ [x])) ∧ w3.ownsRow w.heap.size 3 1 (.slice (some ⟨g2, 0, none⟩) s2.length c2) s2.length (ints s2) ∧ (v3.ownBlock = none ∨ v3.ownBlock ≠ some g2) ∧ Below w.heap.size w w3 from by
                    refine ⟨?_, (hO1.out.2.1.alloc _).kept hgr3 ?_, ?_, (hO1.out.2.2.2.alloc (by omega) _).grown hgr3 (by simp; omega) (fun k hk => (hO1.out.1.lt k hk).1)⟩
                    · have e : (sums ++ [x]).length = sums.length + 1 := by simp
                      rw [e, ints_snoc]
                      exact hown3
                    · right
                      intro e
                      have e' : some g2 = u8.ownBlock := e
                      rcases hO1.out.2.2.1 with h | h
                      · rw [h] at e'; cases e'
                      · exact h e'.symm
                    · rcases hat3 with e | e
                      · rw [e]; exact hO1.out.2.2.1
                      · right
                        rw [e]
                        simp
                        omega)
                  have hsl1 : (sums ++ [x]).length = sums.length + 1 := by simp
                  have hT3 := Lib.hid (show (sums ++ [x]) ++ W.mgR L f' L s2 = T by rw [List.append_assoc]; exact hst.out)
                  replace hsl1 := Lib.hid hsl1
                  have hOn2 := Lib.hid (show W.mgOk L L s2.length by rw [hNl]; exact hOn.out)
                  clear hown3 hgr3 hat3
                  go_wp2
                  go_roundg (gk - 1)
                  case measure => omega
                  case rel => exact ⟨s2, sums ++ [x], L, f', g2, c2, by rw [hNl], rfl, by omega, by omega, by omega, by rw [hsl1.out]; omega, by omega, hT3.out, hSp.out, hUp.out, hOn2.out, hF.out.1, hF.out.2.1, hF.out.2.2.1, hF.out.2.2.2⟩

                · have hr := hrow.out wr hO.out.2.1
                  rw [Nat.zero_add] at hr
                  have hp1 := Lib.hid (hputT.out t (cap - t) wr hr (by omega))
                  clear hr
                  go_wp2_with fail
                  refine hp1.out.mono ?_
                  rintro e w1 ⟨A2, c2, rfl, ho2, hB2⟩
                  obtain ⟨g2, rfl, hg2a, hg2b⟩ := own_form ho2 (by omega)
                  have hsz1 := hB2.size
                  have hO1 := Lib.hid (show w1.ownsRow w.heap.size 3 1 u8 sums.length (ints sums) ∧ w1.ownsRow w.heap.size 3 1 (.slice (some ⟨g2, 0, none⟩) s2.length c2) s2.length (ints s2) ∧ (u8.ownBlock = none ∨ u8.ownBlock ≠ some g2) ∧ Below w.heap.size w w1 from ⟨own_below hO.out.1 hB2, own_base ho2 hszr, by
                    cases hob : u8.ownBlock with
                    | none => exact .inl rfl
                    | some k =>
                      right
                      intro e
                      injection e with e
                      have := (hO.out.1.lt k hob).2
                      omega, hO.out.2.2.2.trans (hB2.mono hszr)⟩)
                  clear ho2 hB2
                  go_wp2_with (at_builtin; refine wpList_append_own_at _ rfl _ _ 22 rfl w.heap.size 3 i1 (.int .i64 0) 1 8 Try.underlying22 HI.out.1 HI.out.2.1 HI.out.2.2.1 HI.out.2.2.2 rfl (by decide) _ _ _ rfl (hO1.out.1.alloc _) ⟨w1.heap.size, 0, none⟩ 1 1 [.int .i64 x] rfl rfl (cell_one_new _ _ _) (one_cell _) (by unfold maxLen; omega) (by omega) (by simp; omega) ?_)
                  intro v3 w3 hown3 hgr3 _ hat3
                  have hF := Lib.hid (show w3.ownsRow w.heap.size 3 1 v3 (sums ++ [x]).length (ints (sums ++ [x])) ∧ w3.ownsRow w.heap.size 3 1 (.slice (some ⟨g2, 0, none⟩) s2.length c2) s2.length (ints s2) ∧ (v3.ownBlock = none ∨ v3.ownBlock ≠ some g2) ∧ Below w.heap.size w w3 from by
                    refine ⟨?_, (hO1.out.2.1.alloc _).kept hgr3 ?_, ?_, (hO1.out.2.2.2.alloc (by omega) _).grown hgr3 (by simp; omega) (fun k hk => (hO1.out.1.lt k hk).1)⟩
                    · have e : (sums ++ [x]).length = sums.length + 1 := by simp
                      rw [e, ints_snoc]
                      exact hown3
                    · right
                      intro e
                      have e' : some g2 = u8.ownBlock := e
                      rcases hO1.out.2.2.1 with h | h
                      · rw [h] at e'; cases e'
                      · exact h e'.symm
                    · rcases hat3 with e | e
                      · rw [e]; exact hO1.out.2.2.1
                      · right
                        rw [e]
                        simp
                        omega)
                  have hsl1 : (sums ++ [x]).length = sums.length + 1 := by simp
                  have hT3 := Lib.hid (show (sums ++ [x]) ++ W.mgR L f' L s2 = T by rw [List.append_assoc]; exact hst.out)
                  replace hsl1 := Lib.hid hsl1
                  have hOn2 := Lib.hid (show W.mgOk L L s2.length by rw [hNl]; exact hOn.out)
                  clear hown3 hgr3 hat3
                  go_wp2
                  go_roundg (gk - 1)
                  case measure => omega
                  case rel => exact ⟨s2, sums ++ [x], L, f', g2, c2, by rw [hNl], rfl, by omega, by omega, by omega, by rw [hsl1.out]; omega, by omega, hT3.out, hSp.out, hUp.out, hOn2.out, hF.out.1, hF.out.2.1, hF.out.2.2.1, hF.out.2.2.2⟩

          · have hend := HT'.out
            rw [W.mgR_end L f t s hlt, List.append_nil] at hend
            have hlt' : ¬ (1 : Int) < (s.length : Int) := by omega
            have hO2 := Lib.hid (And.intro hO.out.1 hO.out.2.2.2)
            clear hO
            replace hend := Lib.hid hend
            go_wp2_with fail
            go_ret
            rw [← hend.out]
            exact givesInts_of hO2.out.1 rfl hO2.out.2
end Go.Proofs.Ythkkneboblhmlaa
namespace Go.Proofs.Ythkkneboblhmlaa
open Go.RowKit Go.Shelf

theorem spec_beAsked (A : Option Addr) (z : List Int) (c : Nat) (L : Int) (w : World) (h : Row w w.heap.size A (ints z)) (hl : z.length ≤ 9223372036854775807) :
    Calls Try.prog 22 #[.slice A z.length c, .int .i64 L] w fun e w' => e = .returned (.bool (W.mrOk z L)) ∧ w = w' := by
  have hk := fun u => spec_krLetters L u
  have hw := spec_beWeights A z c w h hl
  unfold W.mrOk
  generalize W.beN 100 z = r at hw ⊢
  cases hq : W.krLet L
  all_goals
    rw [hq] at hk
    first | rw [Bool.and_false] | rw [Bool.and_true]
    replace hk := Lib.hid hk
    replace hw := Lib.hid hw
    clear h hq
    go_enter Try.func22, Try.ntmps22
    go_wp2_with (first | (go_at_call 40; refine (hk.out _).mono ?_; rintro e w' ⟨rfl, rfl⟩) | (go_at_call 30; refine hw.out.mono ?_; rintro e w' ⟨rfl, rfl⟩))
    go_ret
    exact ⟨rfl, rfl⟩
set_option maxHeartbeats 1600000 in
theorem spec_beBest (L : Nat) (A : Option Addr) (z : List Int) (c : Nat) (w : World) (h : Row w w.heap.size A (ints z)) (hz : W.beN 100 z = true) (h2 : 2 ≤ L) (h3 : L ≤ 3) :
    Calls Try.prog 43 #[.slice A z.length c, .int .i64 L] w fun e w' => e = .returned (.int .i64 (W.bcI L z)) ∧ Below w.heap.size w w' := by
  obtain ⟨⟨hz1, hz12⟩, _⟩ := W.beN_parts hz
  by_cases h1 : z.length = 1
  · obtain ⟨x, rfl⟩ := List.length_eq_one_iff.1 h1
    obtain ⟨b, off, rfl, hb, hcc⟩ := Row.int_at h (by simp)
    have c1 : w.cell? ⟨b, off, none⟩ = some (.int .i64 x) := hcc 0 (by simp)
    rw [show W.bcI L [x] = x from rfl, show ([x] : List Int).length = 1 from rfl]
    clear hcc h hz h1 hz1 hz12
    go_enter Try.func43, Try.ntmps43
    go_wp2
    go_ret
    exact ⟨rfl, Below.refl _ _⟩
  · have hr : W.bcI L z = (W.mgAll L z).sum := if_neg h1
    have hm := Lib.hid (spec_beMerge L A z c w h hz h2 h3)
    have hsm := W.mgR_small (S := 1200) L 12 (W.mgT L z.length) z (W.beN_small hz)
    have hlen := W.mgR_length L 12 (W.mgT L z.length) z
    rw [show W.mgR L 12 (W.mgT L z.length) z = W.mgAll L z from rfl] at hsm hlen
    obtain ⟨R, hR⟩ : ∃ R, R = W.bcI L z := ⟨_, rfl⟩
    rw [← hR]
    rw [hr] at hR
    generalize W.mgAll L z = T at hm hsm hlen hR
    have Hst := Lib.hid (fun k (hk : k < T.length) => W.sum_take_succ T k hk)
    have Hle := Lib.hid (fun k (hk : k ≤ T.length) => W.sum_take_le (B := 1200) (by omega) hsm k hk)
    have Hx := Lib.hid (fun k (hk : k < T.length) => hsm T[k] (List.getElem_mem hk))
    have H0 := Lib.hid (show (T.take 0).sum = 0 from rfl)
    have Hall := Lib.hid (show (T.take T.length).sum = R by rw [hR, List.take_length])
    have h1' : ((z.length : Int) == 1) = false := beq_eq_false_iff_ne.2 (by omega)
    have h1n : (z.length == 1) = false := beq_eq_false_iff_ne.2 h1
    clear hr h hz hsm hR
    go_enter Try.func43, Try.ntmps43
    go_wp2_with fail
    refine hm.out.mono ?_
    rintro e w1 ⟨A', c', rfl, ho, hB⟩
    have HO := Lib.hid (And.intro (Row.of_own ho) hB)
    clear ho hB
    go_wp2_with fail
    go_loop [5, 18] (fun s i => ∃ (k : Nat) (q : Int), k ≤ T.length ∧ i = .int .i64 k ∧ s = .int .i64 q ∧ Hid (q = (T.take k).sum)) (fun _ i => T.length - (intOf i).toNat)
    case atStart => exact ⟨0, 0, Nat.zero_le _, rfl, rfl, H0.out.symm⟩
    case round =>
      obtain ⟨k, q, hk, rfl, rfl, hq⟩ := hrel
      by_cases hlt : k < T.length
      · obtain ⟨b, off, rfl, hb, hcc⟩ := Row.int_at HO.out.1 (by omega)
        have hlt' : (k : Int) < (T.length : Int) := by omega
        have c1 := hcc k hlt
        clear hcc
        have hs := Hst.out k hlt
        have hq4 := Hle.out k hk
        have hx := Hx.out k hlt
        rw [← hq.out] at hs hq4
        generalize T[k] = x at c1 hs hx
        replace hs := Lib.hid hs
        go_wp2
        go_round
        case rel => exact ⟨k + 1, q + x, by omega, by go_num, by go_num, hs.out.symm⟩
        case measure => simp [intOf]; omega
      · obtain rfl : k = T.length := by omega
        obtain rfl := hq.out.trans Hall.out
        go_wp2
        go_ret
        exact ⟨rfl, HO.out.2⟩
end Go.Proofs.Ythkkneboblhmlaa
