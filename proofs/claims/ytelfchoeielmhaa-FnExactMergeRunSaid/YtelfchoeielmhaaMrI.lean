/-
  WHAT THIS FILE PROVES: sums of numbers, merging and the cost of best lengths: the program's functions give the plain ones; asked: slices in memory, lengths that an int holds.
-/
import Derived.Test.YtelfchoeielmhaaTl
import Derived.Test.YtelfchoeielmhaaBeI
import Derived.Deep.LoopGhost
import Derived.Maps.AppendAt
namespace Go.Proofs.Ytelfchoeielmhaa
open Go.RowKit Go.Shelf Go.Sort

set_option maxHeartbeats 800000 in
theorem impl_totalOf (n : Nat) (A : Option Addr) (z : List Int) (c : Nat) (w : World) (hn : z.length = n) (h : Row w w.heap.size A (ints z)) (hl : n ≤ 1000) (hb : ∀ x ∈ z, 0 ≤ x ∧ x ≤ 100000) :
    Calls Try.prog 45 #[.slice A n c] w fun e w' => e = .returned (.int .i64 z.sum) ∧ w = w' := by
  subst hn
  obtain ⟨r, hr⟩ : ∃ r, r = z.sum := ⟨_, rfl⟩
  rw [← hr]
  have Hall := Lib.hid (show (z.take z.length).sum = r by rw [hr, List.take_length])
  have Hst := Lib.hid (fun k (hk : k < z.length) => W.sum_take_succ z k hk)
  have Hle := Lib.hid (fun k (hk : k ≤ z.length) => W.sum_take_le (B := 100000) (by omega) hb k hk)
  have Hx := Lib.hid (fun k (hk : k < z.length) => hb z[k] (List.getElem_mem hk))
  have H0 := Lib.hid (show (z.take 0).sum = 0 from rfl)
  replace h := Lib.hid h
  clear hb hr
  go_enter Try.func45, Try.ntmps45
  go_wp2
  go_loop [3, 8] (fun s i => ∃ (k : Nat) (q : Int), k ≤ z.length ∧ i = .int .i64 k ∧ s = .int .i64 q ∧ Hid (q = (z.take k).sum)) (fun _ i => z.length - (intOf i).toNat)
  case atStart => exact ⟨0, 0, Nat.zero_le _, rfl, rfl, H0.out.symm⟩
  case round =>
    obtain ⟨k, q, hk, rfl, rfl, hq⟩ := hrel
    by_cases hlt : k < z.length
    · obtain ⟨b, off, rfl, hb, hcc⟩ := Row.int_at h.out (by omega)
      have hlt' : (k : Int) < (z.length : Int) := by omega
      have c1 := hcc k hlt
      clear hcc
      have hs := Hst.out k hlt
      have hq4 := Hle.out k hk
      have hx := Hx.out k hlt
      rw [← hq.out] at hs hq4
      generalize z[k] = x at c1 hs hx
      replace hs := Lib.hid hs
      go_wp2
      go_round
      case rel => exact ⟨k + 1, q + x, by omega, by go_num, by go_num, hs.out.symm⟩
      case measure => simp [intOf]; omega
    · obtain rfl : k = z.length := by omega
      obtain rfl := hq.out.trans Hall.out
      go_wp2
      go_ret
      exact ⟨rfl, rfl⟩
set_option maxHeartbeats 6400000 in
theorem impl_mergeRun (L : Nat) (A : Option Addr) (z : List Int) (c : Nat) (w : World) (h : Row w w.heap.size A (ints z)) (hz : W.beN 100 z = true) (h2 : 2 ≤ L) (h3 : L ≤ 3) :
    Calls Try.prog 23 #[.slice A z.length c, .int .i64 L] w (GivesInts w (W.mgAll L z)) := by
  obtain ⟨⟨hz1, hz12⟩, _⟩ := W.beN_parts hz
  have Hsm := Lib.hid (W.beN_small hz)
  obtain ⟨b, off, rfl, hb, hcc⟩ := Row.int_at h (by omega)
  have hcl := Try.slices_Clone_int b off z.length c z w (Nat.le_refl _) (by omega) (fun j hj => by rw [hcc j hj, W.getD_ltM z j hj])
  rw [List.take_length, show z.map (Value.int .i64) = ints z from rfl] at hcl
  obtain ⟨i1, hi, hy0, hy1, hy2⟩ := info_parts infoInt
  have HI := Lib.hid (And.intro hi (And.intro hy0 (And.intro hy1 hy2)))
  obtain ⟨T, hT⟩ : ∃ T, T = W.mgAll L z := ⟨_, rfl⟩
  rw [← hT]
  have HT : Hid ([] ++ W.mgR L 12 (W.mgT L z.length) z = T) := by show _ = _; rw [hT]; rfl
  have Hok := Lib.hid (W.mgOk_first h2 h3 z.length)
  have hz12' : (z.length : Int) ≤ 12 := by omega
  have hz1' : (1 : Int) ≤ (z.length : Int) := by omega
  replace hcl := Lib.hid hcl
  clear h hcc hz hi hy0 hy1 hy2 hT
  have hcase : (((L : Int) == 3) = false ∧ W.mgT L z.length = L) ∨ (((L : Int) == 3) = true ∧ (z.length : Int) % 2 = 0 ∧ W.mgT L z.length = 2) ∨ (((L : Int) == 3) = true ∧ (z.length : Int) % 2 = 1 ∧ W.mgT L z.length = L) := by
    unfold W.mgT
    have hL : L = 2 ∨ L = 3 := by omega
    rcases hL with rfl | rfl
    · exact .inl ⟨rfl, if_neg (by omega)⟩
    · by_cases hp : z.length % 2 = 0
      · exact .inr (.inl ⟨rfl, by omega, if_pos ⟨rfl, hp⟩⟩)
      · exact .inr (.inr ⟨rfl, by omega, if_neg (by omega)⟩)
  have hL2 : (2 : Int) ≤ L := by omega
  have hL3 : (L : Int) ≤ 3 := by omega
  rcases hcase with ⟨hLe, ht⟩ | ⟨hLe, hpi, ht⟩ | ⟨hLe, hpi, ht⟩
  all_goals
    rw [ht] at HT Hok
    clear ht
    go_enter Try.func23, Try.ntmps23
    go_wp2_with fail
    refine hcl.out.mono ?_
    rintro e w1 ⟨v1, rfl, hown1, _, hB1⟩
    obtain ⟨A1, c1, rfl⟩ := own_slice hown1
    obtain ⟨g1, rfl, hg1, hg2⟩ := own_form hown1 (by omega)
    have hF1 := Lib.hid (And.intro (tl_own hown1) hB1)
    clear hown1 hB1
    go_wp2_with fail
    clear hLe
    try clear hpi
    go_loopg [5, 6, 7] z.length (fun gk v nv tv wr => ∃ (ns sums : List Int) (t f : Nat), tv = .int .i64 t ∧ 1 ≤ ns.length ∧ ns.length ≤ gk ∧ ns.length ≤ f ∧ sums.length + ns.length ≤ 13 ∧ ns.length ≤ 12 ∧ Hid (sums ++ W.mgR L f t ns = T) ∧ Hid (W.Sm 1200 ns) ∧ Hid (W.mgOk L t ns.length) ∧ wr.ownsRow w.heap.size 3 1 v sums.length (ints sums) ∧ tlAt wr w.heap.size nv ns.length (ints ns) ∧ (v.ownBlock = none ∨ v.ownBlock ≠ nv.ownBlock) ∧ Below w.heap.size w wr)
    case atStart => first
      | exact ⟨z, [], L, 12, rfl, hz1, Nat.le_refl _, hz12, by simp; omega, hz12, HT, Hsm.out, Hok.out, World.ownsRow_nil _ _ _ _, hF1.out.1, .inl rfl, hF1.out.2⟩
      | exact ⟨z, [], 2, 12, rfl, hz1, Nat.le_refl _, hz12, by simp; omega, hz12, HT, Hsm.out, Hok.out, World.ownsRow_nil _ _ _ _, hF1.out.1, .inl rfl, hF1.out.2⟩
    case round =>
      obtain ⟨ns, sums, t, f, rfl, hn1, hngk, hnf, hsn, hn12, HT', HS, HO, ho, htl, hap, hB⟩ := hrel
      obtain ⟨g, off, cap, rfl, hgb, hncap, hgs⟩ := tl_sl htl
      have hO := Lib.hid (And.intro ho (And.intro htl (And.intro hap hB)))
      have hszr := hB.size
      clear ho htl hap hB hF1
      by_cases hlt : 1 < ns.length
      · have hlt' : (1 : Int) < (ns.length : Int) := by omega
        obtain ⟨ht2, htn, ht3⟩ := W.mgOk_le HO.out hlt
        obtain ⟨f', rfl⟩ : ∃ f', f = f' + 1 := ⟨f - 1, by omega⟩
        have hsort := Try.slices_Sort_int g off cap ns wr (tl_holds hO.out.2.1) hgs (by omega)
        have hsl : (W.sortI ns).length = ns.length := W.sortI_length ns
        rw [show (ns.mergeSort fun x y => decide (x ≤ y)) = W.sortI ns from rfl] at hsort
        have hst := HT'.out
        replace hst := Lib.hid hst
        rw [W.mgR_step L f' t ns hlt] at hst
        have hSs := HS.out.perm (W.sortI_perm ns).symm
        have hSn := Lib.hid (HS.out.next t)
        have hOn := Lib.hid (W.mgOk_next HO.out hlt)
        have hNl := W.mgN_length t ns
        have hNd := Lib.hid (show W.mgN t ns = (W.sortI ns).drop t ++ [((W.sortI ns).take t).sum] from rfl)
        generalize W.mgN t ns = ns2 at hst hSn hNl hNd
        generalize W.sortI ns = s at hsort hst hSs hNd hsl
        have htot := fun (u : World) (hu : Row u u.heap.size (some ⟨g, off, none⟩) (ints (s.take t))) (cc : Nat) => impl_totalOf t (some ⟨g, off, none⟩) (s.take t) cc u (by rw [List.length_take]; omega) hu (by omega) (fun x hx => by
          obtain ⟨k, hk, rfl⟩ := List.mem_iff_getElem.1 (List.mem_of_mem_take hx)
          have := hSs.at k hk
          omega)
        have hxb := (hSs.take t).total
        generalize (s.take t).sum = x at hst htot hNd hxb
        have HX := Lib.hid hxb
        replace hsort := Lib.hid hsort
        replace htot := Lib.hid htot
        clear hSs
        have ht0 : (0 : Int) ≤ (t : Int) := by omega
        have htc : (t : Int) ≤ (cap : Int) := by omega
        have htn' : (t : Int) ≤ (ns.length : Int) := by omega
        go_wp2_with fail
        refine hsort.out.mono ?_
        rintro e w2 ⟨rfl, nn, os, rfl⟩
        obtain ⟨w2, hw2⟩ : ∃ u, u = grow (putRow (Value.int .i64) (Sort.ahead wr nn) g off s.toArray) os := ⟨_, rfl⟩
        have hgr : wr.grownBy w2 (some g) := by rw [hw2]; exact sort_grownI os _
        have htl2 : tlAt w2 w.heap.size (.slice (some ⟨g, off, none⟩) ns.length cap) ns.length (ints s) := by rw [hw2]; exact tl_sort os hsl hO.out.2.1
        rw [← hw2]
        clear hw2
        have hO2 := Lib.hid (And.intro (hO.out.1.kept hgr hO.out.2.2.1) (And.intro htl2 (hO.out.2.2.2.grown hgr hszr (fun k hk => by injection hk with hk; omega))))
        have hsz2 := hgr.size
        have htr := Lib.hid (htot.out w2 (tl_row t htl2) cap)
        clear hgr htl2
        go_wp2_with fail
        refine htr.out.mono ?_
        rintro e w' ⟨rfl, rfl⟩
        have hg2 : g < w2.heap.size := by omega
        have hnb : (some g : Option Nat) ≠ none := by simp
        by_cases hct : cap = t
        · skip
          go_wp2_with (at_builtin; refine wpList_append_own_at _ rfl _ _ 22 rfl w.heap.size 3 i1 (.int .i64 0) 1 8 Try.underlying22 HI.out.1 HI.out.2.1 HI.out.2.2.1 HI.out.2.2.2 rfl (by decide) _ _ _ rfl (hO2.out.1.alloc _) ⟨w2.heap.size, 0, none⟩ 1 1 [.int .i64 x] rfl rfl (cell_one_new _ _ _) (one_cell _) (by unfold maxLen; omega) (by omega) (by simp; omega) ?_)
          intro v3 w3 hown3 hgr3 _ hat3
          have hO3 := Lib.hid (show w3.ownsRow w.heap.size 3 1 v3 (sums.length + 1) (ints (sums ++ [x])) ∧ tlAt w3 w.heap.size (.slice (some ⟨g, off, none⟩) ns.length cap) ns.length (ints s) ∧ (v3.ownBlock = none ∨ v3.ownBlock ≠ some g) ∧ Below w.heap.size w w3 ∧ w2.heap.size ≤ w3.heap.size from by
            have hsz3 := hgr3.size
            simp at hsz3
            have hneg : (Value.slice (some ⟨g, off, none⟩) ns.length cap).ownBlock ≠ u5.ownBlock := by
              rcases hO.out.2.2.1 with e | e
              · rw [e]; simp [Value.ownBlock]
              · exact fun k => e k.symm
            refine ⟨by rw [ints_snoc]; exact hown3, tl_kept (tl_alloc hO2.out.2.1 _) hgr3 hneg, ?_, (hO2.out.2.2.alloc (by omega) _).grown hgr3 (by simp; omega) (fun k hk => ((hO2.out.1.lt k hk).1)), by omega⟩
            rcases hat3 with e | e
            · rw [e]; exact hO.out.2.2.1
            · right
              rw [e]
              simp
              omega)
          clear hown3 hgr3 hat3
          have hlt3 := hO3.out.2.1
          have hszw3 := hO3.out.2.2.2.2
          have hD := Lib.hid (show tlAt w3 w.heap.size (.slice (some ⟨g, off, none⟩) (ns.length - t) 0) (ns.length - t) (ints (s.drop t)) from by
            have hn0 : ns.length - t = 0 := by omega
            rw [hn0, List.drop_of_length_le (by omega)]
            obtain ⟨_, g', off', cap', hv, hb, hn, hs, hr, ht⟩ := hlt3
            simp only [Value.slice.injEq, Option.some.injEq, Addr.mk.injEq] at hv
            obtain ⟨⟨rfl, rfl, _⟩, _, rfl⟩ := hv
            exact ⟨rfl, g, off, 0, rfl, hb, Nat.le_refl _, hs, fun j u hu => by simp [ints] at hu, fun j hj => by omega⟩)
          have hgd : (Value.slice (some ⟨g, off, none⟩) (ns.length - t) 0).ownBlock = some g := rfl
          clear hlt3
          go_wp2_with (at_builtin; refine tl_append _ rfl _ _ 22 rfl w.heap.size 3 i1 (.int .i64 0) 8 Try.underlying22 HI.out.1 HI.out.2.1 HI.out.2.2.1 HI.out.2.2.2 rfl _ _ _ rfl (tl_alloc hD.out _) ⟨w3.heap.size, 0, none⟩ 1 [.int .i64 x] rfl rfl (cell_one_new _ _ _) (one_cell _) (by unfold maxLen; omega) (by omega) (by simp; omega) ?_)
          intro v4 w4 htl4 hgr4 hat4
          have hF := Lib.hid (show w4.ownsRow w.heap.size 3 1 v3 (sums ++ [x]).length (ints (sums ++ [x])) ∧ tlAt w4 w.heap.size v4 ns2.length (ints ns2) ∧ (v3.ownBlock = none ∨ v3.ownBlock ≠ v4.ownBlock) ∧ Below w.heap.size w w4 from by
            have hsz3 := hO3.out.2.2.2.2
            have hap3 := hO3.out.2.2.1
            refine ⟨?_, ?_, ?_, (hO3.out.2.2.2.1.alloc (by omega) _).grown hgr4 (by simp; omega) (fun k hk => by
              have e : some g = some k := hk
              injection e with e
              omega)⟩
            · have e : (sums ++ [x]).length = sums.length + 1 := by simp
              rw [e]
              exact (hO3.out.1.alloc _).kept hgr4 hap3
            · rw [hNl, hNd.out, ints_snoc]
              exact htl4
            · rcases hap3 with e | e
              · exact .inl e
              · right
                rcases hat4 with e4 | e4
                · rw [e4]; exact e
                · intro e5
                  obtain ⟨g4, _, _, e6, _⟩ := tl_sl htl4
                  have h7 : v4.ownBlock = some g4 := by rw [e6]; rfl
                  have h8 := e4 g4 h7
                  have h9 := (hO3.out.1.lt g4 (e5.trans h7)).2
                  try simp at h8
                  omega)
          have hsl1 : (sums ++ [x]).length = sums.length + 1 := by simp
          have hT3 := Lib.hid (show (sums ++ [x]) ++ W.mgR L f' L ns2 = T by rw [List.append_assoc]; exact hst.out)
          replace hsl1 := Lib.hid hsl1
          have hOn2 := Lib.hid (show W.mgOk L L ns2.length by rw [hNl]; exact hOn.out)
          clear htl4 hgr4 hat4 hgd
          go_wp2
          go_roundg (gk - 1)
          case measure => omega
          case rel => exact ⟨ns2, sums ++ [x], L, f', rfl, by omega, by omega, by omega, by rw [hsl1.out]; omega, by omega, hT3.out, hSn.out, hOn2.out, hF.out.1, hF.out.2.1, hF.out.2.2.1, hF.out.2.2.2⟩
        · skip
          go_wp2_with (at_builtin; refine wpList_append_own_at _ rfl _ _ 22 rfl w.heap.size 3 i1 (.int .i64 0) 1 8 Try.underlying22 HI.out.1 HI.out.2.1 HI.out.2.2.1 HI.out.2.2.2 rfl (by decide) _ _ _ rfl (hO2.out.1.alloc _) ⟨w2.heap.size, 0, none⟩ 1 1 [.int .i64 x] rfl rfl (cell_one_new _ _ _) (one_cell _) (by unfold maxLen; omega) (by omega) (by simp; omega) ?_)
          intro v3 w3 hown3 hgr3 _ hat3
          have hO3 := Lib.hid (show w3.ownsRow w.heap.size 3 1 v3 (sums.length + 1) (ints (sums ++ [x])) ∧ tlAt w3 w.heap.size (.slice (some ⟨g, off, none⟩) ns.length cap) ns.length (ints s) ∧ (v3.ownBlock = none ∨ v3.ownBlock ≠ some g) ∧ Below w.heap.size w w3 ∧ w2.heap.size ≤ w3.heap.size from by
            have hsz3 := hgr3.size
            simp at hsz3
            have hneg : (Value.slice (some ⟨g, off, none⟩) ns.length cap).ownBlock ≠ u5.ownBlock := by
              rcases hO.out.2.2.1 with e | e
              · rw [e]; simp [Value.ownBlock]
              · exact fun k => e k.symm
            refine ⟨by rw [ints_snoc]; exact hown3, tl_kept (tl_alloc hO2.out.2.1 _) hgr3 hneg, ?_, (hO2.out.2.2.alloc (by omega) _).grown hgr3 (by simp; omega) (fun k hk => ((hO2.out.1.lt k hk).1)), by omega⟩
            rcases hat3 with e | e
            · rw [e]; exact hO.out.2.2.1
            · right
              rw [e]
              simp
              omega)
          clear hown3 hgr3 hat3
          have hlt3 := hO3.out.2.1
          have hszw3 := hO3.out.2.2.2.2
          have hD := Lib.hid (show tlAt w3 w.heap.size (.slice (some ⟨g, off + t, none⟩) (ns.length - t) (cap - t)) (ns.length - t) (ints (s.drop t)) from by
            have := tl_drop t htn hlt3
            rwa [show (ints s).drop t = ints (s.drop t) by unfold ints; rw [List.map_drop]] at this)
          have hgd : (Value.slice (some ⟨g, off + t, none⟩) (ns.length - t) (cap - t)).ownBlock = some g := rfl
          clear hlt3
          go_wp2_with (at_builtin; refine tl_append _ rfl _ _ 22 rfl w.heap.size 3 i1 (.int .i64 0) 8 Try.underlying22 HI.out.1 HI.out.2.1 HI.out.2.2.1 HI.out.2.2.2 rfl _ _ _ rfl (tl_alloc hD.out _) ⟨w3.heap.size, 0, none⟩ 1 [.int .i64 x] rfl rfl (cell_one_new _ _ _) (one_cell _) (by unfold maxLen; omega) (by omega) (by simp; omega) ?_)
          intro v4 w4 htl4 hgr4 hat4
          have hF := Lib.hid (show w4.ownsRow w.heap.size 3 1 v3 (sums ++ [x]).length (ints (sums ++ [x])) ∧ tlAt w4 w.heap.size v4 ns2.length (ints ns2) ∧ (v3.ownBlock = none ∨ v3.ownBlock ≠ v4.ownBlock) ∧ Below w.heap.size w w4 from by
            have hsz3 := hO3.out.2.2.2.2
            have hap3 := hO3.out.2.2.1
            refine ⟨?_, ?_, ?_, (hO3.out.2.2.2.1.alloc (by omega) _).grown hgr4 (by simp; omega) (fun k hk => by
              have e : some g = some k := hk
              injection e with e
              omega)⟩
            · have e : (sums ++ [x]).length = sums.length + 1 := by simp
              rw [e]
              exact (hO3.out.1.alloc _).kept hgr4 hap3
            · rw [hNl, hNd.out, ints_snoc]
              exact htl4
            · rcases hap3 with e | e
              · exact .inl e
              · right
                rcases hat4 with e4 | e4
                · rw [e4]; exact e
                · intro e5
                  obtain ⟨g4, _, _, e6, _⟩ := tl_sl htl4
                  have h7 : v4.ownBlock = some g4 := by rw [e6]; rfl
                  have h8 := e4 g4 h7
                  have h9 := (hO3.out.1.lt g4 (e5.trans h7)).2
                  try simp at h8
                  omega)
          have hsl1 : (sums ++ [x]).length = sums.length + 1 := by simp
          have hT3 := Lib.hid (show (sums ++ [x]) ++ W.mgR L f' L ns2 = T by rw [List.append_assoc]; exact hst.out)
          replace hsl1 := Lib.hid hsl1
          have hOn2 := Lib.hid (show W.mgOk L L ns2.length by rw [hNl]; exact hOn.out)
          clear htl4 hgr4 hat4 hgd
          go_wp2
          go_roundg (gk - 1)
          case measure => omega
          case rel => exact ⟨ns2, sums ++ [x], L, f', rfl, by omega, by omega, by omega, by rw [hsl1.out]; omega, by omega, hT3.out, hSn.out, hOn2.out, hF.out.1, hF.out.2.1, hF.out.2.2.1, hF.out.2.2.2⟩
      · obtain ⟨g, rfl⟩ : ∃ q : Nat, q = g := ⟨g, rfl⟩
        have hend := HT'.out
        rw [W.mgR_end L f t ns hlt, List.append_nil] at hend
        have hlt' : ¬ (1 : Int) < (ns.length : Int) := by omega
        have hO2 := Lib.hid (And.intro hO.out.1 hO.out.2.2.2)
        clear hO
        replace hend := Lib.hid hend
        go_wp2_with fail
        go_ret
        rw [← hend.out]
        exact givesInts_of hO2.out.1 rfl hO2.out.2
end Go.Proofs.Ytelfchoeielmhaa
