/-
  WHAT THIS FILE PROVES: the least cost of a tree over weights in order, and what is told by it: the specification's functions, which keep a table of slices, give the plain values; asked: slices in memory, lengths that an int holds.
-/
import Derived.Test.YthkkneboblhmlaaTc
import Derived.Test.YthkkneboblhmlaaBeS
import Derived.Test.YthkkneboblhmlaaTcI
import Derived.OwnWalk
import Derived.BigQuiet
import Derived.Deep.RegionHeld3
namespace Go.Proofs.Ythkkneboblhmlaa
open Go.RowKit Go.Shelf

theorem infoRow2 : (Try.prog.info? 22).map (fun i => (i.zero, i.size, i.bytes)) = some (some (.slice none 0 0), 1, 24) := by kernel_rfl
/-- a table of n rows of n numbers, the rows' blocks one behind the other, behind that of the rows -/
structure Tab2 (w : World) (g n : Nat) (f : Nat → Nat → Int) : Prop where
  row : ∀ i, i < n → w.cell? ⟨g, i, none⟩ = some (.slice (some ⟨g + 1 + i, 0, none⟩) n n)
  cell : ∀ i j, i < n → j < n → w.cell? ⟨g + 1 + i, j, none⟩ = some (.int .i64 (f i j))
  free : ∀ i j, i < n → j < n → w.frozen? ⟨g + 1 + i, j, none⟩ = false
theorem Tab2.set {w : World} {g n : Nat} {f : Nat → Nat → Int} (h : Tab2 w g n f) (p q : Nat) (x : Int) (hp : p < n) (hq : q < n) : Tab2 (w.setCell ⟨g + 1 + p, q, none⟩ (.int .i64 x)) g n (fun i j => if i = p ∧ j = q then x else f i j) where
  row i hi := by
    have hne : (⟨g + 1 + p, q, none⟩ : Addr) ≠ ⟨g, i, none⟩ := by
      intro k
      simp only [Addr.mk.injEq] at k
      omega
    have h2 : (w.setCell ⟨g + 1 + p, q, none⟩ (.int .i64 x)).cell? ⟨g, i, none⟩ = w.cell? ⟨g, i, none⟩ := World.cell?_setCell_other _ _ _ _ hne
    rw [h2, h.row i hi]
  cell i j hi hj := by
    by_cases e : i = p ∧ j = q
    · obtain ⟨rfl, rfl⟩ := e
      rw [World.cell?_setCell_same' _ _ _ (by rw [h.cell i j hi hj]; rfl)]
      simp
    · have hne : (⟨g + 1 + p, q, none⟩ : Addr) ≠ ⟨g + 1 + i, j, none⟩ := by
        intro k
        simp only [Addr.mk.injEq] at k
        omega
      have h2 : (w.setCell ⟨g + 1 + p, q, none⟩ (.int .i64 x)).cell? ⟨g + 1 + i, j, none⟩ = w.cell? ⟨g + 1 + i, j, none⟩ := World.cell?_setCell_other _ _ _ _ hne
      rw [h2, h.cell i j hi hj]
      simp [e]
  free i j hi hj := by rw [World.frozen?_setCell]; exact h.free i j hi hj
theorem Tab2.turn {w : World} {g n : Nat} {f f' : Nat → Nat → Int} (h : Tab2 w g n f) (he : ∀ i j, i < n → j < n → f i j = f' i j) : Tab2 w g n f' where
  row := h.row
  cell i j hi hj := by rw [← he i j hi hj]; exact h.cell i j hi hj
  free := h.free
theorem Tab2.drewN {w : World} {g n : Nat} {f : Nat → Nat → Int} (h : Tab2 w g n f) (q : Nat) : Tab2 (w.drewN q) g n f := ⟨fun i hi => h.row i hi, fun i j hi hj => h.cell i j hi hj, fun i j hi hj => h.free i j hi hj⟩
/-- the table while rows are made -/
structure Tab2M (w : World) (g n k : Nat) : Prop where
  size : w.heap.size = g + 1 + k
  row : ∀ i, i < k → w.cell? ⟨g, i, none⟩ = some (.slice (some ⟨g + 1 + i, 0, none⟩) n n)
  has : ∀ i, i < n → ∃ v, w.cell? ⟨g, i, none⟩ = some v
  open_ : ∀ i, i < n → w.frozen? ⟨g, i, none⟩ = false
  cell : ∀ i j, i < k → j < n → w.cell? ⟨g + 1 + i, j, none⟩ = some (.int .i64 0)
  free : ∀ i j, i < k → j < n → w.frozen? ⟨g + 1 + i, j, none⟩ = false
theorem Tab2M.next {w : World} {g n k : Nat} (h : Tab2M w g n k) (hk : k < n) (t : TypeId) :
    Tab2M ((w.alloc (.cells (madeCells #[.int .i64 0] n) t)).setCell ⟨g, k, none⟩ (.slice (some ⟨w.heap.size, 0, none⟩) n n)) g n (k + 1) := by
  have hs := h.size
  have old : ∀ b i, b ≤ g + k → (w.alloc (.cells (madeCells #[.int .i64 0] n) t)).cell? ⟨b, i, none⟩ = w.cell? ⟨b, i, none⟩ := fun b i hb => World.cell?_alloc_lt _ _ _ (by show b < _; omega)
  have oldf : ∀ b i, b ≤ g + k → (w.alloc (.cells (madeCells #[.int .i64 0] n) t)).frozen? ⟨b, i, none⟩ = w.frozen? ⟨b, i, none⟩ := fun b i hb => World.frozen?_alloc_past _ _ _ (by omega)
  have far : ∀ (b i : Nat) (v : Value), ¬ (b = g ∧ i = k) → ((w.alloc (.cells (madeCells #[.int .i64 0] n) t)).setCell ⟨g, k, none⟩ v).cell? ⟨b, i, none⟩ = (w.alloc (.cells (madeCells #[.int .i64 0] n) t)).cell? ⟨b, i, none⟩ := fun b i v hne => World.cell?_setCell_other _ _ _ _ (by
    intro e
    simp only [Addr.mk.injEq] at e
    omega)
  have newc : ∀ j, j < n → (madeCells #[Value.int .i64 0] n)[j]? = some (.int .i64 0) := fun j hj => by
    rw [← Array.getElem?_toList, toList_madeCells_one, List.getElem?_replicate, if_pos hj]
  refine ⟨by rw [World.size_setCell]; simp; omega, fun i hi => ?_, fun i hi => ?_, fun i hi => ?_, fun i j hi hj => ?_, fun i j hi hj => ?_⟩
  · by_cases e : i = k
    · subst e
      obtain ⟨v, hv⟩ := h.has i hk
      rw [World.cell?_setCell_same' _ _ _ (by rw [old g i (by omega), hv]; rfl), hs]
    · rw [far g i _ (by omega), old g i (by omega)]
      exact h.row i (by omega)
  · by_cases e : i = k
    · subst e
      obtain ⟨v, hv⟩ := h.has i hk
      exact ⟨_, World.cell?_setCell_same' _ _ _ (by rw [old g i (by omega), hv]; rfl)⟩
    · rw [far g i _ (by omega), old g i (by omega)]
      exact h.has i hi
  · rw [World.frozen?_setCell, oldf g i (by omega)]
    exact h.open_ i hi
  · rw [far (g + 1 + i) j _ (by omega)]
    by_cases e : i = k
    · subst e
      rw [World.cell?_alloc_at _ _ _ _ (by omega)]
      exact newc j hj
    · rw [old (g + 1 + i) j (by omega)]
      exact h.cell i j (by omega) hj
  · rw [World.frozen?_setCell]
    by_cases e : i = k
    · subst e
      exact World.frozen?_alloc_at _ _ _ _ (by omega)
    · rw [oldf (g + 1 + i) j (by omega)]
      exact h.free i j (by omega) hj
theorem Tab2M.done {w : World} {g n : Nat} (h : Tab2M w g n n) : Tab2 w g n (fun _ _ => 0) := ⟨h.row, h.cell, h.free⟩
theorem tab2_new (w : World) (n : Nat) (t : TypeId) : Tab2M (w.alloc (.cells (madeCells #[.slice none 0 0] n) t)) w.heap.size n 0 := by
  refine ⟨by simp, fun i hi => absurd hi (Nat.not_lt_zero _), fun i hi => ⟨.slice none 0 0, ?_⟩, fun i hi => World.frozen?_alloc_at _ _ _ _ rfl, fun i j hi => absurd hi (Nat.not_lt_zero _), fun i j hi => absurd hi (Nat.not_lt_zero _)⟩
  rw [World.cell?_alloc_at _ _ _ _ rfl, ← Array.getElem?_toList, toList_madeCells_one, List.getElem?_replicate, if_pos hi]
set_option maxHeartbeats 12800000 in
set_option maxRecDepth 100000 in
theorem spec_beOrdered (n b off : Nat) (z : List Int) (c : Nat) (w : World) (hn : z.length = n) (h : Row w w.heap.size (some ⟨b, off, none⟩) (ints z)) (hz : W.Sm 1200 z) (h1 : 1 ≤ n) (h12 : n ≤ 12) :
    Calls Try.prog 31 #[.slice (some ⟨b, off, none⟩) n c] w fun e w' => e = .returned (.int .i64 (W.tcA z)) ∧ Below w.heap.size w w' := by
  subst hn
  have hmk1 := fun u => run_make_row' (P := Try.prog) 53 22 (.slice none 0 0) 24 Try.underlying53 infoRow2 rfl .i64 .i64 z.length (by omega) (by omega) u
  have hmk2 := fun u => run_make_row' (P := Try.prog) 22 3 (.int .i64 0) 8 Try.underlying22 infoInt rfl .i64 .i64 z.length (by omega) (by omega) u
  have hT0 := Lib.hid (tab2_new w z.length 22)
  have hB0 := Lib.hid ((Below.refl w.heap.size w).alloc (Nat.le_refl _) (.cells (madeCells #[.slice none 0 0] z.length) 22))
  have H := Lib.hid h
  have HS := Lib.hid hz
  obtain ⟨V, hV⟩ : ∃ V, V = W.tcA z := ⟨_, rfl⟩
  rw [← hV]
  have HV := Lib.hid hV
  have hbw : b < w.heap.size := by
    obtain ⟨b', off', e, hb, _⟩ := Row.int_at h (by omega)
    simp only [Option.some.injEq, Addr.mk.injEq] at e
    omega
  have Hcc := Lib.hid (show ∀ k (hk : k < z.length), w.cell? ⟨b, off + k, none⟩ = some (.int .i64 z[k]) from fun k hk => by
    obtain ⟨b', off', e, hb, hcc⟩ := Row.int_at h (by omega)
    simp only [Option.some.injEq, Addr.mk.injEq] at e
    obtain ⟨rfl, rfl, _⟩ := e
    exact hcc k hk)
  have hl12 : (z.length : Int) ≤ 12 := by omega
  clear h hz hV
  go_enter Try.func31, Try.ntmps31
  go_wp2_with fail
  clear hmk1
  go_loopw [19] (fun i wr => ∃ k : Nat, k ≤ z.length ∧ i = .int .i64 k ∧ Tab2M wr w.heap.size z.length k ∧ Below w.heap.size w wr) (fun i _ => z.length - (intOf i).toNat)
  case atStart => exact ⟨0, Nat.zero_le _, rfl, hT0.out, hB0.out⟩
  case round =>
    obtain ⟨k, hk, rfl, hM, hB⟩ := hrel
    have hO := Lib.hid (And.intro hM hB)
    have hsz := hM.size
    clear hM hB hT0 hB0
    by_cases hlt : k < z.length
    · have hlt' : (k : Int) < (z.length : Int) := by omega
      have hgl : w.heap.size < wr.heap.size := by omega
      obtain ⟨old, hc1⟩ := hO.out.1.has k hlt
      have hf1 := hO.out.1.open_ k hlt
      have hnx := Lib.hid (hO.out.1.next hlt 3)
      rw [World.setCell_alloc_past _ _ _ _ hgl] at hnx
      have hBn := Lib.hid ((hO.out.2.alloc (by omega) (.cells (madeCells #[.int .i64 0] z.length) 3)).setCell (p := ⟨w.heap.size, k, none⟩) (Nat.le_refl _) (.slice (some ⟨wr.heap.size, 0, none⟩) z.length z.length))
      rw [World.setCell_alloc_past _ _ _ _ hgl] at hBn
      clear hsz
      go_wp2
      go_roundw
      case rel => exact ⟨k + 1, by omega, by go_num, hnx.out, hBn.out⟩
      case measure => simp [intOf]; omega
    · obtain rfl : k = z.length := by omega
      have hlt' : ¬ ((z.length : Int) < (z.length : Int)) := by omega
      have hT := Lib.hid (And.intro (hO.out.1.done.turn (f' := fun i j => W.tcT z 2 0 i (j + 1)) (fun i j _ _ => (W.tcT_start z i (j + 1)).symm)) hO.out.2)
      have hszq : w.heap.size < wr.heap.size := by omega
      clear hO hmk2 hsz
      generalize wr = wp at *
      go_wp2_with fail
      go_loopw [6] (fun nv wr => ∃ N : Nat, 2 ≤ N ∧ N ≤ z.length + 1 ∧ nv = .int .i64 N ∧ Tab2 wr w.heap.size z.length (fun i j => W.tcT z N 0 i (j + 1)) ∧ Below w.heap.size w wr) (fun nv _ => z.length + 2 - (intOf nv).toNat)
      case atStart => exact ⟨2, by omega, by omega, rfl, hT.out.1, hT.out.2⟩
      case round =>
        clear hT
        obtain ⟨N, hN2, hN, rfl, hT, hB⟩ := hrel
        have hO := Lib.hid (And.intro hT hB)
        clear hT hB
        by_cases hlt2 : N ≤ z.length
        · have hlt2' : (N : Int) ≤ (z.length : Int) := by omega
          generalize wr = wq at *
          go_wp2_with fail
          go_loopw [7] (fun fv wr => ∃ F : Nat, F ≤ z.length - N + 1 ∧ fv = .int .i64 F ∧ Tab2 wr w.heap.size z.length (fun i j => W.tcT z N F i (j + 1)) ∧ Below w.heap.size w wr) (fun fv _ => z.length - N + 1 - (intOf fv).toNat)
          case atStart => exact ⟨0, by omega, rfl, hO.out.1, hO.out.2⟩
          case round =>
            clear hO
            obtain ⟨F, hF, rfl, hT, hB⟩ := hrel
            have hO := Lib.hid (And.intro hT hB)
            clear hT hB
            by_cases hFl : F + N ≤ z.length
            · have hFl' : (F : Int) + (N : Int) ≤ (z.length : Int) := by omega
              generalize wr = wk at *
              have hss := Lib.hid (fun k (hk : F ≤ k) (hk2 : k < F + N) => show ((z.drop F).take (k + 1 - F)).sum = ((z.drop F).take (k - F)).sum + z[k]'(by omega) by
                rw [show k + 1 - F = (k - F) + 1 by omega, W.sum_take_succ (z.drop F) (k - F) (by rw [List.length_drop]; omega)]
                congr 1
                rw [List.getElem_drop]
                congr 1
                omega)
              have hsb := Lib.hid (fun k => ((HS.out.drop F).take k).total)
              have hs0 : Hid (((z.drop F).take (F - F)).sum = 0) := by show _ = _; rw [Nat.sub_self]; rfl
              go_wp2_with fail
              go_loop [8, 10] (fun sv kv => ∃ (k : Nat) (q : Int), F ≤ k ∧ k ≤ F + N ∧ kv = .int .i64 k ∧ sv = .int .i64 q ∧ Hid (q = ((z.drop F).take (k - F)).sum)) (fun _ kv => 40 - (intOf kv).toNat)
              case atStart => exact ⟨F, 0, Nat.le_refl _, by omega, rfl, rfl, hs0.out.symm⟩
              case round =>
                obtain ⟨k, q, hk1, hk2, rfl, rfl, hq⟩ := hrel
                by_cases hkl : k < F + N
                · have hkl' : (k : Int) < (F : Int) + (N : Int) := by omega
                  have hkz : (k : Int) < (z.length : Int) := by omega
                  have c1 := (hO.out.2.cell (p := ⟨b, off + k, none⟩) hbw).trans (Hcc.out k (by omega))
                  have hs1 := hss.out k hk1 hkl
                  have hb1 := hsb.out (k - F)
                  have hb2 := HS.out.at k (by omega)
                  rw [← hq.out] at hs1 hb1
                  generalize z[k]'(by omega) = y at c1 hs1 hb2
                  replace hs1 := Lib.hid hs1
                  go_wp2
                  go_round
                  case rel => exact ⟨k + 1, q + y, by omega, by omega, by go_num, by go_num, hs1.out.symm⟩
                  case measure => simp [intOf]; omega
                · obtain rfl : k = F + N := by omega
                  have hkl' : ¬ (((F + N : Nat) : Int) < (F : Int) + (N : Int)) := by omega
                  rw [show F + N - F = N by omega] at hq
                  have hq2 := Lib.hid (hq.out.trans (show ((z.drop F).take N).sum = W.stS z F N from rfl))
                  have hqb : 0 ≤ q ∧ q ≤ 1200 := by rw [hq2.out]; exact W.stS_bound HS.out F N
                  clear hq
                  go_wp2_with fail
                  go_loopw [9, 11] (fun bv kv wr => ∃ k : Nat, F ≤ k ∧ k + 1 ≤ F + N ∧ kv = .int .i64 k ∧ (∃ x : Int, bv = .int .i64 x ∧ ((k = F ∧ x = -1) ∨ (F < k ∧ 0 ≤ x ∧ x ≤ 13201 ∧ Hid (x = W.mnB (k - F) (W.tcP z F N))))) ∧ ∃ qn, wr = wk.drewN qn) (fun _ kv _ => 40 - (intOf kv).toNat)
                  case atStart => exact ⟨F, Nat.le_refl _, by omega, rfl, ⟨-1, rfl, .inl ⟨rfl, rfl⟩⟩, 0, rfl⟩
                  case round =>
                    obtain ⟨k, hk1, hk2, rfl, ⟨x, rfl, hx⟩, qn, rfl⟩ := hrel
                    by_cases hkl : k + 1 < F + N
                    · have hkl' : (k : Int) + 1 < (F : Int) + (N : Int) := by omega
                      have hFz : (F : Int) < (z.length : Int) := by omega
                      have hkz : (k : Int) < (z.length : Int) := by omega
                      have hk1z : (k : Int) + 1 < (z.length : Int) := by omega
                      have hk1n : ((k : Int) + 1).toNat = k + 1 := by omega
                      have hEz : (F : Int) + (N : Int) - 1 < (z.length : Int) := by omega
                      have hE0 : (0 : Int) ≤ (F : Int) + (N : Int) - 1 := by omega
                      have hEn : ((F : Int) + (N : Int) - 1).toNat = F + N - 1 := by omega
                      have hk0 : (0 : Int) ≤ (k : Int) + 1 := by omega
                      have d1 := hO.out.1.row F (by omega)
                      have d2 := hO.out.1.cell F k (by omega) (by omega)
                      have d3 := hO.out.1.row (k + 1) (by omega)
                      have d4 := hO.out.1.cell (k + 1) (F + N - 1) (by omega) (by omega)
                      rw [W.tcT_done z N F F (k + 1) (by omega) (by omega)] at d2
                      rw [show F + N - 1 + 1 = F + N by omega, W.tcT_done z N F (k + 1) (F + N) (by omega) (by omega)] at d4
                      have b1 := W.tcP_bound HS.out F N (k - F) (by omega) (by omega)
                      have t1 := W.tc_bound HS.out (k + 1 - F) F (by omega)
                      have t2 := W.tc_bound HS.out (F + N - (k + 1)) (k + 1) (by omega)
                      have hP := show W.tc z F (k + 1 - F) + W.tc z (k + 1) (F + N - (k + 1)) = W.tcP z F N (k - F) by
                        unfold W.tcP
                        rw [show k - F + 1 = k + 1 - F by omega, show F + (k - F) + 1 = k + 1 by omega, show N - (k - F) - 1 = F + N - (k + 1) by omega]
                      have hmn := Lib.hid (show W.mnB (k + 1 - F) (W.tcP z F N) = min (W.mnB (k - F) (W.tcP z F N)) (W.tcP z F N (k - F)) by rw [show k + 1 - F = (k - F) + 1 by omega]; rfl)
                      generalize W.tc z F (k + 1 - F) = y1 at d2 hP t1
                      generalize W.tc z (k + 1) (F + N - (k + 1)) = y2 at d4 hP t2
                      have t3 : 0 ≤ y1 ∧ y1 ≤ 13200 := by omega
                      have t4 : 0 ≤ y2 ∧ y2 ≤ 13200 := by omega
                      rw [← hP] at hmn b1
                      clear t1 t2 hP
                      generalize hmz : W.mnB (k + 1 - F) (W.tcP z F N) = m2 at hmn
                      replace hmz := Lib.hid hmz
                      have hbl := Lib.hid (fun q2 => below_drewN hO.out.2 q2)
                      rcases hx with ⟨rfl, rfl⟩ | ⟨hFk, hx0, hx1, hx⟩
                      · have hm2 : Hid (y1 + y2 = m2) := by
                          show _ = _
                          rw [hmn.out, Nat.sub_self]
                          unfold W.mnB
                          omega
                        go_wp2_with fail
                        go_quiet (fail)
                        go_wp2
                        go_roundw
                        case rel => exact ⟨k + 1, by omega, by omega, by go_num, ⟨y1 + y2, by go_num, .inr ⟨by omega, by omega, by omega, by show _ = _; rw [hmz.out]; exact hm2.out⟩⟩, qn + nq, by first | rfl | rw [World.drewN_drewN]⟩
                        case measure => simp [intOf]; omega
                      · rw [← hx.out] at hmn
                        have hxn : ¬ (x < 0) := by omega
                        by_cases hyx : y1 + y2 < x
                        · have hm2 : Hid (y1 + y2 = m2) := by
                            show _ = _
                            rw [hmn.out]
                            omega
                          go_wp2_with fail
                          go_quiet (fail)
                          go_wp2
                          go_roundw
                          case rel => exact ⟨k + 1, by omega, by omega, by go_num, ⟨y1 + y2, by go_num, .inr ⟨by omega, by omega, by omega, by show _ = _; rw [hmz.out]; exact hm2.out⟩⟩, qn + nq, by first | rfl | rw [World.drewN_drewN]⟩
                          case measure => simp [intOf]; omega
                        · have hm2 : Hid (x = m2) := by
                            show _ = _
                            rw [hmn.out]
                            omega
                          go_wp2_with fail
                          go_quiet (fail)
                          go_wp2
                          go_roundw
                          case rel => exact ⟨k + 1, by omega, by omega, by go_num, ⟨x, rfl, .inr ⟨by omega, by omega, by omega, by show _ = _; rw [hmz.out]; exact hm2.out⟩⟩, qn + nq, by first | rfl | rw [World.drewN_drewN]⟩
                          case measure => simp [intOf]; omega
                    · have hke : k + 1 = F + N := by omega
                      have hkl' : ¬ ((k : Int) + 1 < (F : Int) + (N : Int)) := by omega
                      obtain ⟨hFk, hx0, hx1, hx⟩ : F < k ∧ 0 ≤ x ∧ x ≤ 13201 ∧ Hid (x = W.mnB (k - F) (W.tcP z F N)) := by
                        rcases hx with ⟨rfl, _⟩ | hx
                        · omega
                        · exact hx
                      have hFz : (F : Int) < (z.length : Int) := by omega
                      have hEz : (F : Int) + (N : Int) - 1 < (z.length : Int) := by omega
                      have hE0 : (0 : Int) ≤ (F : Int) + (N : Int) - 1 := by omega
                      have hEn : ((F : Int) + (N : Int) - 1).toNat = F + N - 1 := by omega
                      have d1 := hO.out.1.row F (by omega)
                      have d2 := hO.out.1.cell F (F + N - 1) (by omega) (by omega)
                      have d3 := hO.out.1.free F (F + N - 1) (by omega) (by omega)
                      generalize W.tcT z N F F (F + N - 1 + 1) = old at d2
                      have htc := W.tc_step z F N hN2
                      rw [show N - 1 = k - F by omega, ← hx.out, ← hq2.out] at htc
                      have hnx := Lib.hid (fun i j => W.tcT_next z N F i (j + 1))
                      rw [htc] at hnx
                      have hst := Lib.hid ((hO.out.1.drewN qn).set F (F + N - 1) (q + x) (by omega) (by omega))
                      have hF2 := Lib.hid (show Tab2 ((wk.drewN qn).setCell ⟨w.heap.size + 1 + F, F + N - 1, none⟩ (.int .i64 (q + x))) w.heap.size z.length (fun i j => W.tcT z N (F + 1) i (j + 1)) ∧ Below w.heap.size w ((wk.drewN qn).setCell ⟨w.heap.size + 1 + F, F + N - 1, none⟩ (.int .i64 (q + x))) from
                        ⟨hst.out.turn (fun i j _ _ => by
                          rw [hnx.out i j]
                          by_cases e : i = F ∧ j = F + N - 1
                          · rw [if_pos e, if_pos (by omega)]
                          · rw [if_neg e, if_neg (by omega)]), (below_drewN hO.out.2 _).setCell (by show w.heap.size ≤ w.heap.size + 1 + F; omega) _⟩)
                      clear htc hx hst
                      go_wp2
                      go_roundw
                      case rel => exact ⟨F + 1, by omega, by go_num, hF2.out.1, hF2.out.2⟩
                      case measure => simp [intOf]; omega
            · have hFl' : ¬ ((F : Int) + (N : Int) ≤ (z.length : Int)) := by omega
              have hrow := Lib.hid (fun i j (hj : j < z.length) => W.tcT_row z z.length N F i (j + 1) (by omega) (by omega))
              have hO2 := Lib.hid (And.intro (hO.out.1.turn (f' := fun i j => W.tcT z (N + 1) 0 i (j + 1)) (fun i j _ hj => hrow.out i j hj)) hO.out.2)
              clear hO hrow
              go_wp2
              go_roundw
              case rel => exact ⟨N + 1, by omega, by omega, by go_num, hO2.out.1, hO2.out.2⟩
              case measure => simp [intOf]; omega
        · obtain rfl : N = z.length + 1 := by omega
          have hlt2' : ¬ (((z.length + 1 : Nat) : Int) ≤ (z.length : Int)) := by omega
          have d1 := hO.out.1.row 0 (by omega)
          have d2 := hO.out.1.cell 0 (z.length - 1) (by omega) (by omega)
          rw [show z.length - 1 + 1 = z.length by omega, W.tcT_done z _ 0 0 z.length (by omega) (by omega), show W.tc z 0 (z.length - 0) = W.tcA z from rfl, ← HV.out] at d2
          have hB := Lib.hid hO.out.2
          have hz0 : (0 : Int) < (z.length : Int) := by omega
          have hz1 : (1 : Int) ≤ (z.length : Int) := by omega
          have hz2 : (z.length : Int) - 1 < (z.length : Int) := by omega
          have hz3 : (0 : Int) ≤ (z.length : Int) - 1 := by omega
          have hz4 : ((z.length : Int) - 1).toNat = z.length - 1 := by omega
          clear hO
          go_wp2
          go_ret
          exact ⟨rfl, hB.out⟩
set_option maxHeartbeats 1600000 in
theorem spec_OrderedCost (A : Option Addr) (z : List Int) (c : Nat) (w : World) (h : Row w w.heap.size A (ints z)) (_hcap : z.length ≤ c) (hl : z.length ≤ 9223372036854775807) :
    Calls Try.prog 16 #[.slice A z.length c] w fun e w' => e = .returned (.tuple #[.int .i64 (W.ocOf z), .bool (W.beN 100 z)]) ∧ Below w.heap.size w w' := by
  have hc := spec_beWeights A z c w h hl
  cases hq : W.beN 100 z
  · rw [W.ocOf_no hq]
    rw [hq] at hc
    replace hc := Lib.hid hc
    clear h hq
    go_enter Try.func16, Try.ntmps16
    go_wp2_with (go_at_call 30; refine hc.out.mono ?_; rintro e w' ⟨rfl, rfl⟩)
    go_ret2
    exact ⟨rfl, Below.refl _ _⟩
  · rw [W.ocOf_yes hq]
    rw [hq] at hc
    obtain ⟨⟨hz1, hz12⟩, _⟩ := W.beN_parts hq
    have hsm := W.beN_small hq
    by_cases h1 : z.length = 1
    · obtain ⟨x, rfl⟩ := List.length_eq_one_iff.1 h1
      obtain ⟨b, off, rfl, hb, hcc⟩ := Row.int_at h (by simp)
      have c1 : w.cell? ⟨b, off, none⟩ = some (.int .i64 x) := hcc 0 (by simp)
      rw [W.ocI_one x (hsm.1 x (by simp))]
      rw [show ([x] : List Int).length = 1 from rfl] at hc ⊢
      replace hc := Lib.hid hc
      clear hcc h hq h1 hz1 hz12 hsm hl
      go_enter Try.func16, Try.ntmps16
      go_wp2_with (go_at_call 30; refine hc.out.mono ?_; rintro e w' ⟨rfl, rfl⟩)
      go_ret2
      exact ⟨rfl, Below.refl _ _⟩
    · rw [W.ocI_more hsm hz12 (by omega)]
      obtain ⟨b, off, rfl, hb, hcc⟩ := Row.int_at h (by omega)
      have ho := Lib.hid (spec_beOrdered z.length b off z c w rfl h hsm hz1 hz12)
      have h1' : ((z.length : Int) == 1) = false := beq_eq_false_iff_ne.2 (by omega)
      have h1n : (z.length == 1) = false := beq_eq_false_iff_ne.2 h1
      generalize W.tcA z = x at ho ⊢
      replace hc := Lib.hid hc
      clear h hq hsm hcc h1
      go_enter Try.func16, Try.ntmps16
      go_wp2_with (go_at_call 30; refine hc.out.mono ?_; rintro e w' ⟨rfl, rfl⟩)
      refine ho.out.mono ?_
      rintro e w2 ⟨rfl, hB2⟩
      replace hB2 := Lib.hid hB2
      go_wp2
      go_ret2
      exact ⟨rfl, hB2.out⟩
end Go.Proofs.Ythkkneboblhmlaa
