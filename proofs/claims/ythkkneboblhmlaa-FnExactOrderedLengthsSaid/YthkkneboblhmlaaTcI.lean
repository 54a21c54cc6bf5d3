/-
  WHAT THIS FILE PROVES: the least cost of a tree over weights in order, and what is told by it: the program's functions, which keep a table of 13 times 13 numbers, give the plain values; asked: slices in memory, lengths that an int holds.
-/
import Derived.Test.YthkkneboblhmlaaTc
import Derived.Test.YthkkneboblhmlaaTot
import Derived.Test.YthkkneboblhmlaaBeI
import Derived.OwnWalk
import Derived.BigQuiet
import Derived.Deep.RegionHeld3
import Derived.Deep.RegionWith
namespace Go.Proofs.Ythkkneboblhmlaa
open Go.RowKit Go.Shelf

/-- 13 times 13 numbers in a block, of each row the first n + 1 told -/
def TabAt (w : World) (g n : Nat) (f : Nat → Nat → Int) : Prop := ∀ i j, i < 13 → j ≤ n → w.cell? ⟨g, i * 13 + j, none⟩ = some (.int .i64 (f i j)) ∧ w.frozen? ⟨g, i * 13 + j, none⟩ = false
theorem TabAt.set {w : World} {g n : Nat} {f : Nat → Nat → Int} (hn : n ≤ 12) (h : TabAt w g n f) (p q : Nat) (x : Int) (_hp : p < 13) (hq : q ≤ n) : TabAt (w.setCell ⟨g, p * 13 + q, none⟩ (.int .i64 x)) g n (fun i j => if i = p ∧ j = q then x else f i j) := fun i j hi hj => by
  refine ⟨?_, by rw [World.frozen?_setCell]; exact (h i j hi hj).2⟩
  by_cases e : i = p ∧ j = q
  · obtain ⟨rfl, rfl⟩ := e
    rw [World.cell?_setCell_same' _ _ _ (by rw [(h i j hi hj).1]; rfl)]
    simp
  · have hne : (⟨g, p * 13 + q, none⟩ : Addr) ≠ ⟨g, i * 13 + j, none⟩ := by
      intro k
      simp only [Addr.mk.injEq] at k
      omega
    have h2 : (w.setCell ⟨g, p * 13 + q, none⟩ (.int .i64 x)).cell? ⟨g, i * 13 + j, none⟩ = w.cell? ⟨g, i * 13 + j, none⟩ := World.cell?_setCell_other _ _ _ _ hne
    rw [h2, (h i j hi hj).1]
    simp [e]
theorem TabAt.turn {w : World} {g n : Nat} {f f' : Nat → Nat → Int} (h : TabAt w g n f) (he : ∀ i j, i < 13 → j ≤ n → f i j = f' i j) : TabAt w g n f' := fun i j hi hj => by rw [← he i j hi hj]; exact h i j hi hj
theorem TabAt.drewN {w : World} {g n : Nat} {f : Nat → Nat → Int} (h : TabAt w g n f) (q : Nat) : TabAt (w.drewN q) g n f := fun i j hi hj => h i j hi hj
theorem row_takeT {w : World} {B : Nat} {A : Option Addr} {z : List Int} (h : Row w B A (ints z)) (k : Nat) : Row w B A (ints (z.take k)) := fun hl => by
  rw [ints_length, List.length_take] at hl
  obtain ⟨b, off, e, hb, hc⟩ := h (by rw [ints_length]; omega)
  refine ⟨b, off, e, hb, fun i v hv => hc i v ?_⟩
  unfold ints at hv ⊢
  rw [List.map_take, List.getElem?_take] at hv
  split at hv
  · exact hv
  · cases hv
theorem row_dropT {w : World} {B b off : Nat} {z : List Int} (h : Row w B (some ⟨b, off, none⟩) (ints z)) (k : Nat) : Row w B (some ⟨b, off + k, none⟩) (ints (z.drop k)) := fun hl => by
  rw [ints_length, List.length_drop] at hl
  obtain ⟨b', off', e, hb, hc⟩ := h (by rw [ints_length]; omega)
  injection e with e
  simp only [Addr.mk.injEq] at e
  obtain ⟨rfl, rfl, _⟩ := e
  refine ⟨b, off + k, rfl, hb, fun i v hv => ?_⟩
  rw [Nat.add_assoc]
  refine hc (k + i) v ?_
  unfold ints at hv ⊢
  rwa [List.map_drop, List.getElem?_drop] at hv
theorem zero_tab (w : World) : (zeroValue 57).run Try.prog w = .ok (.agg (Array.replicate 169 (.int .i64 0))) w := by kernel_rfl
theorem tab_new (w : World) (t : TypeId) : TabAt (w.alloc (.cells (Array.replicate 169 (.int .i64 0)) t)) w.heap.size 12 (fun _ _ => 0) := fun i j hi hj => by
  refine ⟨?_, World.frozen?_alloc_at _ _ _ _ rfl⟩
  rw [World.cell?_alloc_at _ _ _ _ rfl, Array.getElem?_replicate, if_pos (by omega)]
set_option maxHeartbeats 6400000 in
set_option maxRecDepth 100000 in
theorem impl_treeCost (n : Nat) (A : Option Addr) (z : List Int) (c : Nat) (w : World) (hn : z.length = n) (hcap : n ≤ c) (h : Row w w.heap.size A (ints z)) (hz : W.Sm 1200 z) (h1 : 1 ≤ n) (h12 : n ≤ 12) :
    Calls Try.prog 37 #[.slice A n c] w fun e w' => e = .returned (.int .i64 (W.tcA z)) ∧ Below w.heap.size w w' := by
  obtain ⟨b, off, rfl, hb, hcc⟩ := Row.int_at h (by omega)
  subst hn
  obtain ⟨V, hV⟩ : ∃ V, V = W.tcA z := ⟨_, rfl⟩
  rw [← hV]
  have HV := Lib.hid hV
  clear hV
  have hzv := zero_tab w
  have hT0 := Lib.hid (show TabAt (w.alloc (.cells (Array.replicate 169 (.int .i64 0)) 57)) w.heap.size z.length (W.tcT z 2 0) from fun i j hi hj => by rw [W.tcT_start]; exact tab_new w 57 i j hi (by omega))
  have hB0 := Lib.hid ((Below.refl w.heap.size w).alloc (Nat.le_refl _) (.cells (Array.replicate 169 (.int .i64 0)) 57))
  have hsz0 : w.heap.size < (w.alloc (.cells (Array.replicate 169 (.int .i64 0)) 57)).heap.size := by simp
  have H := Lib.hid h
  have HS := Lib.hid hz
  obtain ⟨w1, hw1⟩ : ∃ w1, w1 = w.alloc (.cells (Array.replicate 169 (.int .i64 0)) 57) := ⟨_, rfl⟩
  rw [← hw1] at hT0 hB0 hsz0
  replace hsz0 := Lib.hid hsz0
  have hw1' := hw1.symm
  clear hcc h hz hw1
  go_enter Try.func37, Try.ntmps37
  go_wp2_with fail
  clear hw1' hzv
  go_loopw [4] (fun nv wr => ∃ N : Nat, 2 ≤ N ∧ N ≤ z.length + 1 ∧ nv = .int .i64 N ∧ TabAt wr w.heap.size z.length (W.tcT z N 0) ∧ Below w.heap.size w wr ∧ w.heap.size < wr.heap.size) (fun nv _ => z.length + 2 - (intOf nv).toNat)
  case atStart => exact ⟨2, by omega, by omega, rfl, hT0.out, hB0.out, hsz0.out⟩
  case round =>
    clear hT0 hB0 hsz0
    obtain ⟨N, hN2, hN, rfl, hT, hB, hsz⟩ := hrel
    have hO := Lib.hid (And.intro hT (And.intro hB hsz))
    clear hT hB hsz
    by_cases hlt : N ≤ z.length
    · have hlt' : (N : Int) ≤ (z.length : Int) := by omega
      generalize wr = wq at *
      go_wp2_with fail
      go_loopw [20] (fun fv wr => ∃ F : Nat, F ≤ z.length - N + 1 ∧ fv = .int .i64 F ∧ TabAt wr w.heap.size z.length (W.tcT z N F) ∧ Below w.heap.size w wr ∧ w.heap.size < wr.heap.size) (fun fv _ => z.length - N + 1 - (intOf fv).toNat)
      case atStart => exact ⟨0, by omega, rfl, hO.out.1, hO.out.2.1, hO.out.2.2⟩
      case round =>
        clear hO
        obtain ⟨F, hF, rfl, hT, hB, hsz⟩ := hrel
        have hO := Lib.hid (And.intro hT (And.intro hB hsz))
        clear hT hB hsz
        by_cases hFl : F < z.length - N + 1
        · have hFl' : (F : Int) < (z.length : Int) - (N : Int) + 1 := by omega
          generalize wr = wk at *
          go_wp2_with fail
          go_loopw [7, 8] (fun bv mv wr => ∃ M : Nat, F + 1 ≤ M ∧ M ≤ F + N ∧ mv = .int .i64 (M : Int) ∧ (∃ x : Int, bv = .int .i64 x ∧ 0 ≤ x ∧ x ≤ 13201 ∧ Hid (x = W.mnB (M - F - 1) (W.tcP z F N))) ∧ ∃ q, wr = wk.drewN q) (fun _ mv _ => 40 - (intOf mv).toNat)
          case atStart => exact ⟨F + 1, by omega, by omega, by go_num, ⟨13201, rfl, by omega, by omega, by show _ = _; rw [show F + 1 - F - 1 = 0 by omega]; rfl⟩, 0, rfl⟩
          case round =>
            obtain ⟨M, hM1, hM2, rfl, ⟨x, rfl, hx0, hx1, hx⟩, q, rfl⟩ := hrel
            by_cases hkl : M < F + N
            · have hkl' : (M : Int) < (F : Int) + (N : Int) := by omega
              have hF13 : (F : Int) < 13 := by omega
              have hM13 : (M : Int) < 13 := by omega
              have hE13 : (F : Int) + (N : Int) < 13 := by omega
              have hE0 : (0 : Int) ≤ (F : Int) + (N : Int) := by omega
              have hEn : ((F : Int) + (N : Int)).toNat = F + N := by omega
              have d1 := (hO.out.1 F M (by omega) (by omega)).1
              have d2 := (hO.out.1 M (F + N) (by omega) (by omega)).1
              rw [W.tcT_done z N F F M (by omega) (by omega)] at d1
              rw [W.tcT_done z N F M (F + N) (by omega) (by omega)] at d2
              have b1 := W.tc_bound HS.out (M - F) F (by omega)
              have b2 := W.tc_bound HS.out (F + N - M) M (by omega)
              have hP := Lib.hid (show W.tc z F (M - F) + W.tc z M (F + N - M) = W.tcP z F N (M - F - 1) by
                unfold W.tcP
                rw [show M - F - 1 + 1 = M - F by omega, show F + (M - F - 1) + 1 = M by omega, show N - (M - F - 1) - 1 = F + N - M by omega])
              have hmn := Lib.hid (show W.mnB (M + 1 - F - 1) (W.tcP z F N) = min (W.mnB (M - F - 1) (W.tcP z F N)) (W.tcP z F N (M - F - 1)) by rw [show M + 1 - F - 1 = (M - F - 1) + 1 by omega]; rfl)
              generalize W.tc z F (M - F) = y1 at d1 b1 hP
              generalize W.tc z M (F + N - M) = y2 at d2 b2 hP
              have b3 : 0 ≤ y1 ∧ y1 ≤ 13200 := by omega
              have b4 : 0 ≤ y2 ∧ y2 ≤ 13200 := by omega
              clear b1 b2
              have hmin : Hid (0 ≤ min x (y1 + y2) ∧ min x (y1 + y2) ≤ 13201) := by
                show _ ∧ _
                omega
              have hF1 := hM1
              go_wp2_with fail
              go_quiet (fail)
              go_wp2
              go_roundw
              case rel => exact ⟨M + 1, by omega, by omega, by go_num, ⟨min x (y1 + y2), by go_num, hmin.out.1, hmin.out.2, by show _ = _; rw [hmn.out, ← hP.out, ← hx.out]⟩, q + nq, by first | rfl | rw [World.drewN_drewN]⟩
              case measure => simp [intOf]; omega
            · obtain rfl : M = F + N := by omega
              have hkl' : ¬ (((F + N : Nat) : Int) < (F : Int) + (N : Int)) := by omega
              have hF0 : (0 : Int) ≤ (F : Int) := by omega
              have hFE : (F : Int) ≤ (F : Int) + (N : Int) := by omega
              have hEc : (F : Int) + (N : Int) ≤ (c : Int) := by omega
              have hEn : ((F : Int) + (N : Int)).toNat = F + N := by omega
              have hF13 : (F : Int) < 13 := by omega
              have hE13 : (F : Int) + (N : Int) < 13 := by omega
              have hE0 : (0 : Int) ≤ (F : Int) + (N : Int) := by omega
              have hrow := Lib.hid (fun (u : World) (hu : Below w.heap.size w u) => show Row u u.heap.size (some ⟨b, off + F, none⟩) (ints ((z.drop F).take N)) from row_takeT (row_dropT ((H.out.below hu).more hu.size) F) N)
              have htot := Lib.hid (fun (cc : Nat) (u : World) (hu : Below w.heap.size w u) => impl_totalOf N (some ⟨b, off + F, none⟩) ((z.drop F).take N) cc u (by rw [List.length_take, List.length_drop]; omega) (hrow.out u hu) (by omega) (fun y hy => by
                have h1 := ((HS.out.drop F).take N)
                obtain ⟨i, hi, rfl⟩ := List.mem_iff_getElem.1 hy
                have := h1.at i hi
                omega))
              rw [show ((z.drop F).take N).sum = W.stS z F N from rfl] at htot
              have d1 := hO.out.1 F (F + N) (by omega) (by omega)
              have d2 := d1.1
              have d3 := d1.2
              generalize W.tcT z N F F (F + N) = old at d2
              have hst := Lib.hid (hO.out.1.set (by omega) F (F + N) (W.tc z F N) (by omega) (by omega))
              have htc := W.tc_step z F N hN2
              have hxe := hx.out
              rw [show F + N - F - 1 = N - 1 by omega] at hxe
              rw [← hxe] at htc
              have hsb := W.stS_bound HS.out F N
              generalize W.stS z F N = sm at htot htc hsb
              generalize hVV : W.tc z F N = VV at hst htc
              subst htc
              have hnx := Lib.hid (fun i j => W.tcT_next z N F i j)
              rw [hVV] at hnx
              have hBq := below_drewN hO.out.2.1 q
              have hBk := Lib.hid hO.out.2.1
              have hcF : ¬ (c = F) := by omega
              clear hxe hx hVV d1
              go_wp2_with fail
              go_region_held3 (fun w' => Below w.heap.size w w') (first | assumption | exact hBq.drew | exact below_drewN hBk.out _ | exact (below_drewN hBk.out _).setCell (Nat.le_refl _) _) (first | (go_at_call 38; refine (htot.out (c - F) _ (by assumption)).mono ?_; rintro e w' ⟨rfl, rfl⟩))
              all_goals
                have hwr : IntKind.i64.wrap (sm + x) = sm + x := IntWalk.i64_in _ (by omega)
                rw [hwr]
                have hsz3 := hO.out.2.2
                have hF2 := Lib.hid (show TabAt ((wk.drewN (q + 1)).setCell ⟨w.heap.size, F * 13 + (F + N), none⟩ (.int .i64 (sm + x))) w.heap.size z.length (W.tcT z N (F + 1)) ∧ Below w.heap.size w ((wk.drewN (q + 1)).setCell ⟨w.heap.size, F * 13 + (F + N), none⟩ (.int .i64 (sm + x))) ∧ w.heap.size < ((wk.drewN (q + 1)).setCell ⟨w.heap.size, F * 13 + (F + N), none⟩ (.int .i64 (sm + x))).heap.size from
                  ⟨(((hO.out.1.drewN (q + 1)).set (by omega) F (F + N) (sm + x) (by omega) (by omega))).turn (fun i j _ _ => (hnx.out i j).symm), (below_drewN hBk.out _).setCell (Nat.le_refl _) _, by rw [World.size_setCell]; exact hsz3⟩)
                clear hwr hsz3
                go_wp2
                go_roundw
                case rel => exact ⟨F + 1, by omega, by go_num, hF2.out.1, hF2.out.2.1, hF2.out.2.2⟩
                case measure => simp [intOf]; omega
        · have hFl' : ¬ ((F : Int) < (z.length : Int) - (N : Int) + 1) := by omega
          have hrow := Lib.hid (fun i j (hj : j ≤ z.length) => W.tcT_row z z.length N F i j (by omega) hj)
          have hO2 := Lib.hid (And.intro (hO.out.1.turn (f' := W.tcT z (N + 1) 0) (fun i j _ hj => hrow.out i j hj)) hO.out.2)
          clear hO hrow
          go_wp2
          go_roundw
          case rel => exact ⟨N + 1, by omega, by omega, by go_num, hO2.out.1, hO2.out.2.1, hO2.out.2.2⟩
          case measure => simp [intOf]; omega
    · obtain rfl : N = z.length + 1 := by omega
      have hlt' : ¬ (((z.length + 1 : Nat) : Int) ≤ (z.length : Int)) := by omega
      have hl13 : (z.length : Int) < 13 := by omega
      have d1 := (hO.out.1 0 z.length (by omega) (Nat.le_refl _)).1
      rw [W.tcT_done z _ 0 0 z.length (by omega) (by omega), Nat.zero_mul, Nat.zero_add, show W.tc z 0 (z.length - 0) = W.tcA z from rfl, ← HV.out] at d1
      have hB := Lib.hid hO.out.2.1
      clear hO
      go_wp2
      go_ret
      exact ⟨rfl, hB.out⟩
end Go.Proofs.Ythkkneboblhmlaa
