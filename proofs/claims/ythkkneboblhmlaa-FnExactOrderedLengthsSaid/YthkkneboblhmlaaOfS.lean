/-
  WHAT THIS FILE PROVES: the first ordered lengths of least cost: the specification's functions give the plain ones; asked: slices in memory, numbers that an int holds.
-/
import Derived.Test.YthkkneboblhmlaaOf
import Derived.Test.YthkkneboblhmlaaOlS
import Derived.Test.YthkkneboblhmlaaTcS
import Derived.Test.YthkkneboblhmlaaMrT
import Derived.Test.YthkkneboblhmlaaStep
namespace Go.Proofs.Ythkkneboblhmlaa
open Go.RowKit Go.Shelf

theorem givesInts_nil (w0 w' : World) (hB : Below w0.heap.size w0 w') : GivesInts w0 [] (.returned (.slice none 0 0)) w' := ⟨none, 0, rfl, World.ownsRow_nil _ _ _ _, hB⟩
theorem all_snoc11 {xs : List Int} {l : Nat} (h : xs.all (fun x => decide (1 ≤ x ∧ x ≤ 11)) = true) (h1 : 1 ≤ l) (h2 : l ≤ 11) : (xs ++ [(l : Int)]).all (fun x => decide (1 ≤ x ∧ x ≤ 11)) = true := by
  rw [List.all_append, h, Bool.true_and]
  simp
  omega
/-- what beFirstOrdered gives where f lengths lack -/
def FoAt (z : List Int) (f : Nat) : Prop := ∀ (xs : List Int) (A Aw : Option Addr) (c cw : Nat) (C : Int) (w : World), xs.length + f = z.length → xs.all (fun x => decide (1 ≤ x ∧ x ≤ 11)) = true → -1100 ≤ C → C ≤ 20000 → Row w w.heap.size Aw (ints z) → Row w w.heap.size A (ints xs) →
    Calls Try.prog 17 #[.slice Aw z.length cw, .slice A xs.length c, .int .i64 C] w (GivesInts w (W.foS z f xs C))
set_option maxHeartbeats 3200000 in
theorem spec_fo_bad {z : List Int} (hz6 : z.length ≤ 6) {f : Nat} (xs : List Int) (A Aw : Option Addr) (c cw : Nat) (C : Int) (w : World) (hl : xs.length + f = z.length) (hx : xs.all (fun x => decide (1 ≤ x ∧ x ≤ 11)) = true) (hB : W.foBad xs C = true) (hr : Row w w.heap.size A (ints xs)) :
    Calls Try.prog 17 #[.slice Aw z.length cw, .slice A xs.length c, .int .i64 C] w (GivesInts w (W.foS z f xs C)) := by
  rw [W.foS_bad hB f]
  unfold W.foBad at hB
  by_cases hC : C < 0
  · clear hB hr hx
    go_enter Try.func17, Try.ntmps17
    go_wp2
    go_ret
    exact givesInts_nil _ _ (Below.refl _ _)
  · rw [decide_eq_false hC, Bool.false_or, Bool.and_eq_true, decide_eq_true_eq, Bool.not_eq_true'] at hB
    have hcan := spec_beCan A xs c w hr hx (by omega) (by omega)
    rw [hB.2] at hcan
    have h0 : (0 : Int) < (xs.length : Int) := Int.ofNat_lt.2 hB.1
    replace hcan := Lib.hid hcan
    clear hB hr hx
    go_enter Try.func17, Try.ntmps17
    go_wp2_with (go_at_call 32; refine hcan.out.mono ?_; rintro e w1 ⟨rfl, hB1⟩)
    go_ret
    exact givesInts_nil _ _ hB1
/-- what stands where a beginning may be -/
theorem fo_good {xs : List Int} {C : Int} (h : W.foBad xs C = false) : 0 ≤ C ∧ (xs.length = 0 ∨ (0 < xs.length ∧ W.isOl xs = true)) := by
  unfold W.foBad at h
  rw [Bool.or_eq_false_iff, decide_eq_false_iff_not] at h
  refine ⟨by omega, ?_⟩
  by_cases h0 : xs.length = 0
  · exact .inl h0
  · have h1 : 0 < xs.length := by omega
    have h2 := h.2
    rw [decide_eq_true h1, Bool.true_and, Bool.not_eq_false'] at h2
    exact .inr ⟨h1, h2⟩
set_option maxHeartbeats 3200000 in
theorem spec_fo0 {z : List Int} (hz1 : 1 ≤ z.length) (hz6 : z.length ≤ 6) : FoAt z 0 := by
  intro xs A Aw c cw C w hl hx hC1 hC2 hrw hr
  by_cases hbad : W.foBad xs C = true
  · exact spec_fo_bad hz6 xs A Aw c cw C w hl hx hbad hr
  · have hgood := Bool.eq_false_iff.2 hbad
    rw [W.foS_end hgood]
    obtain ⟨hC0, hg⟩ := fo_good hgood
    have hg2 : 0 < xs.length ∧ W.isOl xs = true := by
      rcases hg with h | h
      · omega
      · exact h
    have hcan := spec_beCan A xs c w hr hx (by omega) (by omega)
    rw [hg2.2] at hcan
    have h0 : (0 : Int) < (xs.length : Int) := Int.ofNat_lt.2 hg2.1
    have hown := Lib.hid (fun (u : World) (hu : Below w.heap.size w u) => spec_l1OwnM xs.length A xs c u rfl ((hr.below hu).more hu.size) (by omega))
    have hzl : z.length = xs.length := by omega
    have hCn : ¬ C < 0 := by omega
    rw [hzl]
    replace hcan := Lib.hid hcan
    clear hbad hgood hg hg2 hrw hr hx hl
    obtain ⟨T, hT⟩ : ∃ T, T = if C = 0 then xs else [] := ⟨_, rfl⟩
    rw [← hT]
    by_cases h : C = 0
    · subst h
      rw [if_pos rfl] at hT
      subst hT
      clear hzl
      go_enter Try.func17, Try.ntmps17
      go_wp2_with (first
        | (go_at_call 32; refine hcan.out.mono ?_; rintro e w1 ⟨rfl, hB1⟩; have HB := Lib.hid hB1; clear hB1)
        | (go_at_call 33; refine (hown.out _ HB.out).mono ?_; rintro e w2 ⟨v2, rfl, ho2, hB2⟩; have HF := Lib.hid (And.intro (own_base ho2 HB.out.size) (HB.out.trans (hB2.mono HB.out.size))); clear ho2 hB2))
      go_ret
      exact givesInts_of HF.out.1 rfl HF.out.2
    · rw [if_neg h] at hT
      have hne : (C == 0) = false := beq_eq_false_iff_ne.2 h
      rw [hT]
      clear hT hown
      go_enter Try.func17, Try.ntmps17
      go_wp2_with (go_at_call 32; refine hcan.out.mono ?_; rintro e w1 ⟨rfl, hB1⟩)
      go_ret
      exact givesInts_nil _ _ hB1
set_option maxHeartbeats 6400000 in
set_option maxRecDepth 100000 in
theorem spec_foS {z : List Int} (hz : W.beN 100 z = true) (hz6 : z.length ≤ 6) {f : Nat} (ih : FoAt z f) : FoAt z (f + 1) := by
  intro xs A Aw c cw C w hl hx hC1 hC2 hrw hr
  by_cases hbad : W.foBad xs C = true
  · exact spec_fo_bad hz6 xs A Aw c cw C w hl hx hbad hr
  · have hgood := Bool.eq_false_iff.2 hbad
    rw [W.foS_go hgood f]
    obtain ⟨hC0, hg⟩ := fo_good hgood
    obtain ⟨i1, hi, hy0, hy1, hy2⟩ := info_parts infoInt
    have HI := Lib.hid (And.intro hi (And.intro hy0 (And.intro hy1 hy2)))
    have hlt : xs.length < z.length := by omega
    have hlti : (xs.length : Int) < (z.length : Int) := Int.ofNat_lt.2 hlt
    have hne : ((xs.length : Int) == (z.length : Int)) = false := beq_eq_false_iff_ne.2 (by omega)
    have hk0 : (0 : Int) ≤ (xs.length : Int) := Int.natCast_nonneg _
    have hy := W.beN_mem hz (List.getElem_mem hlt)
    have hyd := W.getD_lt z xs.length hlt
    have hcell : Hid (∃ b off, Aw = some ⟨b, off, none⟩ ∧ ∀ u, Below w.heap.size w u → u.cell? ⟨b, off + xs.length, none⟩ = some (.int .i64 z[xs.length])) := by
      obtain ⟨b, off, e, hb, hcc⟩ := Row.int_at hrw (by omega)
      refine ⟨b, off, e, fun u hu => ?_⟩
      have := hu.cell (p := ⟨b, off + xs.length, none⟩) (by have := hb; simpa using this)
      rw [this]
      exact hcc xs.length hlt
    obtain ⟨b, off, rfl, hcell⟩ := hcell
    replace hcell := Lib.hid hcell
    rw [hyd]
    generalize z[xs.length] = y at hy hcell
    have hown := Lib.hid (fun (u : World) (hu : Below w.heap.size w u) => spec_l1OwnM xs.length A xs c u rfl ((hr.below hu).more hu.size) (by omega))
    have hcan : xs.length = 0 ∨ 0 < xs.length ∧ Hid (Calls Try.prog 32 #[.slice A xs.length c] w fun e w' => e = .returned (.bool true) ∧ Below w.heap.size w w') := by
      rcases hg with h | h
      · exact .inl h
      · have := spec_beCan A xs c w hr hx (by omega) (by omega)
        rw [h.2] at this
        exact .inr ⟨h.1, this⟩
    have hCn : ¬ C < 0 := by omega
    obtain ⟨G, hG⟩ : ∃ G, G = fun (l : Nat) => W.foS z f (xs ++ [(l : Int)]) (C - (l : Int) * y) := ⟨_, rfl⟩
    have Hrec : Hid (∀ (l : Nat) (A2 : Option Addr) (c2 : Nat) (p : Int) (u : World), 1 ≤ l → l ≤ 11 → (l : Int) * y = p → Below w.heap.size w u → Row u u.heap.size A2 (ints (xs ++ [(l : Int)])) →
        Calls Try.prog 17 #[.slice (some ⟨b, off, none⟩) z.length cw, .slice A2 (xs.length + 1) c2, .int .i64 (C - p)] u (GivesInts u (G l))) := by
      intro l A2 c2 p u h1 h2 hp hu ho
      have h3 := ih (xs ++ [(l : Int)]) A2 (some ⟨b, off, none⟩) c2 cw (C - (l : Int) * y) u (by rw [List.length_append, List.length_singleton]; omega) (all_snoc11 hx h1 h2) (by
        have : (l : Int) * y ≤ 11 * 100 := Int.mul_le_mul (by omega) (by omega) (by omega) (by omega)
        omega) (by
        have : 0 ≤ (l : Int) * y := Int.mul_nonneg (by omega) (by omega)
        omega) ((hrw.below hu).more hu.size) ho
      rw [List.length_append, List.length_singleton, hp] at h3
      rw [hG]
      show Calls _ _ _ _ (GivesInts u (W.foS z f (xs ++ [(l : Int)]) (C - (l : Int) * y)))
      rw [hp]
      exact h3
    have Hlen : Hid (∀ l, (G l).length ≤ 6) := fun l => by
      rw [hG]
      have := W.foS_len z f (xs ++ [(l : Int)]) (C - (l : Int) * y)
      rw [List.length_append, List.length_singleton] at this
      show (W.foS z f (xs ++ [(l : Int)]) (C - (l : Int) * y)).length ≤ 6
      omega
    rw [← hG]
    obtain ⟨T, hT⟩ : ∃ T, T = W.fstFrom G 11 1 := ⟨_, rfl⟩
    rw [← hT]
    replace hT := Lib.hid hT.symm
    clear ih hbad hgood hg hrw hr hx hl hyd hG hz hi hy0 hy1 hy2
    replace hlt := Lib.hid hlt
    have hxl : xs.length ≤ 6 := by have := hlt.out; omega
    rcases hcan with h0 | ⟨h0, hcan⟩
    all_goals
      have h0i : (if 0 < xs.length then True else True) := by split <;> trivial
    · have h0n : ¬ (0 : Int) < (xs.length : Int) := by omega
      clear h0i
      replace h0 := Lib.hid h0
      go_enter Try.func17, Try.ntmps17
      go_wp2
      go_loopw [7, 8] (fun lv ov wr => ∃ r l : Nat, r + l = 12 ∧ 1 ≤ l ∧ lv = .int .i64 l ∧ Hid (W.fstFrom G r l = T) ∧ Below w.heap.size w wr) (fun lv _ _ => 12 - (intOf lv).toNat)
      case atStart => exact ⟨11, 1, rfl, Nat.le_refl _, rfl, hT, Below.refl _ _⟩
      case round =>
        obtain ⟨r, l, hrl, hl1, rfl, hR, hB⟩ := hrel
        generalize wr = wk at *
        replace hB := Lib.hid hB
        have hszk := hB.out.size
        cases r with
        | zero =>
          obtain rfl : l = 12 := by omega
          have hT0 : T = [] := hR.out.symm
          replace hT0 := Lib.hid hT0
          go_wp2
          go_ret
          rw [hT0.out]
          exact givesInts_nil _ _ hB.out
        | succ r =>
          have hl11 : l ≤ 11 := by omega
          have hle : (l : Int) ≤ 11 := by omega
          have hmul : 0 ≤ (l : Int) * y ∧ (l : Int) * y ≤ 1100 := ⟨Int.mul_nonneg (by omega) (by omega), show (l : Int) * y ≤ 11 * 100 from Int.mul_le_mul (by omega) (by omega) (by omega) (by omega)⟩
          have hw : C - (l : Int) * y = IntKind.i64.wrap (C - IntKind.i64.wrap ((l : Int) * y)) := by
            have f1 : IntKind.i64.wrap ((l : Int) * y) = (l : Int) * y := IntWalk.i64_in _ (by omega)
            have f2 : IntKind.i64.wrap (C - (l : Int) * y) = C - (l : Int) * y := IntWalk.i64_in _ (by omega)
            rw [f1, f2]
          replace hw := Lib.hid hw
          have hrec := Lib.hid (fun A2 c2 u => Hrec.out l A2 c2 _ u hl1 hl11 rfl)
          have hrl2 := Lib.hid hrl
          have cA := hcell.out wk.drew hB.out.drew
          have hown1 := Lib.hid (hown.out wk.drew hB.out.drew)
          have hgl := Hlen.out l
          have hBb := Lib.hid (show Below w.heap.size w ((wk.alloc (.cells #[.int .i64 (l : Int)] 3)).drew) from (hB.out.alloc hszk _).drew)
          have cB := hcell.out _ hBb.out
          have hown2 := Lib.hid (hown.out _ hBb.out)
          have hzb : wk.heap.size < ((wk.alloc (.cells #[.int .i64 (l : Int)] 3)).drew).heap.size := by show wk.heap.size < (wk.alloc _).heap.size; simp
          have hnew := Lib.hid (show ((wk.alloc (.cells #[.int .i64 (l : Int)] 3)).drew).cell? ⟨wk.heap.size, 0, none⟩ = some (.int .i64 (l : Int)) by
            show (wk.alloc _).cell? _ = _
            rw [World.cell?_alloc_at _ _ _ _ rfl]
            rfl)
          replace hzb := Lib.hid hzb
          by_cases hg0 : (G l).length = 0
          · have hg0n : ¬ (0 : Int) < ((G l).length : Int) := by omega
            have hR2 := Lib.hid (show W.fstFrom G r (l + 1) = T from by have := hR.out; unfold W.fstFrom at this; rw [if_pos hg0] at this; exact this)
            clear hmul hrl hgl
            generalize G l = gs at *
            go_wp2_with fail
            go_region_law (first
              | (refine step_own_append _ rfl (.tmp 36) (.tmp 38) 22 rfl wk.heap.size 3 i1 (.int .i64 0) 1 8 Try.underlying22 HI.out.1 HI.out.2.1 HI.out.2.2.1 HI.out.2.2.2 rfl (by decide) v1 xs.length (ints xs) (by first | rfl | simp [Act.eval]) hOa.out.1 ⟨w1.heap.size, 0, none⟩ 1 1 [.int .i64 (l : Int)] (by first | rfl | simp [Act.eval]) rfl (fun i u hu => cell_one_new _ _ _ i u hu) (one_cell _) (by unfold maxLen; omega) (by omega) hOa.out.2.2 (fun v2 w2 ho2 hg2 => ?_); obtain ⟨A2, c2, rfl⟩ := own_slice ho2; have HO2 := Lib.hid (And.intro ho2 (hOa.out.2.1.grown hg2 (Nat.le_trans hszk hOa.out.2.2) (fun g hg => Nat.le_trans hszk (hOa.out.1.lt g hg).1))); have HR2 := Lib.hid (show Row w2 w2.heap.size A2 (ints (xs ++ [(l : Int)])) from by rw [ints_snoc]; exact Row.of_own HO2.out.1); have Hcall := Lib.hid (hrec.out A2 c2 w2 HO2.out.2 HR2.out); rw [hw.out] at Hcall; have cA2 := hcell.out w2 HO2.out.2; clear ho2 hg2)
              | (refine step_own_append _ rfl (.tmp 36) (.tmp 38) 22 rfl wk.heap.size 3 i1 (.int .i64 0) 1 8 Try.underlying22 HI.out.1 HI.out.2.1 HI.out.2.2.1 HI.out.2.2.2 rfl (by decide) v1 xs.length (ints xs) (by first | rfl | simp [Act.eval]) hOb.out.1 ⟨wk.heap.size, 0, none⟩ 1 1 [.int .i64 (l : Int)] (by first | rfl | simp [Act.eval]) rfl (fun i u hu => by
                  have hi0 : i = 0 := by
                    have := (List.getElem?_eq_some_iff.1 hu).1
                    simpa using this
                  subst hi0
                  simp at hu
                  subst hu
                  exact hOb.out.2.2.2) (one_cell _) (by unfold maxLen; omega) (by omega) hOb.out.2.2.1 (fun v2 w2 ho2 hg2 => ?_); obtain ⟨A2, c2, rfl⟩ := own_slice ho2; have HO2 := Lib.hid (And.intro ho2 (hOb.out.2.1.grown hg2 (Nat.le_trans hszk hOb.out.2.2.1) (fun g hg => Nat.le_trans hszk (hOb.out.1.lt g hg).1))); have HR2 := Lib.hid (show Row w2 w2.heap.size A2 (ints (xs ++ [(l : Int)])) from by rw [ints_snoc]; exact Row.of_own HO2.out.1); have Hcall := Lib.hid (hrec.out A2 c2 w2 HO2.out.2 HR2.out); rw [hw.out] at Hcall; have cA2 := hcell.out w2 HO2.out.2; clear ho2 hg2)
              | (go_simp; go_at_call 33; refine hown1.out.mono ?_; rintro e w1 ⟨v1, rfl, ho1, hB1⟩; have hOa := Lib.hid (show (w1.alloc (.cells #[.int .i64 (l : Int)] 3)).ownsRow wk.heap.size 3 1 v1 xs.length (ints xs) ∧ Below w.heap.size w (w1.alloc (.cells #[.int .i64 (l : Int)] 3)) ∧ wk.heap.size ≤ (w1.alloc (.cells #[.int .i64 (l : Int)] 3)).heap.size from ⟨ho1.alloc _, (hB.out.drew.trans (hB1.mono hszk)).alloc (Nat.le_trans hszk hB1.size) _, by have := hB1.size; simp; exact Nat.le_succ_of_le this⟩); have cA0 := hcell.out w1 (hB.out.drew.trans (hB1.mono hszk)); have cA1 := hcell.out _ hOa.out.2.1; clear ho1 hB1)
              | (go_simp; go_at_call 33; refine hown2.out.mono ?_; rintro e w1 ⟨v1, rfl, ho1, hB1⟩; have hOb := Lib.hid (show w1.ownsRow wk.heap.size 3 1 v1 xs.length (ints xs) ∧ Below w.heap.size w w1 ∧ wk.heap.size ≤ w1.heap.size ∧ w1.cell? ⟨wk.heap.size, 0, none⟩ = some (.int .i64 (l : Int)) from ⟨own_base ho1 (Nat.le_of_lt hzb.out), hBb.out.trans (hB1.mono hBb.out.size), Nat.le_trans (Nat.le_of_lt hzb.out) hB1.size, (hB1.cell (p := ⟨wk.heap.size, 0, none⟩) hzb.out).trans hnew.out⟩); have cA0 := hcell.out w1 hOb.out.2.1; clear ho1 hB1)
              | (go_simp; go_at_call 17; refine Hcall.out.mono ?_; rintro e w3 ⟨A3, c3, rfl, ho3, hB3⟩; have HF := Lib.hid (And.intro (own_base ho3 HO2.out.2.size) (HO2.out.2.trans (hB3.mono HO2.out.2.size))); clear ho3 hB3))
            all_goals
              go_wp2
              go_roundw
              case rel => exact ⟨r, l + 1, by have := hrl2.out; omega, by omega, by go_num, hR2, HF.out.2⟩
              case measure => simp [intOf]; omega
          · have hg0p : (0 : Int) < ((G l).length : Int) := by omega
            have hTg := Lib.hid (show G l = T from by have := hR.out; unfold W.fstFrom at this; rw [if_neg hg0] at this; exact this)
            clear hmul hrl hgl
            generalize G l = gs at *
            go_wp2_with fail
            go_region_law (first
              | (refine step_own_append _ rfl (.tmp 36) (.tmp 38) 22 rfl wk.heap.size 3 i1 (.int .i64 0) 1 8 Try.underlying22 HI.out.1 HI.out.2.1 HI.out.2.2.1 HI.out.2.2.2 rfl (by decide) v1 xs.length (ints xs) (by first | rfl | simp [Act.eval]) hOa.out.1 ⟨w1.heap.size, 0, none⟩ 1 1 [.int .i64 (l : Int)] (by first | rfl | simp [Act.eval]) rfl (fun i u hu => cell_one_new _ _ _ i u hu) (one_cell _) (by unfold maxLen; omega) (by omega) hOa.out.2.2 (fun v2 w2 ho2 hg2 => ?_); obtain ⟨A2, c2, rfl⟩ := own_slice ho2; have HO2 := Lib.hid (And.intro ho2 (hOa.out.2.1.grown hg2 (Nat.le_trans hszk hOa.out.2.2) (fun g hg => Nat.le_trans hszk (hOa.out.1.lt g hg).1))); have HR2 := Lib.hid (show Row w2 w2.heap.size A2 (ints (xs ++ [(l : Int)])) from by rw [ints_snoc]; exact Row.of_own HO2.out.1); have Hcall := Lib.hid (hrec.out A2 c2 w2 HO2.out.2 HR2.out); rw [hw.out] at Hcall; have cA2 := hcell.out w2 HO2.out.2; clear ho2 hg2)
              | (refine step_own_append _ rfl (.tmp 36) (.tmp 38) 22 rfl wk.heap.size 3 i1 (.int .i64 0) 1 8 Try.underlying22 HI.out.1 HI.out.2.1 HI.out.2.2.1 HI.out.2.2.2 rfl (by decide) v1 xs.length (ints xs) (by first | rfl | simp [Act.eval]) hOb.out.1 ⟨wk.heap.size, 0, none⟩ 1 1 [.int .i64 (l : Int)] (by first | rfl | simp [Act.eval]) rfl (fun i u hu => by
                  have hi0 : i = 0 := by
                    have := (List.getElem?_eq_some_iff.1 hu).1
                    simpa using this
                  subst hi0
                  simp at hu
                  subst hu
                  exact hOb.out.2.2.2) (one_cell _) (by unfold maxLen; omega) (by omega) hOb.out.2.2.1 (fun v2 w2 ho2 hg2 => ?_); obtain ⟨A2, c2, rfl⟩ := own_slice ho2; have HO2 := Lib.hid (And.intro ho2 (hOb.out.2.1.grown hg2 (Nat.le_trans hszk hOb.out.2.2.1) (fun g hg => Nat.le_trans hszk (hOb.out.1.lt g hg).1))); have HR2 := Lib.hid (show Row w2 w2.heap.size A2 (ints (xs ++ [(l : Int)])) from by rw [ints_snoc]; exact Row.of_own HO2.out.1); have Hcall := Lib.hid (hrec.out A2 c2 w2 HO2.out.2 HR2.out); rw [hw.out] at Hcall; have cA2 := hcell.out w2 HO2.out.2; clear ho2 hg2)
              | (go_simp; go_at_call 33; refine hown1.out.mono ?_; rintro e w1 ⟨v1, rfl, ho1, hB1⟩; have hOa := Lib.hid (show (w1.alloc (.cells #[.int .i64 (l : Int)] 3)).ownsRow wk.heap.size 3 1 v1 xs.length (ints xs) ∧ Below w.heap.size w (w1.alloc (.cells #[.int .i64 (l : Int)] 3)) ∧ wk.heap.size ≤ (w1.alloc (.cells #[.int .i64 (l : Int)] 3)).heap.size from ⟨ho1.alloc _, (hB.out.drew.trans (hB1.mono hszk)).alloc (Nat.le_trans hszk hB1.size) _, by have := hB1.size; simp; exact Nat.le_succ_of_le this⟩); have cA0 := hcell.out w1 (hB.out.drew.trans (hB1.mono hszk)); have cA1 := hcell.out _ hOa.out.2.1; clear ho1 hB1)
              | (go_simp; go_at_call 33; refine hown2.out.mono ?_; rintro e w1 ⟨v1, rfl, ho1, hB1⟩; have hOb := Lib.hid (show w1.ownsRow wk.heap.size 3 1 v1 xs.length (ints xs) ∧ Below w.heap.size w w1 ∧ wk.heap.size ≤ w1.heap.size ∧ w1.cell? ⟨wk.heap.size, 0, none⟩ = some (.int .i64 (l : Int)) from ⟨own_base ho1 (Nat.le_of_lt hzb.out), hBb.out.trans (hB1.mono hBb.out.size), Nat.le_trans (Nat.le_of_lt hzb.out) hB1.size, (hB1.cell (p := ⟨wk.heap.size, 0, none⟩) hzb.out).trans hnew.out⟩); have cA0 := hcell.out w1 hOb.out.2.1; clear ho1 hB1)
              | (go_simp; go_at_call 17; refine Hcall.out.mono ?_; rintro e w3 ⟨A3, c3, rfl, ho3, hB3⟩; have HF := Lib.hid (And.intro (own_base ho3 HO2.out.2.size) (HO2.out.2.trans (hB3.mono HO2.out.2.size))); clear ho3 hB3))
            all_goals
              go_wp2
              go_ret
              rw [← hTg.out]
              exact givesInts_of (own_base HF.out.1 (Nat.le_refl _)) rfl HF.out.2
    · have h0n : (0 : Int) < (xs.length : Int) := Int.ofNat_lt.2 h0
      clear h0i
      replace h0 := Lib.hid h0
      go_enter Try.func17, Try.ntmps17
      go_wp2_with (go_at_call 32; refine hcan.out.mono ?_; rintro e wc ⟨rfl, hBc⟩)
      go_loopw [7, 8] (fun lv ov wr => ∃ r l : Nat, r + l = 12 ∧ 1 ≤ l ∧ lv = .int .i64 l ∧ Hid (W.fstFrom G r l = T) ∧ Below w.heap.size w wr) (fun lv _ _ => 12 - (intOf lv).toNat)
      case atStart => exact ⟨11, 1, rfl, Nat.le_refl _, rfl, hT, hBc⟩
      case round =>
        clear hBc
        obtain ⟨r, l, hrl, hl1, rfl, hR, hB⟩ := hrel
        generalize wr = wk at *
        replace hB := Lib.hid hB
        have hszk := hB.out.size
        cases r with
        | zero =>
          obtain rfl : l = 12 := by omega
          have hT0 : T = [] := hR.out.symm
          replace hT0 := Lib.hid hT0
          go_wp2
          go_ret
          rw [hT0.out]
          exact givesInts_nil _ _ hB.out
        | succ r =>
          have hl11 : l ≤ 11 := by omega
          have hle : (l : Int) ≤ 11 := by omega
          have hmul : 0 ≤ (l : Int) * y ∧ (l : Int) * y ≤ 1100 := ⟨Int.mul_nonneg (by omega) (by omega), show (l : Int) * y ≤ 11 * 100 from Int.mul_le_mul (by omega) (by omega) (by omega) (by omega)⟩
          have hw : C - (l : Int) * y = IntKind.i64.wrap (C - IntKind.i64.wrap ((l : Int) * y)) := by
            have f1 : IntKind.i64.wrap ((l : Int) * y) = (l : Int) * y := IntWalk.i64_in _ (by omega)
            have f2 : IntKind.i64.wrap (C - (l : Int) * y) = C - (l : Int) * y := IntWalk.i64_in _ (by omega)
            rw [f1, f2]
          replace hw := Lib.hid hw
          have hrec := Lib.hid (fun A2 c2 u => Hrec.out l A2 c2 _ u hl1 hl11 rfl)
          have hrl2 := Lib.hid hrl
          have cA := hcell.out wk.drew hB.out.drew
          have hown1 := Lib.hid (hown.out wk.drew hB.out.drew)
          have hgl := Hlen.out l
          have hBb := Lib.hid (show Below w.heap.size w ((wk.alloc (.cells #[.int .i64 (l : Int)] 3)).drew) from (hB.out.alloc hszk _).drew)
          have cB := hcell.out _ hBb.out
          have hown2 := Lib.hid (hown.out _ hBb.out)
          have hzb : wk.heap.size < ((wk.alloc (.cells #[.int .i64 (l : Int)] 3)).drew).heap.size := by show wk.heap.size < (wk.alloc _).heap.size; simp
          have hnew := Lib.hid (show ((wk.alloc (.cells #[.int .i64 (l : Int)] 3)).drew).cell? ⟨wk.heap.size, 0, none⟩ = some (.int .i64 (l : Int)) by
            show (wk.alloc _).cell? _ = _
            rw [World.cell?_alloc_at _ _ _ _ rfl]
            rfl)
          replace hzb := Lib.hid hzb
          by_cases hg0 : (G l).length = 0
          · have hg0n : ¬ (0 : Int) < ((G l).length : Int) := by omega
            have hR2 := Lib.hid (show W.fstFrom G r (l + 1) = T from by have := hR.out; unfold W.fstFrom at this; rw [if_pos hg0] at this; exact this)
            clear hmul hrl hgl
            generalize G l = gs at *
            go_wp2_with fail
            go_region_law (first
              | (refine step_own_append _ rfl (.tmp 36) (.tmp 38) 22 rfl wk.heap.size 3 i1 (.int .i64 0) 1 8 Try.underlying22 HI.out.1 HI.out.2.1 HI.out.2.2.1 HI.out.2.2.2 rfl (by decide) v1 xs.length (ints xs) (by first | rfl | simp [Act.eval]) hOa.out.1 ⟨w1.heap.size, 0, none⟩ 1 1 [.int .i64 (l : Int)] (by first | rfl | simp [Act.eval]) rfl (fun i u hu => cell_one_new _ _ _ i u hu) (one_cell _) (by unfold maxLen; omega) (by omega) hOa.out.2.2 (fun v2 w2 ho2 hg2 => ?_); obtain ⟨A2, c2, rfl⟩ := own_slice ho2; have HO2 := Lib.hid (And.intro ho2 (hOa.out.2.1.grown hg2 (Nat.le_trans hszk hOa.out.2.2) (fun g hg => Nat.le_trans hszk (hOa.out.1.lt g hg).1))); have HR2 := Lib.hid (show Row w2 w2.heap.size A2 (ints (xs ++ [(l : Int)])) from by rw [ints_snoc]; exact Row.of_own HO2.out.1); have Hcall := Lib.hid (hrec.out A2 c2 w2 HO2.out.2 HR2.out); rw [hw.out] at Hcall; have cA2 := hcell.out w2 HO2.out.2; clear ho2 hg2)
              | (refine step_own_append _ rfl (.tmp 36) (.tmp 38) 22 rfl wk.heap.size 3 i1 (.int .i64 0) 1 8 Try.underlying22 HI.out.1 HI.out.2.1 HI.out.2.2.1 HI.out.2.2.2 rfl (by decide) v1 xs.length (ints xs) (by first | rfl | simp [Act.eval]) hOb.out.1 ⟨wk.heap.size, 0, none⟩ 1 1 [.int .i64 (l : Int)] (by first | rfl | simp [Act.eval]) rfl (fun i u hu => by
                  have hi0 : i = 0 := by
                    have := (List.getElem?_eq_some_iff.1 hu).1
                    simpa using this
                  subst hi0
                  simp at hu
                  subst hu
                  exact hOb.out.2.2.2) (one_cell _) (by unfold maxLen; omega) (by omega) hOb.out.2.2.1 (fun v2 w2 ho2 hg2 => ?_); obtain ⟨A2, c2, rfl⟩ := own_slice ho2; have HO2 := Lib.hid (And.intro ho2 (hOb.out.2.1.grown hg2 (Nat.le_trans hszk hOb.out.2.2.1) (fun g hg => Nat.le_trans hszk (hOb.out.1.lt g hg).1))); have HR2 := Lib.hid (show Row w2 w2.heap.size A2 (ints (xs ++ [(l : Int)])) from by rw [ints_snoc]; exact Row.of_own HO2.out.1); have Hcall := Lib.hid (hrec.out A2 c2 w2 HO2.out.2 HR2.out); rw [hw.out] at Hcall; have cA2 := hcell.out w2 HO2.out.2; clear ho2 hg2)
              | (go_simp; go_at_call 33; refine hown1.out.mono ?_; rintro e w1 ⟨v1, rfl, ho1, hB1⟩; have hOa := Lib.hid (show (w1.alloc (.cells #[.int .i64 (l : Int)] 3)).ownsRow wk.heap.size 3 1 v1 xs.length (ints xs) ∧ Below w.heap.size w (w1.alloc (.cells #[.int .i64 (l : Int)] 3)) ∧ wk.heap.size ≤ (w1.alloc (.cells #[.int .i64 (l : Int)] 3)).heap.size from ⟨ho1.alloc _, (hB.out.drew.trans (hB1.mono hszk)).alloc (Nat.le_trans hszk hB1.size) _, by have := hB1.size; simp; exact Nat.le_succ_of_le this⟩); have cA0 := hcell.out w1 (hB.out.drew.trans (hB1.mono hszk)); have cA1 := hcell.out _ hOa.out.2.1; clear ho1 hB1)
              | (go_simp; go_at_call 33; refine hown2.out.mono ?_; rintro e w1 ⟨v1, rfl, ho1, hB1⟩; have hOb := Lib.hid (show w1.ownsRow wk.heap.size 3 1 v1 xs.length (ints xs) ∧ Below w.heap.size w w1 ∧ wk.heap.size ≤ w1.heap.size ∧ w1.cell? ⟨wk.heap.size, 0, none⟩ = some (.int .i64 (l : Int)) from ⟨own_base ho1 (Nat.le_of_lt hzb.out), hBb.out.trans (hB1.mono hBb.out.size), Nat.le_trans (Nat.le_of_lt hzb.out) hB1.size, (hB1.cell (p := ⟨wk.heap.size, 0, none⟩) hzb.out).trans hnew.out⟩); have cA0 := hcell.out w1 hOb.out.2.1; clear ho1 hB1)
              | (go_simp; go_at_call 17; refine Hcall.out.mono ?_; rintro e w3 ⟨A3, c3, rfl, ho3, hB3⟩; have HF := Lib.hid (And.intro (own_base ho3 HO2.out.2.size) (HO2.out.2.trans (hB3.mono HO2.out.2.size))); clear ho3 hB3))
            all_goals
              go_wp2
              go_roundw
              case rel => exact ⟨r, l + 1, by have := hrl2.out; omega, by omega, by go_num, hR2, HF.out.2⟩
              case measure => simp [intOf]; omega
          · have hg0p : (0 : Int) < ((G l).length : Int) := by omega
            have hTg := Lib.hid (show G l = T from by have := hR.out; unfold W.fstFrom at this; rw [if_neg hg0] at this; exact this)
            clear hmul hrl hgl
            generalize G l = gs at *
            go_wp2_with fail
            go_region_law (first
              | (refine step_own_append _ rfl (.tmp 36) (.tmp 38) 22 rfl wk.heap.size 3 i1 (.int .i64 0) 1 8 Try.underlying22 HI.out.1 HI.out.2.1 HI.out.2.2.1 HI.out.2.2.2 rfl (by decide) v1 xs.length (ints xs) (by first | rfl | simp [Act.eval]) hOa.out.1 ⟨w1.heap.size, 0, none⟩ 1 1 [.int .i64 (l : Int)] (by first | rfl | simp [Act.eval]) rfl (fun i u hu => cell_one_new _ _ _ i u hu) (one_cell _) (by unfold maxLen; omega) (by omega) hOa.out.2.2 (fun v2 w2 ho2 hg2 => ?_); obtain ⟨A2, c2, rfl⟩ := own_slice ho2; have HO2 := Lib.hid (And.intro ho2 (hOa.out.2.1.grown hg2 (Nat.le_trans hszk hOa.out.2.2) (fun g hg => Nat.le_trans hszk (hOa.out.1.lt g hg).1))); have HR2 := Lib.hid (show Row w2 w2.heap.size A2 (ints (xs ++ [(l : Int)])) from by rw [ints_snoc]; exact Row.of_own HO2.out.1); have Hcall := Lib.hid (hrec.out A2 c2 w2 HO2.out.2 HR2.out); rw [hw.out] at Hcall; have cA2 := hcell.out w2 HO2.out.2; clear ho2 hg2)
              | (refine step_own_append _ rfl (.tmp 36) (.tmp 38) 22 rfl wk.heap.size 3 i1 (.int .i64 0) 1 8 Try.underlying22 HI.out.1 HI.out.2.1 HI.out.2.2.1 HI.out.2.2.2 rfl (by decide) v1 xs.length (ints xs) (by first | rfl | simp [Act.eval]) hOb.out.1 ⟨wk.heap.size, 0, none⟩ 1 1 [.int .i64 (l : Int)] (by first | rfl | simp [Act.eval]) rfl (fun i u hu => by
                  have hi0 : i = 0 := by
                    have := (List.getElem?_eq_some_iff.1 hu).1
                    simpa using this
                  subst hi0
                  simp at hu
                  subst hu
                  exact hOb.out.2.2.2) (one_cell _) (by unfold maxLen; omega) (by omega) hOb.out.2.2.1 (fun v2 w2 ho2 hg2 => ?_); obtain ⟨A2, c2, rfl⟩ := own_slice ho2; have HO2 := Lib.hid (And.intro ho2 (hOb.out.2.1.grown hg2 (Nat.le_trans hszk hOb.out.2.2.1) (fun g hg => Nat.le_trans hszk (hOb.out.1.lt g hg).1))); have HR2 := Lib.hid (show Row w2 w2.heap.size A2 (ints (xs ++ [(l : Int)])) from by rw [ints_snoc]; exact Row.of_own HO2.out.1); have Hcall := Lib.hid (hrec.out A2 c2 w2 HO2.out.2 HR2.out); rw [hw.out] at Hcall; have cA2 := hcell.out w2 HO2.out.2; clear ho2 hg2)
              | (go_simp; go_at_call 33; refine hown1.out.mono ?_; rintro e w1 ⟨v1, rfl, ho1, hB1⟩; have hOa := Lib.hid (show (w1.alloc (.cells #[.int .i64 (l : Int)] 3)).ownsRow wk.heap.size 3 1 v1 xs.length (ints xs) ∧ Below w.heap.size w (w1.alloc (.cells #[.int .i64 (l : Int)] 3)) ∧ wk.heap.size ≤ (w1.alloc (.cells #[.int .i64 (l : Int)] 3)).heap.size from ⟨ho1.alloc _, (hB.out.drew.trans (hB1.mono hszk)).alloc (Nat.le_trans hszk hB1.size) _, by have := hB1.size; simp; exact Nat.le_succ_of_le this⟩); have cA0 := hcell.out w1 (hB.out.drew.trans (hB1.mono hszk)); have cA1 := hcell.out _ hOa.out.2.1; clear ho1 hB1)
              | (go_simp; go_at_call 33; refine hown2.out.mono ?_; rintro e w1 ⟨v1, rfl, ho1, hB1⟩; have hOb := Lib.hid (show w1.ownsRow wk.heap.size 3 1 v1 xs.length (ints xs) ∧ Below w.heap.size w w1 ∧ wk.heap.size ≤ w1.heap.size ∧ w1.cell? ⟨wk.heap.size, 0, none⟩ = some (.int .i64 (l : Int)) from ⟨own_base ho1 (Nat.le_of_lt hzb.out), hBb.out.trans (hB1.mono hBb.out.size), Nat.le_trans (Nat.le_of_lt hzb.out) hB1.size, (hB1.cell (p := ⟨wk.heap.size, 0, none⟩) hzb.out).trans hnew.out⟩); have cA0 := hcell.out w1 hOb.out.2.1; clear ho1 hB1)
              | (go_simp; go_at_call 17; refine Hcall.out.mono ?_; rintro e w3 ⟨A3, c3, rfl, ho3, hB3⟩; have HF := Lib.hid (And.intro (own_base ho3 HO2.out.2.size) (HO2.out.2.trans (hB3.mono HO2.out.2.size))); clear ho3 hB3))
            all_goals
              go_wp2
              go_ret
              rw [← hTg.out]
              exact givesInts_of (own_base HF.out.1 (Nat.le_refl _)) rfl HF.out.2
theorem spec_fo {z : List Int} (hz : W.beN 100 z = true) (hz6 : z.length ≤ 6) : ∀ f, FoAt z f
  | 0 => spec_fo0 (W.beN_parts hz).1.1 hz6
  | f + 1 => spec_foS hz hz6 (spec_fo hz hz6 f)
end Go.Proofs.Ythkkneboblhmlaa
