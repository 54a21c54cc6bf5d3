/-
  WHAT THIS FILE PROVES: the levels of a set: the specification's functions give the plain ones; asked: a slice of texts in memory, lengths that an int holds.
-/
import Derived.Test.YtojcnalgjeojdaaDoorLev
import Derived.Test.YtojcnalgjeojdaaDoorInnS
import Derived.Test.YtojcnalgjeojdaaDoorSSI
import Derived.Test.YtojcnalgjeojdaaDoorStep
namespace Go.Proofs.YtojcnalgjeojdaaDoor
open Go.RowKit Go.Shelf

theorem lvOf_bd (ss : List ByteArray) : offI (lvOf ss) (lvOf ss).length ≤ 549755813888 ∧ ∀ x ∈ lvOf ss, x.length ≤ 549755813888 := by
  have h1 := lvOf_row ss
  have h2 := offI_bd _ 2 (fun x hx => by rw [h1 x hx]; omega) _ (Nat.le_refl _)
  have h3 := lvOf_len ss
  exact ⟨by omega, fun x hx => by have := h1 x hx; omega⟩
theorem spec_l1Most (a b : Nat) (w : World) :
    Calls Tryd.prog 55 #[.int .i64 a, .int .i64 b] w fun e w' => e = .returned (.int .i64 ((max a b : Nat) : Int)) ∧ w = w' := by
  by_cases h : b < a
  · have h' : (b : Int) < (a : Int) := by omega
    rw [Nat.max_eq_left (by omega)]
    go_enter Tryd.func55, Tryd.ntmps55
    go_wp2
    go_ret
    exact ⟨rfl, rfl⟩
  · have h' : ¬ (b : Int) < (a : Int) := by omega
    rw [Nat.max_eq_right (by omega)]
    go_enter Tryd.func55, Tryd.ntmps55
    go_wp2
    go_ret
    exact ⟨rfl, rfl⟩
set_option maxHeartbeats 6400000 in
set_option maxRecDepth 100000 in
theorem spec_LevelsOf (A : Option Addr) (ss : List ByteArray) (c : Nat) (w : World) (h : Row w w.heap.size A (strs ss)) (hl : ss.length ≤ 9223372036854775807) (hs : ∀ s ∈ ss, s.size ≤ 9223372036854775807) :
    Calls Tryd.prog 22 #[.slice A ss.length c] w (OkSS 38 3 w (intss (lvOf ss)) (W.isSet ss)) := by
  have hc := spec_wdSet A ss c w h hl hs
  cases hq : W.isSet ss
  · rw [hq] at hc
    rw [lvOf_no hq]
    replace hc := Lib.hid hc
    clear h hs hq
    go_enter Tryd.func22, Tryd.ntmps22
    go_wp2_with (go_at_call 32; refine hc.out.mono ?_; rintro e w1 ⟨rfl, rfl⟩)
    go_ret2
    exact okSS_nil _ _ _ _ _ (Below.refl _ _)
  · rw [hq] at hc
    rw [lvOf_yes hq]
    replace hc := Lib.hid hc
    have h12 := W.isSet_len ss hq
    have H8 := Lib.hid (short_le hq)
    have hmx8 := mxTo_le (short_le hq) ss.length (Nat.le_refl _)
    have hin := Lib.hid (spec_pfInner A ss c w h hq)
    have hil := inB_len hq
    have hi8 := Lib.hid (inB_size hq)
    have hmo := Lib.hid (fun a b => spec_l1Most a b w)
    have Hrow := Lib.hid h
    obtain ⟨i0, hi, hz0, hz1, hz2⟩ := info_parts infoRows
    have HR := Lib.hid (And.intro hi (And.intro hz0 (And.intro hz1 hz2)))
    clear h hs hq hi hz0 hz1 hz2
    go_enter Tryd.func22, Tryd.ntmps22
    go_wp2_with fail
    refine hc.out.mono ?_
    rintro e w' ⟨rfl, rfl⟩
    go_wp2_with fail
    go_loop [4, 21] (fun m i => ∃ k : Nat, k ≤ ss.length ∧ i = .int .i64 k ∧ m = .int .i64 (mxTo ss k : Int)) (fun _ i => ss.length - (intOf i).toNat)
    case atStart => exact ⟨0, Nat.zero_le _, rfl, rfl⟩
    case round =>
      obtain ⟨k, hk, rfl, rfl⟩ := hrel
      by_cases hlt : k < ss.length
      · obtain ⟨b, off, rfl, hb, hcc⟩ := Hrow.out (by rw [strs_length]; omega)
        have hlt' : (k : Int) < (ss.length : Int) := by omega
        have c1 := hcc k _ (strs_nth ss k hlt)
        clear hcc
        have Hs := Lib.hid (mxTo_succ ss k hlt)
        generalize mxTo ss k = m at Hs ⊢
        generalize W.nth ss k = s at c1 Hs
        have hm1 := Lib.hid (hmo.out m s.size)
        go_wp2_with fail
        refine hm1.out.mono ?_
        rintro e w' ⟨rfl, rfl⟩
        go_wp2_with fail
        go_round
        case rel => exact ⟨k + 1, by omega, by go_num, by rw [Hs.out]⟩
        case measure => simp [intOf]; omega
      · obtain rfl : k = ss.length := by omega
        generalize hmx : mxTo ss ss.length = mx at hmx8 ⊢
        have Hmx := Lib.hid hmx
        clear hmx
        go_wp2_with fail
        refine hin.out.mono ?_
        rintro e w1 ⟨A1, c1, rfl, ho1, hB1⟩
        have hR1 := Lib.hid (Row.of_own ho1)
        clear ho1
        go_wp2_with fail
        go_loopw [8, 9] (fun v i wr => ∃ (k : Nat) (vs : List Value), k ≤ mx + 1 ∧ i = .int .i64 k ∧ OwnAt wr w1.heap.size 38 3 v vs (intss (lvTo ss k)) ∧ Below w1.heap.size w1 wr) (fun _ i _ => (mx + 1) - (intOf i).toNat)
        case atStart => exact ⟨0, [], Nat.zero_le _, rfl, ownAt_nil _ _ _ _, Below.refl _ _⟩
        case round =>
          obtain ⟨j, vs, hj, rfl, hV, hB5⟩ := hrel
          generalize wr = wk at *
          obtain ⟨Av, cv, rfl⟩ := own_slice hV.own
          have hlT : (intss (lvTo ss j)).length = j := by rw [intss_length, lvTo_len]
          rw [hlT] at hV ⊢
          have hO := Lib.hid (And.intro hV hB5)
          have hszi := hB5.size
          replace hlT := Lib.hid hlT
          clear hV hB5
          by_cases hlj : j < mx + 1
          · have hlj' : (j : Int) ≤ (mx : Int) := by omega
            have Hs := Lib.hid (lvTo_succ ss j)
            have Hr := Lib.hid (show lvRow ss j = [(cntL ss j : Int), (cntL (inB ss) j : Int)] from rfl)
            go_wp2_with fail
            go_loop [10, 39] (fun x i => ∃ n : Nat, n ≤ ss.length ∧ i = .int .i64 n ∧ x = .int .i64 (cntL (ss.take n) j : Int)) (fun _ i => ss.length - (intOf i).toNat)
            case atStart => exact ⟨0, Nat.zero_le _, rfl, rfl⟩
            case round =>
              obtain ⟨n, hn, rfl, rfl⟩ := hrel
              by_cases hln : n < ss.length
              · obtain ⟨b, off, rfl, hb, hcc⟩ := Hrow.out (by rw [strs_length]; omega)
                have hln' : (n : Int) < (ss.length : Int) := by omega
                have c2 := (hO.out.2.cell (p := ⟨b, off + n, none⟩) (Nat.lt_of_lt_of_le hb hB1.size)).trans ((hB1.cell (p := ⟨b, off + n, none⟩) hb).trans (hcc n _ (strs_nth ss n hln)))
                clear hcc
                have Hc := Lib.hid (cntL_succ ss n j hln)
                have hcl := cntL_le (ss.take n) j
                rw [List.length_take] at hcl
                generalize cntL (ss.take n) j = x at Hc hcl ⊢
                generalize W.nth ss n = s at c2 Hc
                by_cases he : s.size = j
                · have he' : ((s.size : Int) == (j : Int)) = true := by rw [he]; exact beq_self_eq_true _
                  have Hc2 := Lib.hid (show cntL (ss.take (n + 1)) j = x + 1 by rw [Hc.out, if_pos he])
                  clear he Hc
                  go_wp2
                  go_round
                  case rel => exact ⟨n + 1, by omega, by go_num, by rw [Hc2.out]; go_num⟩
                  case measure => simp [intOf]; omega
                · have he' : ((s.size : Int) == (j : Int)) = false := beq_eq_false_iff_ne.2 (by omega)
                  have Hc2 := Lib.hid (show cntL (ss.take (n + 1)) j = x by rw [Hc.out, if_neg he]; rfl)
                  clear he Hc
                  go_wp2
                  go_round
                  case rel => exact ⟨n + 1, by omega, by go_num, by rw [Hc2.out]⟩
                  case measure => simp [intOf]; omega
              · obtain rfl : n = ss.length := by omega
                rw [List.take_length]
                generalize cntL ss j = x at Hr ⊢
                go_wp2_with fail
                go_loop [11, 52] (fun y i => ∃ n : Nat, n ≤ (inB ss).length ∧ i = .int .i64 n ∧ y = .int .i64 (cntL ((inB ss).take n) j : Int)) (fun _ i => (inB ss).length - (intOf i).toNat)
                case atStart => exact ⟨0, Nat.zero_le _, rfl, rfl⟩
                case round =>
                  obtain ⟨n, hn, rfl, rfl⟩ := hrel
                  by_cases hln : n < (inB ss).length
                  · obtain ⟨b, off, rfl, hb, hcc⟩ := hR1.out (by rw [strs_length]; omega)
                    have hln' : (n : Int) < ((inB ss).length : Int) := by omega
                    have c2 := (hO.out.2.cell (p := ⟨b, off + n, none⟩) hb).trans (hcc n _ (strs_nth (inB ss) n hln))
                    clear hcc
                    have Hc := Lib.hid (cntL_succ (inB ss) n j hln)
                    have hcl := cntL_le ((inB ss).take n) j
                    rw [List.length_take] at hcl
                    generalize cntL ((inB ss).take n) j = z at Hc hcl ⊢
                    generalize W.nth (inB ss) n = s at c2 Hc
                    by_cases he : s.size = j
                    · have he' : ((s.size : Int) == (j : Int)) = true := by rw [he]; exact beq_self_eq_true _
                      have Hc2 := Lib.hid (show cntL ((inB ss).take (n + 1)) j = z + 1 by rw [Hc.out, if_pos he])
                      clear he Hc
                      go_wp2
                      go_round
                      case rel => exact ⟨n + 1, by omega, by go_num, by rw [Hc2.out]; go_num⟩
                      case measure => simp [intOf]; omega
                    · have he' : ((s.size : Int) == (j : Int)) = false := beq_eq_false_iff_ne.2 (by omega)
                      have Hc2 := Lib.hid (show cntL ((inB ss).take (n + 1)) j = z by rw [Hc.out, if_neg he]; rfl)
                      clear he Hc
                      go_wp2
                      go_round
                      case rel => exact ⟨n + 1, by omega, by go_num, by rw [Hc2.out]⟩
                      case measure => simp [intOf]; omega
                  · obtain rfl : n = (inB ss).length := by omega
                    rw [List.take_length]
                    generalize cntL (inB ss) j = y at Hr ⊢
                    have hV0 : (((wk.alloc (.cells #[.int .i64 (x : Int), .int .i64 (y : Int)] 3)).alloc (.cells #[.slice (some ⟨wk.heap.size, 0, none⟩) 2 2] 38))).ownsRow w1.heap.size 38 1 (.slice Av j cv) j vs := by
                      have := hO.out.1.own
                      rw [hlT.out] at this
                      exact (this.alloc _).alloc _
                    have hV0 := Lib.hid hV0
                    have hc0 : (((wk.alloc (.cells #[.int .i64 (x : Int), .int .i64 (y : Int)] 3)).alloc (.cells #[.slice (some ⟨wk.heap.size, 0, none⟩) 2 2] 38))).cell? ⟨wk.heap.size + 1, 0, none⟩ = some (.slice (some ⟨wk.heap.size, 0, none⟩) 2 2) := by
                      rw [World.cell?_alloc_at _ _ _ _ (by simp)]
                      rfl
                    have hc0 := Lib.hid hc0
                    go_wp2_with (at_builtin; refine wpList_append_own _ rfl _ _ 33 rfl w1.heap.size 38 i0 (.slice none 0 0) 1 24 Tryd.underlying33 HR.out.1 HR.out.2.1 HR.out.2.2.1 HR.out.2.2.2 rfl (by decide) (.slice Av j cv) j vs rfl hV0.out ⟨wk.heap.size + 1, 0, none⟩ 1 1 [.slice (some ⟨wk.heap.size, 0, none⟩) 2 2] rfl rfl (fun i u hu => by
                      have hi0 : i = 0 := by
                        have := (List.getElem?_eq_some_iff.1 hu).1
                        simpa using this
                      subst hi0
                      simp at hu
                      subst hu
                      exact hc0.out) (one_row _ _ _) (by unfold maxLen; omega) (by omega) (by simp; omega) ?_)
                    intro v1 w6 ho1 hg1 _
                    have hBW : Below wk.heap.size wk ((wk.alloc (.cells #[.int .i64 (x : Int), .int .i64 (y : Int)] 3)).alloc (.cells #[.slice (some ⟨wk.heap.size, 0, none⟩) 2 2] 38)) := (((Below.refl _ _).alloc (Nat.le_refl _) _).alloc (by simp) _)
                    have hx1 : (wk.alloc (.cells #[.int .i64 (x : Int), .int .i64 (y : Int)] 3)).ownsRow w1.heap.size 3 1 (.slice (some ⟨wk.heap.size, 0, none⟩) 2 2) 2 (ints [(x : Int), (y : Int)]) := by
                      have := World.ownsRow_lit (base := w1.heap.size) (e := 3) (size := 1) wk #[.int .i64 (x : Int), .int .i64 (y : Int)] 2 (by omega) (by unfold maxLen; omega) (by simp)
                      simpa [ints] using this
                    have hx2 : (((wk.alloc (.cells #[.int .i64 (x : Int), .int .i64 (y : Int)] 3)).alloc (.cells #[.slice (some ⟨wk.heap.size, 0, none⟩) 2 2] 38))).ownsRow w1.heap.size 3 1 (.slice (some ⟨wk.heap.size, 0, none⟩) 2 2) 2 (ints [(x : Int), (y : Int)]) := hx1.alloc _
                    have hVW := hO.out.1.below hBW
                    have hsep : ∀ u ∈ vs, u.ownBlock = none ∨ u.ownBlock ≠ (Value.slice (some ⟨wk.heap.size, 0, none⟩) 2 2).ownBlock := fun u hu => by
                      cases hb2 : u.ownBlock with
                      | none => exact .inl rfl
                      | some g =>
                        right
                        intro e2
                        have h1 := (hO.out.1.lt u hu g hb2).2
                        have h2 : some g = some wk.heap.size := e2
                        injection h2 with h2
                        omega
                    have hlt0 := hV0.out.lt
                    have hP := OwnAt.push (by decide) hVW (v' := v1) (xs := ints [(x : Int), (y : Int)]) (A := some ⟨wk.heap.size, 0, none⟩) (c := 2) hx2 hsep (by rw [hlT.out]; exact ho1) hg1
                    have hB6 : Below w1.heap.size w1 w6 := (hO.out.2.trans (hBW.mono hszi)).grown hg1 (by have := hBW.size; omega) (fun g hg => (hlt0 g hg).1)
                    have HF := Lib.hid (And.intro hP hB6)
                    clear hP hB6 hVW hsep hx1 hx2 hBW ho1 hg1 hlt0
                    go_wp2
                    go_roundw
                    case rel =>
                      refine ⟨j + 1, vs ++ [.slice (some ⟨wk.heap.size, 0, none⟩) 2 2], by omega, by go_num, ?_, HF.out.2⟩
                      rw [Hs.out, Hr.out, intss_snoc]
                      exact HF.out.1
                    case measure => simp [intOf]; omega
          · obtain rfl : j = mx + 1 := by omega
            have hgt : ¬ (((mx + 1 : Nat) : Int) ≤ (mx : Int)) := by omega
            go_wp2
            go_ret2
            rw [Hmx.out]
            exact okSS_of (base := w.heap.size) ⟨vs, hO.out.1.lower hB1.size⟩ rfl (hB1.trans (hO.out.2.mono hB1.size))
end Go.Proofs.YtojcnalgjeojdaaDoor
