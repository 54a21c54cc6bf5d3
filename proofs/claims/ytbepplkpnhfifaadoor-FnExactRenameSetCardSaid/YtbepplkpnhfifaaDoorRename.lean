/-
  WHAT THIS FILE PROVES: a set with other letters by the specification's function: it hands back a slice of its own that reads as told; asked: rows that lie in memory, lengths that an int holds.
-/
import Derived.Test.YtbepplkpnhfifaaDoorNames
namespace Go.Proofs.YtbepplkpnhfifaaDoor
open Go.RowKit Go.Shelf

set_option maxHeartbeats 6400000 in
theorem spec_RenameSet (A : Option Addr) (ss : List ByteArray) (c : Nat) (A' : Option Addr) (zs : List Int) (c' : Nat) (w : World) (h : Row w w.heap.size A (strs ss)) (hl : ss.length ≤ 9223372036854775807) (hs : ∀ s ∈ ss, s.size ≤ 9223372036854775807)
    (h' : Row w w.heap.size A' (ints zs)) (hcap' : zs.length ≤ c') (_hl' : zs.length ≤ 9223372036854775807) :
    Calls Tryd.prog 21 #[.slice A ss.length c, .slice A' zs.length c'] w (OkStrs w (reOf ss zs) (reOk ss zs)) := by
  have hc := spec_wdSet A ss c w h hl hs
  cases hq : W.isSet ss
  · have hno : reOk ss zs = false := by unfold reOk; rw [hq]; rfl
    rw [hno, reOf_no hno]
    rw [hq] at hc
    replace hc := Lib.hid hc
    clear hno hq h hs h'
    go_enter Tryd.func21, Tryd.ntmps21
    go_wp2_with (go_at_call 33; refine hc.out.mono ?_; rintro e w' ⟨rfl, rfl⟩)
    go_ret2
    exact okStrs_nil _ _ _ (Below.refl _ _)
  · rw [hq] at hc
    replace hc := Lib.hid hc
    by_cases h3 : zs.length = 3
    · have hca := spec_l1All A' zs c' w h' (by omega)
      cases ha : zs.all inB
      · have hno : reOk ss zs = false := by unfold reOk; rw [nm_no ha]; simp
        rw [hno, reOf_no hno]
        rw [ha, h3] at hca
        replace hca := Lib.hid hca
        rw [h3]
        clear hno hq h hs h' ha h3 hcap'
        go_enter Tryd.func21, Tryd.ntmps21
        go_wp2_with fail
        refine hc.out.mono ?_
        rintro e w' ⟨rfl, rfl⟩
        go_wp2_with fail
        refine hca.out.mono ?_
        rintro e w' ⟨rfl, rfl⟩
        go_wp2
        go_ret2
        exact okStrs_nil _ _ _ (Below.refl _ _)
      · rw [ha, h3] at hca
        replace hca := Lib.hid hca
        obtain ⟨b', off', rfl, hb', hcn⟩ := Row.ints_at h' (by omega)
        have Hdup := Lib.hid (fun k hk hh => nm_dup h3 ha k hk hh)
        have Hall := Lib.hid (nm_all h3 ha)
        have hhas := fun n (hn : n ≤ zs.length) x => spec_l1Has (some ⟨b', off', none⟩) zs n c' x w hn h' (by omega)
        have h12 := W.isSet_len ss hq
        have Hsh := Lib.hid (fun k hk => W.isSet_short ss hq k hk)
        have Hno := Lib.hid (show nmOk zs = false → reOk ss zs = false ∧ reOf ss zs = [] from fun e => by
          have hno : reOk ss zs = false := by unfold reOk; rw [e]; simp
          exact ⟨hno, reOf_no hno⟩)
        have Hyes := Lib.hid (show nmOk zs = true → reOk ss zs = true ∧ reOf ss zs = ordB (rns zs ss) from fun e => by
          have hok : reOk ss zs = true := by unfold reOk; rw [hq, e]; rfl
          exact ⟨hok, reOf_yes hok⟩)
        have Hin := Lib.hid (show ∀ k, k < 3 → 0 ≤ zs.getD k 0 ∧ zs.getD k 0 ≤ 2 from fun k hk => by
          have := List.all_eq_true.1 ha (zs[k]'(by omega)) (List.getElem_mem _)
          rw [List.getD_eq_getElem?_getD, List.getElem?_eq_getElem (by omega)]
          exact of_decide_eq_true this)
        have Hcn := Lib.hid (show ∀ k, k < 3 → w.cell? ⟨b', off' + k, none⟩ = some (.int .i64 (zs.getD k 0)) from fun k hk => by
          rw [List.getD_eq_getElem?_getD, List.getElem?_eq_getElem (by omega)]
          exact hcn k (by omega))
        have Hhas := Lib.hid (show ∀ n, n ≤ 3 → ∀ x, Calls Tryd.prog 43 #[.slice (some ⟨b', off', none⟩) n c', .int .i64 x] w fun e w' => e = .returned (.bool ((zs.take n).contains x)) ∧ w = w' from fun n hn x => hhas n (by omega) x)
        have hcap3 := Lib.hid (show True from trivial)
        rw [h3]
        have hc3 : 3 ≤ c' := by omega
        replace h := Lib.hid h
        clear hcap' hq hs h' ha h3 hcn hhas
        go_enter Tryd.func21, Tryd.ntmps21
        go_wp2_with fail
        refine hc.out.mono ?_
        rintro e w' ⟨rfl, rfl⟩
        go_wp2_with fail
        refine hca.out.mono ?_
        rintro e w' ⟨rfl, rfl⟩
        go_wp2_with fail
        go_loop [29] (fun i => ∃ k : Nat, k ≤ 3 ∧ i = .int .i64 k ∧ Hid (∀ j, j < k → (zs.take j).contains (zs.getD j 0) = false)) (fun i => 3 - (intOf i).toNat)
        case atStart => exact ⟨0, Nat.zero_le _, rfl, fun j hj => absurd hj (Nat.not_lt_zero _)⟩
        case round =>
          obtain ⟨k, hk, rfl, hok⟩ := hrel
          by_cases hlt : k < 3
          · have hlt' : (k : Int) < 3 := by omega
            have c1 := Hcn.out k hlt
            have hcall := Hhas.out k (by omega) (zs.getD k 0)
            have H1 := Lib.hid (Hdup.out k hlt)
            have H2 := Lib.hid (show (zs.take k).contains (zs.getD k 0) = false → ∀ j, j < k + 1 → (zs.take j).contains (zs.getD j 0) = false from fun e j hj => by
              rcases Nat.lt_succ_iff_lt_or_eq.1 hj with hh | hh
              · exact hok.out j hh
              · rw [hh]; exact e)
            generalize zs.getD k 0 = v at c1 hcall H1 H2
            cases hd : (zs.take k).contains v
            · rw [hd] at hcall
              have H3 : Hid (∀ j, j < k + 1 → (zs.take j).contains (zs.getD j 0) = false) := H2.out hd
              replace hcall := Lib.hid hcall
              clear hd H1 H2
              go_wp2_with (go_at_call 43; refine hcall.out.mono ?_; rintro e w' ⟨rfl, rfl⟩)
              go_round
              case rel => exact ⟨k + 1, by omega, by go_num, H3⟩
              case measure => simp [intOf]; omega
            · rw [hd] at hcall
              have H3 := Lib.hid (Hno.out (H1.out hd))
              replace hcall := Lib.hid hcall
              clear hd H1 H2
              go_wp2_with (go_at_call 43; refine hcall.out.mono ?_; rintro e w' ⟨rfl, rfl⟩)
              go_ret2
              rw [H3.out.1, H3.out.2]
              exact okStrs_nil _ _ _ (Below.refl _ _)
          · have hke : k = 3 := by omega
            subst hke
            obtain ⟨e1, e2⟩ := Hyes.out (Hall.out hok.out)
            have HE := Lib.hid (And.intro e1 e2)
            clear e1 e2 hok
            go_wp2_with fail
            go_loopw [8, 42] (fun v i wr => ∃ k : Nat, k ≤ ss.length ∧ i = .int .i64 k ∧ wr.ownsRow w.heap.size 9 1 v (ordB (rns zs (ss.take k))).length (strs (ordB (rns zs (ss.take k)))) ∧ Below w.heap.size w wr)
              (fun _ i _ => ss.length - (intOf i).toNat)
            case atStart => exact ⟨0, Nat.zero_le _, rfl, World.ownsRow_nil _ _ _ _, Below.refl _ _⟩
            case round =>
              obtain ⟨k, hk, rfl, ho, hB⟩ := hrel
              obtain ⟨Ar, cr, rfl⟩ := own_slice ho
              have hO := Lib.hid (And.intro ho hB)
              clear ho hB
              by_cases hlt : k < ss.length
              · obtain ⟨b, off, rfl, hb, hcc⟩ := h.out (by rw [strs_length]; omega)
                have hlt' : (k : Int) < (ss.length : Int) := by omega
                have c1 := (hO.out.2.cell (p := ⟨b, off + k, none⟩) hb).trans (hcc k _ (strs_nth ss k hlt))
                clear hcc
                have Hs := Lib.hid (show ordB (rns zs (ss.take (k + 1))) = putB (ordB (rns zs (ss.take k))) (rnB zs (W.nth ss k)) by rw [rns_succ zs ss k hlt, ord_snoc])
                have hn := ord_length (rns zs (ss.take k))
                rw [rns_length, List.length_take] at hn
                have hput := Lib.hid (spec_wdPut w.heap.size Ar (ordB (rns zs (ss.take k))) cr (rnB zs (W.nth ss k)) wr hO.out.1 hO.out.2.size (by omega))
                have Hw := Lib.hid (Hsh.out k hlt)
                generalize W.nth ss k = x at c1 hput Hw Hs
                generalize ordB (rns zs (ss.take k)) = acc at hO Hs hput
                have c0 := (hO.out.2.cell (p := ⟨b', off' + 0, none⟩) hb').trans (Hcn.out 0 (by omega))
                have c2 := (hO.out.2.cell (p := ⟨b', off' + 1, none⟩) hb').trans (Hcn.out 1 (by omega))
                have c3 := (hO.out.2.cell (p := ⟨b', off' + 2, none⟩) hb').trans (Hcn.out 2 (by omega))
                rw [Nat.add_zero] at c0
                have i0 := Hin.out 0 (by omega)
                have i1 := Hin.out 1 (by omega)
                have i2 := Hin.out 2 (by omega)
                have Hsz := Lib.hid (W.short_size x Hw.out)
                have Hrz := Lib.hid (rnTo_size zs x)
                have Hr0 := Lib.hid (rnTo_zero zs x)
                have Hra := Lib.hid (rnTo_all zs x)
                have Hrs := Lib.hid (fun k hk j hj e => rnTo_succ zs x k hk j hj e)
                have Hlt := Lib.hid (fun k hk => short_letter Hw.out k hk)
                go_wp2_with fail
                go_loop [11, 12] (fun t i => ∃ j : Nat, j ≤ x.size ∧ i = .int .i64 j ∧ t = .string (rnTo zs x j)) (fun _ i => x.size - (intOf i).toNat)
                case atStart => exact ⟨0, Nat.zero_le _, rfl, by rw [Hr0.out]⟩
                case round =>
                  obtain ⟨j, hj, rfl, rfl⟩ := hrel
                  have hx8 := Hsz.out.2
                  by_cases hlj : j < x.size
                  · have hlj' : (j : Int) < (x.size : Int) := by omega
                    have hz := Hrz.out j hj
                    have hlet := Hlt.out j hlj
                    have Hstep := Lib.hid (fun q hq e => Hrs.out j hlj q hq e)
                    generalize hnn : x[j].toNat = nn at hlet Hstep
                    rcases (by omega : nn = 97 ∨ nn = 98 ∨ nn = 99) with rfl | rfl | rfl
                    · have Hst : ∀ q : Nat, q ≤ 2 → zs.getD 0 0 = (q : Int) → rnTo zs x (j + 1) = rnTo zs x j ++ (⟨#[97, 98, 99]⟩ : ByteArray).extract q (q + 1) := Hstep.out
                      clear Hstep
                      generalize zs.getD 0 0 = v at c0 Hst i0
                      rcases (by omega : v = 0 ∨ v = 1 ∨ v = 2) with rfl | rfl | rfl
                      · have Hq := Lib.hid (Hst 0 (by omega) rfl)
                        clear Hst
                        generalize rnTo zs x j = y at Hq hz
                        go_wp2
                        go_round
                        case rel => exact ⟨j + 1, by omega, by go_num, by rw [Hq.out]⟩
                        case measure => simp [intOf]; omega
                      · have Hq := Lib.hid (Hst 1 (by omega) rfl)
                        clear Hst
                        generalize rnTo zs x j = y at Hq hz
                        go_wp2
                        go_round
                        case rel => exact ⟨j + 1, by omega, by go_num, by rw [Hq.out]⟩
                        case measure => simp [intOf]; omega
                      · have Hq := Lib.hid (Hst 2 (by omega) rfl)
                        clear Hst
                        generalize rnTo zs x j = y at Hq hz
                        go_wp2
                        go_round
                        case rel => exact ⟨j + 1, by omega, by go_num, by rw [Hq.out]⟩
                        case measure => simp [intOf]; omega
                    · have Hst : ∀ q : Nat, q ≤ 2 → zs.getD 1 0 = (q : Int) → rnTo zs x (j + 1) = rnTo zs x j ++ (⟨#[97, 98, 99]⟩ : ByteArray).extract q (q + 1) := Hstep.out
                      clear Hstep
                      generalize zs.getD 1 0 = v at c2 Hst i1
                      rcases (by omega : v = 0 ∨ v = 1 ∨ v = 2) with rfl | rfl | rfl
                      · have Hq := Lib.hid (Hst 0 (by omega) rfl)
                        clear Hst
                        generalize rnTo zs x j = y at Hq hz
                        go_wp2
                        go_round
                        case rel => exact ⟨j + 1, by omega, by go_num, by rw [Hq.out]⟩
                        case measure => simp [intOf]; omega
                      · have Hq := Lib.hid (Hst 1 (by omega) rfl)
                        clear Hst
                        generalize rnTo zs x j = y at Hq hz
                        go_wp2
                        go_round
                        case rel => exact ⟨j + 1, by omega, by go_num, by rw [Hq.out]⟩
                        case measure => simp [intOf]; omega
                      · have Hq := Lib.hid (Hst 2 (by omega) rfl)
                        clear Hst
                        generalize rnTo zs x j = y at Hq hz
                        go_wp2
                        go_round
                        case rel => exact ⟨j + 1, by omega, by go_num, by rw [Hq.out]⟩
                        case measure => simp [intOf]; omega
                    · have Hst : ∀ q : Nat, q ≤ 2 → zs.getD 2 0 = (q : Int) → rnTo zs x (j + 1) = rnTo zs x j ++ (⟨#[97, 98, 99]⟩ : ByteArray).extract q (q + 1) := Hstep.out
                      clear Hstep
                      generalize zs.getD 2 0 = v at c3 Hst i2
                      rcases (by omega : v = 0 ∨ v = 1 ∨ v = 2) with rfl | rfl | rfl
                      · have Hq := Lib.hid (Hst 0 (by omega) rfl)
                        clear Hst
                        generalize rnTo zs x j = y at Hq hz
                        go_wp2
                        go_round
                        case rel => exact ⟨j + 1, by omega, by go_num, by rw [Hq.out]⟩
                        case measure => simp [intOf]; omega
                      · have Hq := Lib.hid (Hst 1 (by omega) rfl)
                        clear Hst
                        generalize rnTo zs x j = y at Hq hz
                        go_wp2
                        go_round
                        case rel => exact ⟨j + 1, by omega, by go_num, by rw [Hq.out]⟩
                        case measure => simp [intOf]; omega
                      · have Hq := Lib.hid (Hst 2 (by omega) rfl)
                        clear Hst
                        generalize rnTo zs x j = y at Hq hz
                        go_wp2
                        go_round
                        case rel => exact ⟨j + 1, by omega, by go_num, by rw [Hq.out]⟩
                        case measure => simp [intOf]; omega
                  · have hje : j = x.size := by omega
                    subst hje
                    rw [Hra.out]
                    go_wp2_with (go_at_call 27; refine hput.out.mono ?_; rintro e w2 ⟨A2, c2', rfl, ho2, hB2⟩)
                    have hO2 := Lib.hid (And.intro ho2 hB2)
                    clear ho2 hB2
                    go_roundw
                    case rel => exact ⟨k + 1, by omega, by go_num, by rw [Hs.out]; exact hO2.out.1, hO.out.2.trans (hO2.out.2.mono hO.out.2.size)⟩
                    case measure => simp [intOf]; omega
              · have hke : k = ss.length := by omega
                subst hke
                have ho := hO.out
                rw [List.take_length] at ho
                have HO := Lib.hid ho
                clear ho hO
                rw [List.take_length]
                generalize hg : ordB (rns zs ss) = acc at HO
                have Hg := Lib.hid hg
                clear hg
                go_wp2
                go_ret2
                rw [HE.out.1, HE.out.2, Hg.out]
                exact ⟨Ar, cr, rfl, HO.out.1, HO.out.2⟩
    · have hno : reOk ss zs = false := by unfold reOk; rw [nm_len h3]; simp
      rw [hno, reOf_no hno]
      have h3' : ((zs.length : Int) != 3) = true := by simp; omega
      clear hno hq h hs h' h3 hcap'
      go_enter Tryd.func21, Tryd.ntmps21
      go_wp2_with (go_at_call 33; refine hc.out.mono ?_; rintro e w' ⟨rfl, rfl⟩)
      go_ret2
      exact okStrs_nil _ _ _ (Below.refl _ _)

end Go.Proofs.YtbepplkpnhfifaaDoor
