/-
  WHAT THIS FILE PROVES: a set read by a code: the specification's function gives the plain set; asked: slices of texts in memory, lengths that an int holds.
-/
import Derived.Test.YtbdhgeefeelflaaGreatDoorFac
import Derived.Test.YtbdhgeefeelflaaGreatDoorIn
import Derived.Test.YtbdhgeefeelflaaGreatDoorMemS
import Derived.BigQuiet
import Derived.Test.YtbdhgeefeelflaaGreatDoorCode
namespace Go.Proofs.YtbdhgeefeelflaaGreatDoor
open Go.RowKit Go.Shelf

theorem spec_pfBy (A : Option Addr) (bs : List ByteArray) (c : Nat) (w : World) (h : Row w w.heap.size A (strs bs)) (hl : bs.length ≤ 9223372036854775807) (hs : ∀ s ∈ bs, s.size ≤ 9223372036854775807) :
    Calls Tryz.prog 12 #[.slice A bs.length c] w fun e w' => e = .returned (.bool (W.isSet bs && W.krLet (bs.length : Int))) ∧ w = w' := by
  have hc := spec_wdSet A bs c w h hl hs
  have hin := Lib.hid (fun W => spec_l1In (bs.length : Int) 2 3 W)
  unfold W.krLet
  cases hq : W.isSet bs
  · rw [hq] at hc
    replace hc := Lib.hid hc
    rw [Bool.false_and]
    clear h hs hq
    go_enter Tryz.func12, Tryz.ntmps12
    go_wp2_with fail
    refine hc.out.mono ?_
    rintro e w' ⟨rfl, rfl⟩
    go_wp2_with fail
    go_ret
    exact ⟨rfl, rfl⟩
  · rw [hq] at hc
    replace hc := Lib.hid hc
    rw [Bool.true_and]
    generalize decide ((2 : Int) ≤ (bs.length : Int) ∧ (bs.length : Int) ≤ 3) = r at hin ⊢
    clear h hs hq
    go_enter Tryz.func12, Tryz.ntmps12
    go_wp2_with fail
    refine hc.out.mono ?_
    rintro e w' ⟨rfl, rfl⟩
    go_wp2_with fail
    refine (hin.out _).mono ?_
    rintro e w' ⟨rfl, rfl⟩
    go_wp2_with fail
    go_ret
    exact ⟨rfl, rfl⟩
set_option maxHeartbeats 6400000 in
set_option maxRecDepth 100000 in
theorem spec_FactorOver (A : Option Addr) (ss : List ByteArray) (c : Nat) (A' : Option Addr) (bs : List ByteArray) (c' : Nat) (w : World) (h : Row w w.heap.size A (strs ss)) (_hcap : ss.length ≤ c) (hl : ss.length ≤ 9223372036854775807) (hs : ∀ s ∈ ss, s.size ≤ 9223372036854775807)
    (h' : Row w w.heap.size A' (strs bs)) (_hcap' : bs.length ≤ c') (hl' : bs.length ≤ 9223372036854775807) (hs' : ∀ s ∈ bs, s.size ≤ 9223372036854775807) :
    Calls Tryz.prog 5 #[.slice A ss.length c, .slice A' bs.length c'] w (OkStrs w (fcOf ss bs) (fcOk ss bs)) := by
  have hc := spec_wdSet A ss c w h hl hs
  cases hq : W.isSet ss
  · obtain ⟨e1, e2⟩ := fc_no (show fcAsk ss bs = false by unfold fcAsk; rw [hq]; rfl)
    rw [e2, e1]
    rw [hq] at hc
    replace hc := Lib.hid hc
    clear h hs hq e1 e2 h' hs'
    go_enter Tryz.func5, Tryz.ntmps5
    go_wp2_with fail
    refine hc.out.mono ?_
    rintro e w1 ⟨rfl, rfl⟩
    go_wp2_with fail
    go_ret2
    exact okStrs_nil _ _ _ (Below.refl _ _)
  · rw [hq] at hc
    replace hc := Lib.hid hc
    have hb := spec_pfBy A' bs c' w h' hl' hs'
    cases hby : (W.isSet bs && W.krLet (bs.length : Int))
    · obtain ⟨e1, e2⟩ := fc_no (show fcAsk ss bs = false by unfold fcAsk; rw [hby]; simp)
      rw [e2, e1]
      rw [hby] at hb
      replace hb := Lib.hid hb
      clear h hs hq e1 e2 h' hs' hby
      go_enter Tryz.func5, Tryz.ntmps5
      go_wp2_with fail
      refine hc.out.mono ?_
      rintro e w1 ⟨rfl, rfl⟩
      go_wp2_with fail
      refine hb.out.mono ?_
      rintro e w1 ⟨rfl, rfl⟩
      go_wp2_with fail
      go_ret2
      exact okStrs_nil _ _ _ (Below.refl _ _)
    · rw [hby] at hb
      replace hb := Lib.hid hb
      have hby2 := hby
      rw [Bool.and_eq_true] at hby2
      have h3 : bs.length ≤ 3 := by
        have := hby2.2
        unfold W.krLet at this
        simp at this
        omega
      have hcd := spec_dcCode A' bs c' w h' hby2.1
      cases hcq : isCd bs
      · obtain ⟨e1, e2⟩ := fc_no (show fcAsk ss bs = false by unfold fcAsk; rw [hcq]; simp)
        rw [e2, e1]
        rw [hcq] at hcd
        replace hcd := Lib.hid hcd
        clear h hs hq e1 e2 h' hs' hby hby2 hcq
        go_enter Tryz.func5, Tryz.ntmps5
        go_wp2_with fail
        refine hc.out.mono ?_
        rintro e w1 ⟨rfl, rfl⟩
        go_wp2_with fail
        refine hb.out.mono ?_
        rintro e w1 ⟨rfl, rfl⟩
        go_wp2_with fail
        refine hcd.out.mono ?_
        rintro e w1 ⟨rfl, hB⟩
        go_wp2_with fail
        go_ret2
        exact okStrs_nil _ _ _ hB
      · rw [hcq] at hcd
        replace hcd := Lib.hid hcd
        have hask : fcAsk ss bs = true := by unfold fcAsk; rw [hq, hby, hcq]; rfl
        have h12 := W.isSet_len ss hq
        have Hsh := Lib.hid (fun k hk => W.isSet_short ss hq k hk)
        have Hrow := Lib.hid h
        have Hbs := Lib.hid hby2.1
        have Hask := Lib.hid hask
        have Hel := Lib.hid (fun s => rd_el (bs := bs) (s := s) h3)
        have hrd := Lib.hid (fun (s : ByteArray) (u : World) (hB : Below w.heap.size w u) (hs : W.short s = true) => spec_dcReadings A' bs c' Hbs.out s.size s 1 u rfl ((h'.below hB).more hB.size) (by have := (W.short_size s hs).2; omega) (by omega) (by omega))
        have Hsz := Lib.hid (fcAll_size (bs := bs) hq)
        have hfl := Lib.hid (fcAll_len ss bs)
        clear h hs hq h' hs' hby hby2 hcq hask
        go_enter Tryz.func5, Tryz.ntmps5
        go_wp2_with fail
        refine hc.out.mono ?_
        rintro e w1 ⟨rfl, rfl⟩
        go_wp2_with fail
        refine hb.out.mono ?_
        rintro e w1 ⟨rfl, rfl⟩
        go_wp2_with fail
        refine hcd.out.mono ?_
        rintro e w1 ⟨rfl, hB1⟩
        replace hB1 := Lib.hid hB1
        go_wp2_with fail
        go_loopw [6, 28] (fun v i wr => ∃ (k : Nat) (acc : List ByteArray), acc = (fcAll ss bs).take k ∧ k ≤ ss.length ∧ i = .int .i64 k ∧ Hid (∀ j, j < k → rdOk bs (W.nth ss j) = true) ∧ wr.ownsRow w.heap.size 9 1 v (ordB acc).length (strs (ordB acc)) ∧ Below w.heap.size w wr)
          (fun _ i _ => ss.length - (intOf i).toNat)
        case atStart => exact ⟨0, [], rfl, Nat.zero_le _, rfl, fun j hj => absurd hj (Nat.not_lt_zero _), World.ownsRow_nil _ _ _ _, hB1.out⟩
        case round =>
          clear hB1
          obtain ⟨k, acc, hacc, hk, rfl, hT, ho, hB⟩ := hrel
          obtain ⟨Ar, cr, rfl⟩ := own_slice ho
          have hO := Lib.hid (And.intro ho hB)
          have hol : acc.length ≤ 12 := by rw [hacc, List.length_take]; omega
          have hoo := ord_length acc
          clear ho hB
          by_cases hlt : k < ss.length
          · obtain ⟨b, off, rfl, hb1, hcc⟩ := Hrow.out (by rw [strs_length]; omega)
            have hlt' : (k : Int) < (ss.length : Int) := by omega
            have c1 := (hO.out.2.cell (p := ⟨b, off + k, none⟩) hb1).trans (hcc k _ (strs_nth ss k hlt))
            clear hcc
            have hp1 := hrd.out (W.nth ss k) wr hO.out.2 (Hsh.out k hlt)
            have Hs := Lib.hid (show (fcAll ss bs).take (k + 1) = acc ++ [fc1 bs (W.nth ss k)] by rw [hacc, fcAll_succ ss bs k hlt])
            have Hmm := Lib.hid (show W.nth ss k ∈ ss by rw [W.nth_lt ss k hlt]; exact List.getElem_mem hlt)
            have HT2 := Lib.hid (show rdOk bs (W.nth ss k) = true → ∀ j, j < k + 1 → rdOk bs (W.nth ss j) = true from fun e j hj => by
              by_cases e2 : j = k
              · subst e2; exact e
              · exact hT.out j (by omega))
            have hsh := Hsh.out k hlt
            clear hacc
            generalize W.nth ss k = s at c1 hp1 Hs Hmm HT2 hsh
            have hways := rdOk_ways Hbs.out hsh
            have hr8 := rd_len8 (bs := bs) hsh
            cases hkw : rdOk bs s
            · obtain ⟨e1, e2⟩ := fc_unread Hmm.out hkw
              have Hno := Lib.hid (And.intro e1 e2)
              rw [hkw] at hways
              have hw0 : W.reads bs s.data.toList = [] := by
                have h0 : ¬ 0 < W.ways bs s.data.toList := of_decide_eq_false hways.symm
                rw [← W.reads_length] at h0
                exact List.length_eq_zero_iff.1 (by omega)
              rw [hw0] at hp1
              replace hp1 := Lib.hid hp1
              clear e1 e2 hkw hways hw0 hsh hr8
              go_wp2_with fail
              refine hp1.out.mono ?_
              rintro e w' ⟨A2, c2, rfl, ho2, hB2⟩
              have HB2 := Lib.hid (hO.out.2.trans (hB2.mono hO.out.2.size))
              rw [show (intss (([] : List (List Int)).take 1)).length = 0 from rfl]
              clear ho2 hB2
              go_wp2_with fail
              go_ret2
              rw [Hno.out.1, Hno.out.2]
              exact okStrs_nil _ _ _ HB2.out
            · have hhead : (W.reads bs s.data.toList).take 1 = [rdOf bs s] := by
                rw [hkw] at hways
                rw [rdOf_yes hkw]
                exact (reads_head (of_decide_eq_true hways.symm)).1
              rw [hhead] at hp1
              replace hp1 := Lib.hid hp1
              have HT3 := Lib.hid (HT2.out hkw)
              have hel := Lib.hid (Hel.out s hkw)
              unfold fc1 at Hs
              clear HT2 hhead hkw hways hsh hT
              generalize rdOf bs s = r at hp1 Hs hel hr8
              go_wp2_with fail
              refine hp1.out.mono ?_
              rintro e w2 ⟨A2, c2, rfl, ho, hB2⟩
              obtain ⟨g, A3, c3, rfl, hcell, hrow⟩ := one_row ho
              rw [ints_length] at hcell hrow
              have HB2 := Lib.hid (And.intro (own_below hO.out.1 hB2) (hO.out.2.trans (hB2.mono hO.out.2.size)))
              have HR := Lib.hid (Row.of_own hrow)
              rw [show (intss [r]).length = 1 from rfl]
              clear ho hB2 hrow hO
              have hr9 : (r.length : Int) ≤ 8 := by omega
              go_wp2
              go_loop [10, 42] (fun t i => ∃ j : Nat, j ≤ r.length ∧ i = .int .i64 j ∧ t = .string (fcTo r j)) (fun _ i => r.length - (intOf i).toNat)
              case atStart => exact ⟨0, Nat.zero_le _, rfl, rfl⟩
              case round =>
                obtain ⟨j, hj, rfl, rfl⟩ := hrel
                by_cases hjl : j < r.length
                · have hjl' : (j : Int) < (r.length : Int) := by omega
                  obtain ⟨b3, off3, rfl, hb3, hcc3⟩ := HR.out (by rw [ints_length]; omega)
                  have c3' := hcc3 j _ (ints_at r j hjl)
                  have hel2 := hel.out j hjl
                  have hfs := Lib.hid (fcTo_succ r j hjl)
                  have hsz := fcTo_size r j hj
                  clear hcc3
                  generalize r[j] = i0 at c3' hel2 hfs
                  obtain ⟨m, rfl⟩ := Int.eq_ofNat_of_zero_le hel2.1
                  have hcut := fc_cut hel2
                  rw [Int.toNat_natCast] at hcut
                  have hm0 : (0 : Int) ≤ (m : Int) := hel2.1
                  have hm1 : (m : Int) + 1 ≤ 3 := by omega
                  have hm2 : (m : Int) ≤ 3 := by omega
                  have hx1 : ((⟨#[fcC (m : Int)]⟩ : ByteArray).size : Int) = 1 := rfl
                  generalize (⟨#[fcC (m : Int)]⟩ : ByteArray) = x at hcut hfs hx1
                  generalize fcTo r j = y at hfs hsz ⊢
                  have hy1 : (y.size : Int) ≤ 8 := by omega
                  go_wp2
                  go_round
                  case rel => exact ⟨j + 1, by omega, by go_num, by rw [hfs.out]⟩
                  case measure => simp [intOf]; omega
                · obtain rfl : j = r.length := by omega
                  rw [fcTo_all]
                  have hput := spec_wdPut w.heap.size Ar (ordB acc) cr (fcB r) w2 HB2.out.1 HB2.out.2.size (by omega)
                  rw [show putB (ordB acc) (fcB r) = ordB (acc ++ [fcB r]) from (ord_snoc acc (fcB r)).symm] at hput
                  replace hput := Lib.hid hput
                  generalize fcB r = t at Hs hput ⊢
                  generalize acc ++ [t] = a3 at Hs hput
                  generalize ordB acc = x2 at HB2 hput hoo
                  go_wp2_with fail
                  refine hput.out.mono ?_
                  rintro e w3 ⟨A4, c4, rfl, ho3, hB3⟩
                  have hO3 := Lib.hid (And.intro ho3 (HB2.out.2.trans (hB3.mono HB2.out.2.size)))
                  clear ho3 hB3
                  go_wp2
                  go_roundw
                  case rel => exact ⟨k + 1, a3, Hs.out.symm, by omega, by go_num, HT3.out, hO3.out.1, hO3.out.2⟩
                  case measure => simp [intOf]; omega
          · obtain rfl : k = ss.length := by omega
            rw [List.take_of_length_le (by rw [hfl.out]; exact Nat.le_refl _)] at hacc
            obtain ⟨e1, e2⟩ := fc_an Hask.out hT.out
            rw [← hacc] at e1 e2
            have Hfin := Lib.hid (And.intro e1 e2)
            have Hif := Lib.hid (spec_wdIf_any Ar acc cr wr w.heap.size hO.out.1 (by omega) (fun x hx => by rw [hacc] at hx; have := Hsz.out x hx; omega))
            have HB := Lib.hid hO.out.2
            clear hO hacc e1 e2 hT
            generalize ordB acc = ac2 at Hif
            go_wp2_with (go_at_call 16; refine Hif.out.mono ?_; rintro e w2 ⟨v, rfl, ho2, rfl⟩)
            have HO2 := Lib.hid ho2
            clear ho2
            go_ret2
            rw [Hfin.out.1, Hfin.out.2]
            exact okStrs_of HO2.out rfl HB.out
end Go.Proofs.YtbdhgeefeelflaaGreatDoor
