/-
  WHAT THIS FILE PROVES: a prefix set shrunk: the specification's function gives the plain one's set; asked: a slice of texts in memory, lengths that an int holds and no more than the capacity.
-/
import Derived.Test.YtojcnalgjeojdaaGreatDoorShk
import Derived.Test.YtojcnalgjeojdaaGreatDoorInnS
import Derived.Test.YtojcnalgjeojdaaGreatDoorIsPfx
import Derived.Test.YtojcnalgjeojdaaGreatDoorKrS
import Derived.Deep.QuietTactic
import Derived.BigQuiet
namespace Go.Proofs.YtojcnalgjeojdaaGreatDoor
open Go.RowKit Go.Shelf

set_option maxHeartbeats 6400000 in
set_option maxRecDepth 100000 in
theorem spec_ShrinkPrefix (A : Option Addr) (ss : List ByteArray) (c : Nat) (w : World) (h : Row w w.heap.size A (strs ss)) (hcap : ss.length ≤ c) (hl : ss.length ≤ 9223372036854775807) (hs : ∀ s ∈ ss, s.size ≤ 9223372036854775807) :
    Calls Tryz.prog 5 #[.slice A ss.length c] w (OkStrs w (shOf ss) (shOk ss)) := by
  have hc := spec_wdSet A ss c w h hl hs
  cases hq : W.isSet ss
  · have hno : shOk ss = false := by unfold shOk shAsk; rw [hq]; rfl
    rw [shOf_no hno, hno]
    rw [hq] at hc
    replace hc := Lib.hid hc
    clear h hs hq hno
    go_enter Tryz.func5, Tryz.ntmps5
    go_wp2_with fail
    refine hc.out.mono ?_
    rintro e w1 ⟨rfl, rfl⟩
    go_wp2_with fail
    go_ret2
    exact okStrs_nil _ _ _ (Below.refl _ _)
  · rw [hq] at hc
    replace hc := Lib.hid hc
    have hk := spec_krPrefix A ss c w h hq hcap
    cases hp : pfxB ss
    · have hno : shOk ss = false := by unfold shOk shAsk; rw [hp]; simp
      rw [shOf_no hno, hno]
      rw [hp] at hk
      replace hk := Lib.hid hk
      clear h hs hq hno hp
      go_enter Tryz.func5, Tryz.ntmps5
      go_wp2_with fail
      refine hc.out.mono ?_
      rintro e w1 ⟨rfl, rfl⟩
      go_wp2_with fail
      refine hk.out.mono ?_
      rintro e w1 ⟨rfl, rfl⟩
      go_wp2_with fail
      go_ret2
      exact okStrs_nil _ _ _ (Below.refl _ _)
    · rw [hp] at hk
      replace hk := Lib.hid hk
      have h12 := W.isSet_len ss hq
      have Hq := Lib.hid (And.intro hq hp)
      have hin := Lib.hid (spec_pfInner A ss c w h hq)
      have hil := inB_len hq
      have Hkw := Lib.hid (fun (k : Nat) (hk : k < ss.length) => spec_krWord (W.nth ss k) 2 w (by have := (W.short_size _ (W.isSet_short ss hq k hk)).2; omega) (by
        have := W.isSet_short ss hq k hk
        unfold W.short at this
        simp only [Bool.and_eq_true] at this
        exact this.2))
      have Hrow := Lib.hid h
      have hlt2 := ltrs_two ss
      have HL := Lib.hid (show ∀ k, k ≤ ss.length → ∃ l : Nat, l = (if (ss.take k).all (fun s => W.krWd 2 s.data.toList) then 2 else 3) from fun k _ => ⟨_, rfl⟩)
      clear h hs hq hp HL
      go_enter Tryz.func5, Tryz.ntmps5
      go_wp2_with fail
      refine hc.out.mono ?_
      rintro e w1 ⟨rfl, rfl⟩
      go_wp2_with fail
      refine hk.out.mono ?_
      rintro e w1 ⟨rfl, rfl⟩
      go_wp2_with fail
      go_loop [4, 24] (fun l i => ∃ k : Nat, k ≤ ss.length ∧ i = .int .i64 k ∧ l = .int .i64 ((ltrs (ss.take k) : Nat) : Int)) (fun _ i => ss.length - (intOf i).toNat)
      case atStart => exact ⟨0, Nat.zero_le _, rfl, rfl⟩
      case round =>
        obtain ⟨k, hk, rfl, rfl⟩ := hrel
        by_cases hlt : k < ss.length
        · obtain ⟨b, off, rfl, hb, hcc⟩ := Hrow.out (by rw [strs_length]; omega)
          have hlt' : (k : Int) < (ss.length : Int) := by omega
          have c1 := hcc k _ (strs_nth ss k hlt)
          clear hcc
          have hkw := Hkw.out k hlt
          have Hs := Lib.hid (ltrs_succ ss k hlt)
          have h23 := ltrs_two (ss.take k)
          generalize ltrs (ss.take k) = l at Hs h23 ⊢
          generalize W.nth ss k = s at c1 hkw Hs
          cases hd : W.krWd 2 s.data.toList
          · rw [hd] at hkw
            replace hkw := Lib.hid hkw
            have Hs2 := Lib.hid (show ltrs (ss.take (k + 1)) = 3 by rw [Hs.out, hd]; rfl)
            clear hd Hs
            go_wp2_with fail
            refine hkw.out.mono ?_
            rintro e w' ⟨rfl, rfl⟩
            go_wp2_with fail
            go_round
            case rel => exact ⟨k + 1, by omega, by go_num, by rw [Hs2.out]; rfl⟩
            case measure => simp [intOf]; omega
          · rw [hd] at hkw
            replace hkw := Lib.hid hkw
            have Hs2 := Lib.hid (show ltrs (ss.take (k + 1)) = l by rw [Hs.out, hd]; rfl)
            clear hd Hs
            go_wp2_with fail
            refine hkw.out.mono ?_
            rintro e w' ⟨rfl, rfl⟩
            go_wp2_with fail
            go_round
            case rel => exact ⟨k + 1, by omega, by go_num, by rw [Hs2.out]⟩
            case measure => simp [intOf]; omega
        · obtain rfl : k = ss.length := by omega
          rw [List.take_length]
          have HF := Lib.hid (show fullW ss = fun s => fullTo ss s (ltrs ss) from rfl)
          generalize hL : ltrs ss = L at hlt2 HF ⊢
          have HLL := Lib.hid hL
          clear hL
          have hL3 : L ≤ 3 := by omega
          have Hhead := Lib.hid (inB_head Hq.out.1)
          go_wp2_with fail
          refine hin.out.mono ?_
          rintro e w1 ⟨A1, c1, rfl, ho1, hB1⟩
          have hR1 := Lib.hid (Row.of_own ho1)
          have hRs := Lib.hid ((Hrow.out.below hB1).more hB1.size)
          clear ho1
          have hhas := Lib.hid (fun (x : ByteArray) (u : World) (hB : Below w1.heap.size w1 u) => spec_wdHas A ss c x u ((hRs.out.below hB).more hB.size) (by omega))
          have hsh := Lib.hid (show shX ss = lastTo (fullW ss) (inB ss) (inB ss).length from rfl)
          have Hpos := Lib.hid (fun (j : Nat) h0 hj => inB_pos (ss := ss) (j := j) h0 hj)
          have Hsz := Lib.hid (show ∀ j, j < (inB ss).length → (W.nth (inB ss) j).size ≤ 8 from fun j hj => by rw [W.nth_lt _ j hj]; exact inB_size2 Hq.out.1 _ (List.getElem_mem hj))
          generalize hI : inB ss = I at hil hR1 Hhead hsh Hpos Hsz ⊢
          have HI := Lib.hid hI
          clear hI
          have hL3' : (L : Int) ≤ 3 := by omega
          go_wp2_with fail
          go_loopw [8] (fun i wr => ∃ k : Int, i = .int .i64 k ∧ -1 ≤ k ∧ k < I.length ∧ Hid (∀ j : Nat, k < j → j < I.length → fullTo ss (W.nth I j) L = false) ∧ Below w1.heap.size w1 wr) (fun i _ => (intOf i).toNat)
          case atStart => exact ⟨(I.length : Int) - 1, rfl, by omega, by omega, fun j h1 h2 => by omega, Below.refl _ _⟩
          case round =>
            obtain ⟨k, rfl, hk0, hkI, hN, hB2⟩ := hrel
            generalize wr = wk at *
            by_cases hkp : 0 < k
            · obtain ⟨k, rfl⟩ := Int.eq_ofNat_of_zero_le (show (0 : Int) ≤ k by omega)
              have hkn : k < I.length := by omega
              have hkpn : 0 < k := by omega
              obtain ⟨b1, off1, rfl, hb1, hcc1⟩ := hR1.out (by rw [strs_length]; omega)
              have c2 := (hB2.cell (p := ⟨b1, off1 + k, none⟩) hb1).trans (hcc1 k _ (strs_nth I k hkn))
              have c0 := Lib.hid (hcc1 k _ (strs_nth I k hkn))
              have hs8 := Hsz.out k hkn
              have hs0 := Hpos.out k (by omega) hkn
              have Hdone := Lib.hid (show ∀ s, s = W.nth I k → fullTo ss s L = true → shX ss = s from fun s e hf => by
                rw [hsh.out]
                have := lastTo_hit (p := fullW ss) (I := I) (k := k) (by rw [HF.out, ← e]; exact hf) (I.length - (k + 1)) (fun j h1 h2 => by rw [HF.out]; exact hN.out j (by omega) (by omega))
                rw [show k + 1 + (I.length - (k + 1)) = I.length by omega] at this
                rw [this, e])
              have Hnext := Lib.hid (show fullTo ss (W.nth I k) L = false → ∀ j : Nat, (k : Int) - 1 < j → j < I.length → fullTo ss (W.nth I j) L = false from fun e j h1 h2 => by
                by_cases e2 : j = k
                · subst e2; exact e
                · exact hN.out j (by omega) h2)
              have hkI' : (k : Int) < (I.length : Int) := by omega
              have hO := Lib.hid hB2
              clear hcc1 hB2 hN
              generalize hsn : W.nth I k = s at c0 c2 hs8 hs0 Hnext
              replace Hdone := Lib.hid (Hdone.out s hsn.symm)
              clear hsn
              go_wp2_with fail
              go_loopw [9, 10] (fun a i wr => ∃ x : Nat, x ≤ L ∧ i = .int .i64 x ∧ a = .bool (fullTo ss s x) ∧ Below wk.heap.size wk wr) (fun _ i _ => L - (intOf i).toNat)
              case atStart => exact ⟨0, Nat.zero_le _, rfl, rfl, Below.refl _ _⟩
              case round =>
                obtain ⟨x, hx, rfl, rfl, hB3⟩ := hrel
                have hbk := World.block_lt_of_cell? _ _ c2
                have c3 := (hB3.cell (p := ⟨b1, off1 + k, none⟩) hbk).trans c2
                by_cases hlx : x < L
                · have hlx' : (x : Int) < (L : Int) := by omega
                  have hx3' : (x : Int) < 3 := by omega
                  have hx3 : x < 3 := by omega
                  have Hs := Lib.hid (fullTo_succ ss s x)
                  have hss1 : (s.size : Int) ≤ 8388608 := by omega
                  have hkd : kid s x = s ++ (⟨#[97, 98, 99]⟩ : ByteArray).extract x (x + 1) := rfl
                  have hO3 := Lib.hid hB3
                  clear hB3
                  cases hf : fullTo ss s x
                  · have Hs2 := Lib.hid (show fullTo ss s (x + 1) = false by rw [Hs.out, hf]; rfl)
                    clear Hs hf hkd
                    go_wp2_with fail
                    go_quiet (fail)
                    go_wp2
                    go_roundw
                    case rel => exact ⟨x + 1, by omega, by go_num, by rw [Hs2.out], below_drewN hO3.out nq⟩
                    case measure => simp [intOf]; omega
                  · have hq1 := Lib.hid (fun q => hhas.out (kid s x) (wr.drewN q) (hO.out.trans ((below_drewN hO3.out q).mono hO.out.size)))
                    rw [hf, Bool.true_and] at Hs
                    rw [hkd] at hq1
                    clear hf
                    go_wp2_with fail
                    go_quiet ((go_at_call 15; exact Calls.quiet_of_same ((hq1.out _).mono fun e w2 h2 => ⟨h2.1, h2.2.symm⟩)))
                    go_wp2
                    go_roundw
                    case rel => exact ⟨x + 1, by omega, by go_num, by rw [Hs.out, hkd], below_drewN hO3.out nq⟩
                    case measure => simp [intOf]; omega
                · obtain rfl : x = L := by omega
                  clear hlt2 hlx hx
                  have hO3 := Lib.hid (hO.out.trans (hB3.mono hO.out.size))
                  clear hB3
                  cases hf : fullTo ss s x
                  · have Hn2 := Lib.hid (Hnext.out hf)
                    clear hf Hnext Hdone
                    go_wp2
                    go_roundw
                    case rel => exact ⟨(k : Int) - 1, rfl, by omega, by omega, Hn2.out, hO3.out⟩
                    case measure => simp [intOf]; omega
                  · have Hd := Lib.hid (Hdone.out hf)
                    have Hff := Lib.hid hf
                    clear hf Hnext Hdone
                    have hfw : fullW ss s = true := by rw [HF.out]; exact Hff.out
                    have Hks := Lib.hid (fun (u : ByteArray) (hu : u ∈ ss) => keep_same Hq.out.1 Hq.out.2 hfw hu)
                    have hX0 := Lib.hid (show 0 < (shX ss).size by rw [Hd.out]; exact hs0)
                    clear hfw
                    go_wp2
                    go_loopw [11, 64] (fun v i wr => ∃ (n : Nat) (acc : List ByteArray), acc = keepW (ss.take n) s ∧ n ≤ ss.length ∧ i = .int .i64 n ∧ wr.ownsRow w1.heap.size 9 1 v (ordB acc).length (strs (ordB acc)) ∧ Below w1.heap.size w1 wr)
                      (fun _ i _ => ss.length - (intOf i).toNat)
                    case atStart => exact ⟨0, [], rfl, Nat.zero_le _, rfl, World.ownsRow_nil _ _ _ _, hO3.out⟩
                    case round =>
                      clear hO3 hO c2 c3
                      obtain ⟨n, acc, hacc, hn1, rfl, ho, hB⟩ := hrel
                      generalize wr = wl at *
                      obtain ⟨Ar, cr, rfl⟩ := own_slice ho
                      have hO := Lib.hid (And.intro ho hB)
                      have c4 := (hB.cell (p := ⟨b1, off1 + k, none⟩) hb1).trans c0.out
                      have hal : acc.length ≤ 12 := by rw [hacc]; have := keepW_len (ss.take n) s; rw [List.length_take] at this; omega
                      have hol := ord_length acc
                      clear ho hB
                      by_cases hln : n < ss.length
                      · obtain ⟨b, off, rfl, hb, hcc⟩ := hRs.out (by rw [strs_length]; omega)
                        have hln' : (n : Int) < (ss.length : Int) := by omega
                        have c5 := (hO.out.2.cell (p := ⟨b, off + n, none⟩) hb).trans (hcc n _ (strs_nth ss n hln))
                        clear hcc
                        have Hk1 := Lib.hid (Hks.out (W.nth ss n) (by rw [W.nth_lt ss n hln]; exact List.getElem_mem hln))
                        have Hs3 := Lib.hid (show keepW (ss.take (n + 1)) s = acc ++ (if bgs s (W.nth ss n) then [] else [W.nth ss n]) by rw [keep_take_succ ss s n hln, hacc])
                        have htz : (W.nth ss n).size ≤ 8 := (W.short_size _ (W.isSet_short ss Hq.out.1 n hln)).2
                        have hwb := spec_wdBegins (W.nth ss n) s wl
                        rw [show Lib.hasPrefix (W.nth ss n).data.toList s.data.toList = bgs s (W.nth ss n) from rfl] at hwb
                        have hput := spec_wdPut w1.heap.size Ar (ordB acc) cr (W.nth ss n) wl hO.out.1 hO.out.2.size (by omega)
                        rw [show putB (ordB acc) (W.nth ss n) = ordB (acc ++ [W.nth ss n]) from (ord_snoc acc _).symm] at hput
                        replace hput := Lib.hid hput
                        clear hacc
                        generalize W.nth ss n = t at c5 Hk1 Hs3 htz hwb hput
                        by_cases hte : t.size = s.size + 1
                        · have hne : ((t.size : Int) != (s.size : Int) + 1) = false := by rw [hte]; simp
                          have hte' := Lib.hid hte
                          cases hbb : bgs s t
                          · rw [hbb] at hwb
                            replace hwb := Lib.hid hwb
                            have Hs4 := Lib.hid (show acc ++ [t] = keepW (ss.take (n + 1)) s by rw [Hs3.out, hbb]; rfl)
                            generalize acc ++ [t] = a3 at Hs4 hput
                            generalize ordB acc = x2 at hO hput hol
                            clear hbb hte Hs3 Hk1
                            go_wp2_with fail
                            refine hwb.out.mono ?_
                            rintro e w' ⟨rfl, rfl⟩
                            go_wp2_with fail
                            refine hput.out.mono ?_
                            rintro e w2 ⟨A2, c2, rfl, ho2, hB2⟩
                            have hO2 := Lib.hid (And.intro ho2 hB2)
                            clear ho2 hB2
                            go_wp2
                            go_roundw
                            case rel => exact ⟨n + 1, a3, Hs4.out, by omega, by go_num, hO2.out.1, hO.out.2.trans (hO2.out.2.mono hO.out.2.size)⟩
                            case measure => simp [intOf]; omega
                          · rw [hbb] at hwb
                            replace hwb := Lib.hid hwb
                            have Hs4 := Lib.hid (show acc = keepW (ss.take (n + 1)) s by rw [Hs3.out, hbb]; simp)
                            clear hbb hte Hs3 Hk1 hput
                            go_wp2_with fail
                            refine hwb.out.mono ?_
                            rintro e w' ⟨rfl, rfl⟩
                            go_wp2_with fail
                            go_roundw
                            case rel => exact ⟨n + 1, acc, Hs4.out, by omega, by go_num, hO.out.1, hO.out.2⟩
                            case measure => simp [intOf]; omega
                        · have hne : ((t.size : Int) != (s.size : Int) + 1) = true := bne_iff_ne.2 (by omega)
                          have hbb : bgs s t = false := by
                            have h1 := Hk1.out
                            rw [decide_eq_true hte, Bool.true_or] at h1
                            cases hb2 : bgs s t with
                            | false => rfl
                            | true => rw [hb2] at h1; cases h1
                          have Hs4 := Lib.hid (show acc ++ [t] = keepW (ss.take (n + 1)) s by rw [Hs3.out, hbb]; rfl)
                          generalize acc ++ [t] = a3 at Hs4 hput
                          generalize ordB acc = x2 at hO hput hol
                          clear hbb hte Hs3 Hk1 hwb
                          go_wp2_with fail
                          refine hput.out.mono ?_
                          rintro e w2 ⟨A2, c2, rfl, ho2, hB2⟩
                          have hO2 := Lib.hid (And.intro ho2 hB2)
                          clear ho2 hB2
                          go_wp2
                          go_roundw
                          case rel => exact ⟨n + 1, a3, Hs4.out, by omega, by go_num, hO2.out.1, hO.out.2.trans (hO2.out.2.mono hO.out.2.size)⟩
                          case measure => simp [intOf]; omega
                      · obtain rfl : n = ss.length := by omega
                        rw [List.take_length] at hacc
                        have hput := spec_wdPut w1.heap.size Ar (ordB acc) cr s wl hO.out.1 hO.out.2.size (by omega)
                        rw [show putB (ordB acc) s = ordB (acc ++ [s]) from (ord_snoc acc _).symm] at hput
                        have hok : shOk ss = true := by unfold shOk shAsk; rw [Hq.out.1, Hq.out.2, decide_eq_true hX0.out]; rfl
                        have Hfin := Lib.hid (And.intro hok (show shOf ss = ordB (acc ++ [s]) by rw [shOf_yes hok, Hd.out, hacc]))
                        replace hput := Lib.hid hput
                        clear hacc hok
                        generalize acc ++ [s] = a3 at Hfin hput
                        go_wp2_with fail
                        refine hput.out.mono ?_
                        rintro e w2 ⟨A2, c2, rfl, ho2, hB2⟩
                        have hO2 := Lib.hid (And.intro (own_base ho2 hB1.size) (hB1.trans ((hO.out.2.trans (hB2.mono hO.out.2.size)).mono hB1.size)))
                        clear ho2 hB2
                        go_wp2_with fail
                        go_ret2
                        rw [Hfin.out.1, Hfin.out.2]
                        exact okStrs_of hO2.out.1 rfl hO2.out.2
            · have hX : shX ss = ⟨#[]⟩ := by
                rw [hsh.out]
                exact lastTo_none Hhead.out I.length (Nat.le_refl _) (fun j h1 h2 => by rw [HF.out]; exact hN.out j (by omega) h2)
              have hno : shOk ss = false := by unfold shOk; rw [hX]; simp; intro _; decide
              have Hno := Lib.hid (And.intro hno (shOf_no hno))
              have hO := Lib.hid (hB1.trans (hB2.mono hB1.size))
              clear hX hno hB2 hN
              go_wp2
              go_ret2
              rw [Hno.out.1, Hno.out.2]
              exact okStrs_nil _ _ _ hO.out
end Go.Proofs.YtojcnalgjeojdaaGreatDoor
