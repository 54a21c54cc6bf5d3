/-
  WHAT THIS FILE PROVES: the states of a complete prefix set and where letters lead from them: the specification's functions give the plain ones; asked: a slice of texts in memory, lengths that an int holds.
-/
import Derived.Test.YtgnehobhbioehaaGreatDoorStpM
import Derived.Test.YtgnehobhbioehaaGreatDoorInnS
import Derived.Test.YtgnehobhbioehaaGreatDoorIsPfx
import Derived.Test.YtgnehobhbioehaaGreatDoorKrS
namespace Go.Proofs.YtgnehobhbioehaaGreatDoor
open Go.RowKit Go.Shelf

/-- how many letters a complete prefix set has -/
def slN (ss : List ByteArray) : Nat := if stOk ss then ltrs ss else 0
theorem slN_no {ss : List ByteArray} (h : stOk ss = false) : slN ss = 0 := by unfold slN; rw [h]; rfl
theorem slN_yes {ss : List ByteArray} (h : stOk ss = true) : slN ss = ltrs ss := by unfold slN; rw [h]; rfl
set_option maxHeartbeats 6400000 in
set_option maxRecDepth 100000 in
theorem spec_syLetters (A : Option Addr) (ss : List ByteArray) (c : Nat) (w : World) (h : Row w w.heap.size A (strs ss)) (hcap : ss.length ≤ c) (hl : ss.length ≤ 9223372036854775807) (hs : ∀ s ∈ ss, s.size ≤ 9223372036854775807) :
    Calls Tryz.prog 23 #[.slice A ss.length c] w fun e w' => e = .returned (.tuple #[.int .i64 ((slN ss : Nat) : Int), .bool (stOk ss)]) ∧ Below w.heap.size w w' := by
  have hc := spec_wdSet A ss c w h hl hs
  cases hq : W.isSet ss
  · have hno : stOk ss = false := by unfold stOk; rw [hq]; rfl
    rw [slN_no hno, hno]
    rw [hq] at hc
    replace hc := Lib.hid hc
    clear h hs hq hno
    go_enter Tryz.func23, Tryz.ntmps23
    go_wp2_with fail
    refine hc.out.mono ?_
    rintro e w' ⟨rfl, rfl⟩
    go_wp2_with fail
    go_ret2
    exact ⟨rfl, Below.refl _ _⟩
  · rw [hq] at hc
    replace hc := Lib.hid hc
    have h12 := W.isSet_len ss hq
    by_cases h0 : 0 < ss.length
    · have h0' : ((ss.length : Int) == 0) = false := beq_eq_false_iff_ne.2 (by omega)
      have h12' : ¬ (12 : Int) < (ss.length : Int) := by omega
      have hkp := spec_krPrefix A ss c w h hq hcap
      cases hp : pfxB ss
      · have hno : stOk ss = false := by unfold stOk; rw [hp]; simp
        rw [slN_no hno, hno]
        rw [hp] at hkp
        replace hkp := Lib.hid hkp
        clear h hs hq hno hp
        go_enter Tryz.func23, Tryz.ntmps23
        go_wp2_with fail
        refine hc.out.mono ?_
        rintro e w' ⟨rfl, rfl⟩
        go_wp2_with fail
        refine hkp.out.mono ?_
        rintro e w' ⟨rfl, rfl⟩
        go_wp2_with fail
        go_ret2
        exact ⟨rfl, Below.refl _ _⟩
      · have hst : stOk ss = fullC ss := by unfold stOk; rw [hq, decide_eq_true h0, hp]; rfl
        rw [hp] at hkp
        replace hkp := Lib.hid hkp
        have Hr : Hid (∀ r, fullC ss = r → (((slN ss : Nat) : Int) = (if r then ((ltrs ss : Nat) : Int) else 0)) ∧ stOk ss = r) := fun r hr => by
          have h2 : stOk ss = r := hst.trans hr
          refine ⟨?_, h2⟩
          unfold slN
          rw [h2]
          cases r <;> rfl
        have HC := Lib.hid (show fullC ss = fiTo ss (inB ss).length from rfl)
        have Hfn := Lib.hid (fun k hk hf => fiTo_no ss k (inB ss).length hk hf)
        have Hfs := Lib.hid (fiTo_succ ss)
        have hin := Lib.hid (spec_pfInner A ss c w h hq)
        have hil := inB_len hq
        have hi8 := Lib.hid (fun i hi => show (W.nth (inB ss) i).size ≤ 8 from by rw [W.nth_lt _ i hi]; exact inB_size2 hq _ (List.getElem_mem hi))
        have Hsz := Lib.hid (fun k hk => W.short_size _ (W.isSet_short ss hq k hk))
        have Hkw := Lib.hid (fun k (hk : k < ss.length) => spec_krWord (W.nth ss k) 2 w (by have := (W.short_size _ (W.isSet_short ss hq k hk)).2; omega) (by
          have := W.isSet_short ss hq k hk
          unfold W.short at this
          simp only [Bool.and_eq_true] at this
          exact this.2))
        have Hls := Lib.hid (fun k hk => ltrs_succ ss k hk)
        have Hl2 := Lib.hid (ltrs_two ss)
        have Hlt := Lib.hid (fun k => ltrs_two (ss.take k))
        have Hall : Hid (ltrs (ss.take ss.length) = ltrs ss) := by show _ = _; rw [List.take_length]
        have hRow := Lib.hid h
        clear h hs hq hp hst
        go_enter Tryz.func23, Tryz.ntmps23
        go_wp2_with fail
        refine hc.out.mono ?_
        rintro e w' ⟨rfl, rfl⟩
        go_wp2_with fail
        refine hkp.out.mono ?_
        rintro e w' ⟨rfl, rfl⟩
        go_wp2_with fail
        go_loop [4, 32] (fun lv i => ∃ k : Nat, k ≤ ss.length ∧ i = .int .i64 k ∧ lv = .int .i64 ((ltrs (ss.take k) : Nat) : Int)) (fun _ i => ss.length - (intOf i).toNat)
        case atStart => exact ⟨0, Nat.zero_le _, rfl, rfl⟩
        case round =>
          obtain ⟨k, hk, rfl, rfl⟩ := hrel
          by_cases hlt : k < ss.length
          · obtain ⟨b, off, rfl, hb, hcc⟩ := hRow.out (by rw [strs_length]; omega)
            have hlt' : (k : Int) < (ss.length : Int) := by omega
            have c1 := hcc k _ (strs_nth ss k hlt)
            clear hcc
            have hs := Hls.out k hlt
            have hkw := Hkw.out k hlt
            generalize ltrs (ss.take k) = x at hs ⊢
            generalize W.nth ss k = s at c1 hs hkw
            cases hd : W.krWd 2 s.data.toList
            · rw [hd] at hs hkw
              have hs2 := Lib.hid (show ltrs (ss.take (k + 1)) = 3 from hs)
              replace hkw := Lib.hid hkw
              clear hs hd
              go_wp2_with fail
              refine hkw.out.mono ?_
              rintro e w' ⟨rfl, rfl⟩
              go_wp2_with fail
              go_round
              case rel => exact ⟨k + 1, by omega, by go_num, by rw [hs2.out]; rfl⟩
              case measure => simp [intOf]; omega
            · rw [hd] at hs hkw
              have hs2 := Lib.hid (show ltrs (ss.take (k + 1)) = x from hs)
              replace hkw := Lib.hid hkw
              clear hs hd
              go_wp2_with fail
              refine hkw.out.mono ?_
              rintro e w' ⟨rfl, rfl⟩
              go_wp2_with fail
              go_round
              case rel => exact ⟨k + 1, by omega, by go_num, by rw [hs2.out]⟩
              case measure => simp [intOf]; omega
          · obtain rfl : k = ss.length := by omega
            rw [Hall.out]
            generalize ltrs ss = L at *
            have hL3 : L ≤ 3 := by have := Hl2.out; omega
            go_wp2_with fail
            refine hin.out.mono ?_
            rintro e w1 ⟨A1, c1, rfl, ho1, hB1⟩
            have hR1 := Lib.hid (Row.of_own ho1)
            have HB1 := Lib.hid hB1
            have hRow1 := Lib.hid ((hRow.out.below hB1).more hB1.size)
            have Hh1 := Lib.hid (fun x => spec_wdHas A1 (inB ss) c1 x w1 hR1.out (by omega))
            have Hh2 := Lib.hid (fun x => spec_wdHas A ss c x w1 hRow1.out (by omega))
            clear ho1 hB1
            go_wp2_with fail
            go_loop [44] (fun v => ∃ i : Nat, i ≤ (inB ss).length ∧ v = .int .i64 i ∧ Hid (fiTo ss i = true)) (fun v => (inB ss).length - (intOf v).toNat)
            case atStart => exact ⟨0, Nat.zero_le _, rfl, rfl⟩
            case round =>
              obtain ⟨i, hi, rfl, hI⟩ := hrel
              by_cases hlt : i < (inB ss).length
              · obtain ⟨b, off, rfl, hb, hcc⟩ := hR1.out (by rw [strs_length]; omega)
                have hlt' : (i : Int) < ((inB ss).length : Int) := by omega
                have c1 := hcc i _ (strs_nth (inB ss) i hlt)
                clear hcc
                have hz := hi8.out i hlt
                have Hs := Lib.hid (Hfs.out i)
                have Hks := Lib.hid (fkTo_succ ss (W.nth (inB ss) i))
                have Hkn := Lib.hid (fun k n h hf => fkTo_no ss (W.nth (inB ss) i) k n h hf)
                generalize W.nth (inB ss) i = s at c1 hz Hs Hks Hkn
                go_wp2_with fail
                go_loop [10] (fun v => ∃ k : Nat, k ≤ L ∧ v = .int .i64 k ∧ Hid (fkTo ss s k = true)) (fun v => L - (intOf v).toNat)
                case atStart => exact ⟨0, Nat.zero_le _, rfl, rfl⟩
                case round =>
                  obtain ⟨k, hk, rfl, hK⟩ := hrel
                  by_cases hlk : k < L
                  · have hlk' : (k : Int) < (L : Int) := by omega
                    have hk3 : (k : Int) < 3 := by omega
                    have hk3' : k < 3 := by omega
                    have hz1 : (s.size : Int) ≤ 8388608 := by omega
                    have hkd : kid s k = s ++ (⟨#[97, 98, 99]⟩ : ByteArray).extract k (k + 1) := rfl
                    have hk1 := Hks.out k
                    have g1 := Hh1.out (kid s k)
                    have g2 := Hh2.out (kid s k)
                    rw [hkd] at g1 g2 hk1
                    rw [hK.out, Bool.true_and] at hk1
                    cases e1 : hasB (inB ss) (s ++ (⟨#[97, 98, 99]⟩ : ByteArray).extract k (k + 1))
                    · rw [e1] at g1 hk1
                      replace g1 := Lib.hid g1
                      cases e2 : hasB ss (s ++ (⟨#[97, 98, 99]⟩ : ByteArray).extract k (k + 1))
                      · rw [e2] at g2 hk1
                        replace g2 := Lib.hid g2
                        have hno : fullC ss = false := by
                          rw [HC.out]
                          exact Hfn.out (i + 1) hlt (by rw [Hs.out, Hkn.out (k + 1) L hlk hk1]; simp)
                        have hr := Lib.hid (Hr.out false hno)
                        clear hk1 e1 e2 hno hkd
                        go_wp2_with fail
                        refine g1.out.mono ?_
                        rintro e w' ⟨rfl, rfl⟩
                        go_wp2_with fail
                        refine g2.out.mono ?_
                        rintro e w' ⟨rfl, rfl⟩
                        go_wp2_with fail
                        go_ret2
                        exact ⟨by rw [hr.out.1, hr.out.2]; rfl, HB1.out⟩
                      · rw [e2] at g2 hk1
                        replace g2 := Lib.hid g2
                        have hN : Hid (fkTo ss s (k + 1) = true) := hk1
                        clear hk1 e1 e2 hkd
                        go_wp2_with fail
                        refine g1.out.mono ?_
                        rintro e w' ⟨rfl, rfl⟩
                        go_wp2_with fail
                        refine g2.out.mono ?_
                        rintro e w' ⟨rfl, rfl⟩
                        go_wp2_with fail
                        go_round
                        case rel => exact ⟨k + 1, by omega, by go_num, hN⟩
                        case measure => simp [intOf]; omega
                    · rw [e1] at g1 hk1
                      replace g1 := Lib.hid g1
                      have hN : Hid (fkTo ss s (k + 1) = true) := hk1
                      clear hk1 e1 hkd g2
                      go_wp2_with fail
                      refine g1.out.mono ?_
                      rintro e w' ⟨rfl, rfl⟩
                      go_wp2_with fail
                      go_round
                      case rel => exact ⟨k + 1, by omega, by go_num, hN⟩
                      case measure => simp [intOf]; omega
                  · obtain rfl : k = L := by omega
                    have hN : Hid (fiTo ss (i + 1) = true) := by show _ = _; rw [Hs.out, hI.out, hK.out]; rfl
                    go_wp2_with fail
                    go_round
                    case rel => exact ⟨i + 1, by omega, by go_num, hN⟩
                    case measure => simp [intOf]; omega
              · obtain rfl : i = (inB ss).length := by omega
                have hr := Lib.hid (Hr.out true (by rw [HC.out]; exact hI.out))
                go_wp2_with fail
                go_ret2
                exact ⟨by rw [hr.out.1, hr.out.2]; rfl, HB1.out⟩
    · have hno : stOk ss = false := by unfold stOk; rw [decide_eq_false h0]; simp
      rw [slN_no hno, hno]
      obtain rfl : ss = [] := List.eq_nil_of_length_eq_zero (by omega)
      clear h hs hq hno
      go_enter Tryz.func23, Tryz.ntmps23
      go_wp2_with fail
      refine hc.out.mono ?_
      rintro e w' ⟨rfl, rfl⟩
      go_wp2_with fail
      go_ret2
      exact ⟨rfl, Below.refl _ _⟩
set_option maxHeartbeats 800000 in
theorem spec_syFind (A : Option Addr) (ss : List ByteArray) (c : Nat) (s : ByteArray) (w : World) (h : Row w w.heap.size A (strs ss)) (hl : ss.length ≤ 1048576) :
    Calls Tryz.prog 68 #[.slice A ss.length c, .string s] w fun e w' => e = .returned (.int .i64 ((fdx ss s : Nat) : Int)) ∧ w = w' := by
  replace h := Lib.hid h
  have Hyes := Lib.hid (fun k (hk : k < ss.length) (e : W.nth ss k = s) (hn : ∀ j, j < k → W.nth ss j ≠ s) => fdx_hit hk e hn)
  have Hno := Lib.hid (fun (hn : ∀ j, j < ss.length → W.nth ss j ≠ s) => fdx_none hn)
  generalize fdx ss s = r at Hyes Hno ⊢
  go_enter Tryz.func68, Tryz.ntmps68
  go_wp2
  go_loop [9] (fun i => ∃ k : Nat, k ≤ ss.length ∧ i = .int .i64 k ∧ Hid (∀ j, j < k → W.nth ss j ≠ s)) (fun i => ss.length - (intOf i).toNat)
  case atStart => exact ⟨0, Nat.zero_le _, rfl, fun j hj => absurd hj (Nat.not_lt_zero _)⟩
  case round =>
    obtain ⟨k, hk, rfl, hno⟩ := hrel
    by_cases hlt : k < ss.length
    · obtain ⟨b, off, rfl, hb, hcc⟩ := h.out (by rw [strs_length]; omega)
      have hlt' : (k : Int) < (ss.length : Int) := by omega
      have c1 := hcc k _ (strs_nth ss k hlt)
      clear hcc
      have Hy := Lib.hid (fun e => Hyes.out k hlt e hno.out)
      have Hk2 := Lib.hid (show W.nth ss k ≠ s → ∀ j, j < k + 1 → W.nth ss j ≠ s from fun e j hj => by
        by_cases e2 : j = k
        · subst e2; exact e
        · exact hno.out j (by omega))
      generalize W.nth ss k = t at c1 Hy Hk2
      by_cases heq : t = s
      · have hr := Hy.out heq
        have heq' : (t.toList == s.toList) = true := by rw [heq]; exact beq_self_eq_true _
        subst hr
        clear heq Hy Hk2
        go_wp2
        go_ret
        exact ⟨rfl, rfl⟩
      · have heq' : (t.toList == s.toList) = false := by rw [toList_eq]; exact decide_eq_false heq
        have Hk3 : Hid (∀ j, j < k + 1 → W.nth ss j ≠ s) := Hk2.out heq
        clear heq Hy Hk2
        go_wp2
        go_round
        case rel => exact ⟨k + 1, by omega, by go_num, Hk3⟩
        case measure => simp [intOf]; omega
    · obtain rfl : k = ss.length := by omega
      have hr := Hno.out hno.out
      subst hr
      go_wp2
      go_ret
      exact ⟨rfl, rfl⟩
end Go.Proofs.YtgnehobhbioehaaGreatDoor
