/-
  WHAT THIS FILE PROVES: the states of a complete prefix set and where letters lead from them: the specification's functions give the plain ones; asked: a slice of texts in memory, lengths that an int holds.
  And: where words lead from states, one by one and all together: the specification's functions give the plain ones; asked: a table in memory, words of its letters.
-/
import Derived.Test.YtlapmjligdjniaaGreatDoorStpM
import Derived.Test.YtlapmjligdjniaaGreatDoorInnS
import Derived.Test.YtlapmjligdjniaaGreatDoorIsPfx
import Derived.Test.YtlapmjligdjniaaGreatDoorKrS
import Derived.Deep.QuietTactic
import Derived.BigQuiet
import Derived.Laws.BitsAllLaws
namespace Go.Proofs.YtlapmjligdjniaaGreatDoor
open Go.RowKit Go.Shelf

/-- how many letters a complete prefix set has -/
def slN (ss : List ByteArray) : Nat := if stOk ss then ltrs ss else 0
theorem slN_no {ss : List ByteArray} (h : stOk ss = false) : slN ss = 0 := by unfold slN; rw [h]; rfl
theorem slN_yes {ss : List ByteArray} (h : stOk ss = true) : slN ss = ltrs ss := by unfold slN; rw [h]; rfl
set_option maxHeartbeats 6400000 in
set_option maxRecDepth 100000 in
theorem spec_syLetters (A : Option Addr) (ss : List ByteArray) (c : Nat) (w : World) (h : Row w w.heap.size A (strs ss)) (hcap : ss.length ≤ c) (hl : ss.length ≤ 9223372036854775807) (hs : ∀ s ∈ ss, s.size ≤ 9223372036854775807) :
    Calls Tryz.prog 23 #[.slice A ss.length c] w fun e w' => e = .returned (.tuple #[.int .i64 ((slN ss : Nat) : Int), .bool (stOk ss)]) ∧ Below w.heap.size w w' := by
  have hc := spec_wdSet A ss c w h hl hs
  cases hq : W.isSet ss
  · have hno : stOk ss = false := by unfold stOk; rw [hq]; rfl
    rw [slN_no hno, hno]
    rw [hq] at hc
    replace hc := Lib.hid hc
    clear h hs hq hno
    go_enter Tryz.func23, Tryz.ntmps23
    go_wp2_with fail
    refine hc.out.mono ?_
    rintro e w' ⟨rfl, rfl⟩
    go_wp2_with fail
    go_ret2
    exact ⟨rfl, Below.refl _ _⟩
  · rw [hq] at hc
    replace hc := Lib.hid hc
    have h12 := W.isSet_len ss hq
    by_cases h0 : 0 < ss.length
    · have h0' : ((ss.length : Int) == 0) = false := beq_eq_false_iff_ne.2 (by omega)
      have h12' : ¬ (12 : Int) < (ss.length : Int) := by omega
      have hkp := spec_krPrefix A ss c w h hq hcap
      cases hp : pfxB ss
      · have hno : stOk ss = false := by unfold stOk; rw [hp]; simp
        rw [slN_no hno, hno]
        rw [hp] at hkp
        replace hkp := Lib.hid hkp
        clear h hs hq hno hp
        go_enter Tryz.func23, Tryz.ntmps23
        go_wp2_with fail
        refine hc.out.mono ?_
        rintro e w' ⟨rfl, rfl⟩
        go_wp2_with fail
        refine hkp.out.mono ?_
        rintro e w' ⟨rfl, rfl⟩
        go_wp2_with fail
        go_ret2
        exact ⟨rfl, Below.refl _ _⟩
      · have hst : stOk ss = fullC ss := by unfold stOk; rw [hq, decide_eq_true h0, hp]; rfl
        rw [hp] at hkp
        replace hkp := Lib.hid hkp
        have Hr : Hid (∀ r, fullC ss = r → (((slN ss : Nat) : Int) = (if r then ((ltrs ss : Nat) : Int) else 0)) ∧ stOk ss = r) := fun r hr => by
          have h2 : stOk ss = r := hst.trans hr
          refine ⟨?_, h2⟩
          unfold slN
          rw [h2]
          cases r <;> rfl
        have HC := Lib.hid (show fullC ss = fiTo ss (inB ss).length from rfl)
        have Hfn := Lib.hid (fun k hk hf => fiTo_no ss k (inB ss).length hk hf)
        have Hfs := Lib.hid (fiTo_succ ss)
        have hin := Lib.hid (spec_pfInner A ss c w h hq)
        have hil := inB_len hq
        have hi8 := Lib.hid (fun i hi => show (W.nth (inB ss) i).size ≤ 8 from by rw [W.nth_lt _ i hi]; exact inB_size2 hq _ (List.getElem_mem hi))
        have Hsz := Lib.hid (fun k hk => W.short_size _ (W.isSet_short ss hq k hk))
        have Hkw := Lib.hid (fun k (hk : k < ss.length) => spec_krWord (W.nth ss k) 2 w (by have := (W.short_size _ (W.isSet_short ss hq k hk)).2; omega) (by
          have := W.isSet_short ss hq k hk
          unfold W.short at this
          simp only [Bool.and_eq_true] at this
          exact this.2))
        have Hls := Lib.hid (fun k hk => ltrs_succ ss k hk)
        have Hl2 := Lib.hid (ltrs_two ss)
        have Hlt := Lib.hid (fun k => ltrs_two (ss.take k))
        have Hall : Hid (ltrs (ss.take ss.length) = ltrs ss) := by show _ = _; rw [List.take_length]
        have hRow := Lib.hid h
        clear h hs hq hp hst
        go_enter Tryz.func23, Tryz.ntmps23
        go_wp2_with fail
        refine hc.out.mono ?_
        rintro e w' ⟨rfl, rfl⟩
        go_wp2_with fail
        refine hkp.out.mono ?_
        rintro e w' ⟨rfl, rfl⟩
        go_wp2_with fail
        go_loop [4, 32] (fun lv i => ∃ k : Nat, k ≤ ss.length ∧ i = .int .i64 k ∧ lv = .int .i64 ((ltrs (ss.take k) : Nat) : Int)) (fun _ i => ss.length - (intOf i).toNat)
        case atStart => exact ⟨0, Nat.zero_le _, rfl, rfl⟩
        case round =>
          obtain ⟨k, hk, rfl, rfl⟩ := hrel
          by_cases hlt : k < ss.length
          · obtain ⟨b, off, rfl, hb, hcc⟩ := hRow.out (by rw [strs_length]; omega)
            have hlt' : (k : Int) < (ss.length : Int) := by omega
            have c1 := hcc k _ (strs_nth ss k hlt)
            clear hcc
            have hs := Hls.out k hlt
            have hkw := Hkw.out k hlt
            generalize ltrs (ss.take k) = x at hs ⊢
            generalize W.nth ss k = s at c1 hs hkw
            cases hd : W.krWd 2 s.data.toList
            · rw [hd] at hs hkw
              have hs2 := Lib.hid (show ltrs (ss.take (k + 1)) = 3 from hs)
              replace hkw := Lib.hid hkw
              clear hs hd
              go_wp2_with fail
              refine hkw.out.mono ?_
              rintro e w' ⟨rfl, rfl⟩
              go_wp2_with fail
              go_round
              case rel => exact ⟨k + 1, by omega, by go_num, by rw [hs2.out]; rfl⟩
              case measure => simp [intOf]; omega
            · rw [hd] at hs hkw
              have hs2 := Lib.hid (show ltrs (ss.take (k + 1)) = x from hs)
              replace hkw := Lib.hid hkw
              clear hs hd
              go_wp2_with fail
              refine hkw.out.mono ?_
              rintro e w' ⟨rfl, rfl⟩
              go_wp2_with fail
              go_round
              case rel => exact ⟨k + 1, by omega, by go_num, by rw [hs2.out]⟩
              case measure => simp [intOf]; omega
          · obtain rfl : k = ss.length := by omega
            rw [Hall.out]
            generalize ltrs ss = L at *
            have hL3 : L ≤ 3 := by have := Hl2.out; omega
            go_wp2_with fail
            refine hin.out.mono ?_
            rintro e w1 ⟨A1, c1, rfl, ho1, hB1⟩
            have hR1 := Lib.hid (Row.of_own ho1)
            have HB1 := Lib.hid hB1
            have hRow1 := Lib.hid ((hRow.out.below hB1).more hB1.size)
            have Hh1 := Lib.hid (fun x => spec_wdHas A1 (inB ss) c1 x w1 hR1.out (by omega))
            have Hh2 := Lib.hid (fun x => spec_wdHas A ss c x w1 hRow1.out (by omega))
            clear ho1 hB1
            go_wp2_with fail
            go_loop [44] (fun v => ∃ i : Nat, i ≤ (inB ss).length ∧ v = .int .i64 i ∧ Hid (fiTo ss i = true)) (fun v => (inB ss).length - (intOf v).toNat)
            case atStart => exact ⟨0, Nat.zero_le _, rfl, rfl⟩
            case round =>
              obtain ⟨i, hi, rfl, hI⟩ := hrel
              by_cases hlt : i < (inB ss).length
              · obtain ⟨b, off, rfl, hb, hcc⟩ := hR1.out (by rw [strs_length]; omega)
                have hlt' : (i : Int) < ((inB ss).length : Int) := by omega
                have c1 := hcc i _ (strs_nth (inB ss) i hlt)
                clear hcc
                have hz := hi8.out i hlt
                have Hs := Lib.hid (Hfs.out i)
                have Hks := Lib.hid (fkTo_succ ss (W.nth (inB ss) i))
                have Hkn := Lib.hid (fun k n h hf => fkTo_no ss (W.nth (inB ss) i) k n h hf)
                generalize W.nth (inB ss) i = s at c1 hz Hs Hks Hkn
                go_wp2_with fail
                go_loop [10] (fun v => ∃ k : Nat, k ≤ L ∧ v = .int .i64 k ∧ Hid (fkTo ss s k = true)) (fun v => L - (intOf v).toNat)
                case atStart => exact ⟨0, Nat.zero_le _, rfl, rfl⟩
                case round =>
                  obtain ⟨k, hk, rfl, hK⟩ := hrel
                  by_cases hlk : k < L
                  · have hlk' : (k : Int) < (L : Int) := by omega
                    have hk3 : (k : Int) < 3 := by omega
                    have hk3' : k < 3 := by omega
                    have hz1 : (s.size : Int) ≤ 8388608 := by omega
                    have hkd : kid s k = s ++ (⟨#[97, 98, 99]⟩ : ByteArray).extract k (k + 1) := rfl
                    have hk1 := Hks.out k
                    have g1 := Hh1.out (kid s k)
                    have g2 := Hh2.out (kid s k)
                    rw [hkd] at g1 g2 hk1
                    rw [hK.out, Bool.true_and] at hk1
                    cases e1 : hasB (inB ss) (s ++ (⟨#[97, 98, 99]⟩ : ByteArray).extract k (k + 1))
                    · rw [e1] at g1 hk1
                      replace g1 := Lib.hid g1
                      cases e2 : hasB ss (s ++ (⟨#[97, 98, 99]⟩ : ByteArray).extract k (k + 1))
                      · rw [e2] at g2 hk1
                        replace g2 := Lib.hid g2
                        have hno : fullC ss = false := by
                          rw [HC.out]
                          exact Hfn.out (i + 1) hlt (by rw [Hs.out, Hkn.out (k + 1) L hlk hk1]; simp)
                        have hr := Lib.hid (Hr.out false hno)
                        clear hk1 e1 e2 hno hkd
                        go_wp2_with fail
                        refine g1.out.mono ?_
                        rintro e w' ⟨rfl, rfl⟩
                        go_wp2_with fail
                        refine g2.out.mono ?_
                        rintro e w' ⟨rfl, rfl⟩
                        go_wp2_with fail
                        go_ret2
                        exact ⟨by rw [hr.out.1, hr.out.2]; rfl, HB1.out⟩
                      · rw [e2] at g2 hk1
                        replace g2 := Lib.hid g2
                        have hN : Hid (fkTo ss s (k + 1) = true) := hk1
                        clear hk1 e1 e2 hkd
                        go_wp2_with fail
                        refine g1.out.mono ?_
                        rintro e w' ⟨rfl, rfl⟩
                        go_wp2_with fail
                        refine g2.out.mono ?_
                        rintro e w' ⟨rfl, rfl⟩
                        go_wp2_with fail
                        go_round
                        case rel => exact ⟨k + 1, by omega, by go_num, hN⟩
                        case measure => simp [intOf]; omega
                    · rw [e1] at g1 hk1
                      replace g1 := Lib.hid g1
                      have hN : Hid (fkTo ss s (k + 1) = true) := hk1
                      clear hk1 e1 hkd g2
                      go_wp2_with fail
                      refine g1.out.mono ?_
                      rintro e w' ⟨rfl, rfl⟩
                      go_wp2_with fail
                      go_round
                      case rel => exact ⟨k + 1, by omega, by go_num, hN⟩
                      case measure => simp [intOf]; omega
                  · obtain rfl : k = L := by omega
                    have hN : Hid (fiTo ss (i + 1) = true) := by show _ = _; rw [Hs.out, hI.out, hK.out]; rfl
                    go_wp2_with fail
                    go_round
                    case rel => exact ⟨i + 1, by omega, by go_num, hN⟩
                    case measure => simp [intOf]; omega
              · obtain rfl : i = (inB ss).length := by omega
                have hr := Lib.hid (Hr.out true (by rw [HC.out]; exact hI.out))
                go_wp2_with fail
                go_ret2
                exact ⟨by rw [hr.out.1, hr.out.2]; rfl, HB1.out⟩
    · have hno : stOk ss = false := by unfold stOk; rw [decide_eq_false h0]; simp
      rw [slN_no hno, hno]
      obtain rfl : ss = [] := List.eq_nil_of_length_eq_zero (by omega)
      clear h hs hq hno
      go_enter Tryz.func23, Tryz.ntmps23
      go_wp2_with fail
      refine hc.out.mono ?_
      rintro e w' ⟨rfl, rfl⟩
      go_wp2_with fail
      go_ret2
      exact ⟨rfl, Below.refl _ _⟩
set_option maxHeartbeats 800000 in
theorem spec_syFind (A : Option Addr) (ss : List ByteArray) (c : Nat) (s : ByteArray) (w : World) (h : Row w w.heap.size A (strs ss)) (hl : ss.length ≤ 1048576) :
    Calls Tryz.prog 41 #[.slice A ss.length c, .string s] w fun e w' => e = .returned (.int .i64 ((fdx ss s : Nat) : Int)) ∧ w = w' := by
  replace h := Lib.hid h
  have Hyes := Lib.hid (fun k (hk : k < ss.length) (e : W.nth ss k = s) (hn : ∀ j, j < k → W.nth ss j ≠ s) => fdx_hit hk e hn)
  have Hno := Lib.hid (fun (hn : ∀ j, j < ss.length → W.nth ss j ≠ s) => fdx_none hn)
  generalize fdx ss s = r at Hyes Hno ⊢
  go_enter Tryz.func41, Tryz.ntmps41
  go_wp2
  go_loop [9] (fun i => ∃ k : Nat, k ≤ ss.length ∧ i = .int .i64 k ∧ Hid (∀ j, j < k → W.nth ss j ≠ s)) (fun i => ss.length - (intOf i).toNat)
  case atStart => exact ⟨0, Nat.zero_le _, rfl, fun j hj => absurd hj (Nat.not_lt_zero _)⟩
  case round =>
    obtain ⟨k, hk, rfl, hno⟩ := hrel
    by_cases hlt : k < ss.length
    · obtain ⟨b, off, rfl, hb, hcc⟩ := h.out (by rw [strs_length]; omega)
      have hlt' : (k : Int) < (ss.length : Int) := by omega
      have c1 := hcc k _ (strs_nth ss k hlt)
      clear hcc
      have Hy := Lib.hid (fun e => Hyes.out k hlt e hno.out)
      have Hk2 := Lib.hid (show W.nth ss k ≠ s → ∀ j, j < k + 1 → W.nth ss j ≠ s from fun e j hj => by
        by_cases e2 : j = k
        · subst e2; exact e
        · exact hno.out j (by omega))
      generalize W.nth ss k = t at c1 Hy Hk2
      by_cases heq : t = s
      · have hr := Hy.out heq
        have heq' : (t.toList == s.toList) = true := by rw [heq]; exact beq_self_eq_true _
        subst hr
        clear heq Hy Hk2
        go_wp2
        go_ret
        exact ⟨rfl, rfl⟩
      · have heq' : (t.toList == s.toList) = false := by rw [toList_eq]; exact decide_eq_false heq
        have Hk3 : Hid (∀ j, j < k + 1 → W.nth ss j ≠ s) := Hk2.out heq
        clear heq Hy Hk2
        go_wp2
        go_round
        case rel => exact ⟨k + 1, by omega, by go_num, Hk3⟩
        case measure => simp [intOf]; omega
    · obtain rfl : k = ss.length := by omega
      have hr := Hno.out hno.out
      subst hr
      go_wp2
      go_ret
      exact ⟨rfl, rfl⟩
end Go.Proofs.YtlapmjligdjniaaGreatDoor
namespace Go.Proofs.YtlapmjligdjniaaGreatDoor
open Go.RowKit Go.Shelf

theorem ofInt_i64 (a : Nat) (ha : a < 65536) : (BitVec.ofInt 64 (a : Int)).toNat = a := by
  rw [BitVec.ofInt_natCast, BitVec.toNat_ofNat]; exact Nat.mod_eq_of_lt (by omega)
theorem i64_or_nat (a b : Nat) (ha : a < 65536) (hb : b < 65536) : bits .or .i64 (a : Int) (b : Int) = ((a ||| b : Nat) : Int) := by
  have hx : a ||| b < 2 ^ 16 := Nat.or_lt_two_pow (by omega) (by omega)
  show IntKind.i64.wrap ((BitVec.ofInt 64 (a : Int) ||| BitVec.ofInt 64 (b : Int)).toNat : Int) = _
  rw [BitVec.toNat_or, ofInt_i64 a ha, ofInt_i64 b hb]
  exact IntWalk.i64_in _ (by omega)
theorem i64_and_nat (a b : Nat) (ha : a < 65536) (hb : b < 65536) : bits .and .i64 (a : Int) (b : Int) = ((a &&& b : Nat) : Int) := by
  have hx : a &&& b < 2 ^ 16 := Nat.and_lt_two_pow _ (by omega)
  show IntKind.i64.wrap ((BitVec.ofInt 64 (a : Int) &&& BitVec.ofInt 64 (b : Int)).toNat : Int) = _
  rw [BitVec.toNat_and, ofInt_i64 a ha, ofInt_i64 b hb]
  exact IntWalk.i64_in _ (by omega)
theorem krWd_at2 {L : Int} {l : List UInt8} (h : W.krWd L l = true) (k : Nat) (hk : k < l.length) : 97 ≤ l[k].toNat ∧ (l[k].toNat : Int) < 97 + L := by
  have := List.all_eq_true.1 h l[k] (List.getElem_mem hk)
  simpa using this
theorem int_eq0 (z : Nat) : ((z : Int) == 0) = decide (z = 0) := by
  by_cases h : z = 0
  · subst h; rfl
  · rw [decide_eq_false h]; exact beq_eq_false_iff_ne.2 (by omega)
theorem or_bit64 (g x : Nat) (hg : g < 65536) (hx : x < 16) : bits .or .i64 (g : Int) (wrap64 ((2 : Int) ^ x)) = ((g ||| 2 ^ x : Nat) : Int) := by
  have hp : 2 ^ x < 65536 := Nat.pow_lt_pow_right (n := 16) (by omega) hx
  have e : wrap64 ((2 : Int) ^ x) = ((2 ^ x : Nat) : Int) := by
    rw [show ((2 : Int) ^ x) = ((2 ^ x : Nat) : Int) by simp]
    generalize 2 ^ x = p at hp ⊢
    exact IntWalk.wrap64_in _ (by omega)
  rw [e]
  exact i64_or_nat g (2 ^ x) hg hp
theorem pow2_cast (x : Nat) : ((2 : Int) ^ x) = ((2 ^ x : Nat) : Int) := by simp
theorem spec_syOne (g : Nat) (w : World) (h : g < 4096) :
    Calls Tryz.prog 27 #[.int .i64 g] w fun e w' => e = .returned (.bool (oneB g)) ∧ w = w' := by
  by_cases h0 : 0 < g
  · have h0' : (0 : Int) < (g : Int) := by omega
    have hb := i64_and_nat g (g - 1) (by omega) (by omega)
    have hm : (g : Int) - 1 = ((g - 1 : Nat) : Int) := by omega
    go_enter Tryz.func27, Tryz.ntmps27
    have ho : oneB g = decide ((g &&& (g - 1)) = 0) := by unfold oneB; rw [decide_eq_true h0, Bool.true_and]
    rw [ho, ← int_eq0]
    clear ho
    go_wp2_with fail
    go_ret
    exact ⟨rfl, rfl⟩
  · obtain rfl : g = 0 := by omega
    go_enter Tryz.func27, Tryz.ntmps27
    go_wp2_with fail
    go_ret
    exact ⟨rfl, rfl⟩

set_option maxHeartbeats 6400000 in
set_option maxRecDepth 100000 in
theorem spec_syTable (A : Option Addr) (ss : List ByteArray) (c : Nat) (w : World) (h : Row w w.heap.size A (strs ss)) (hq : W.isSet ss = true) :
    Calls Tryz.prog 26 #[.slice A ss.length c, .int .i64 ((ltrs ss : Nat) : Int)] w (GivesSS 58 3 w (intss (tab ss (inB ss).length))) := by
  have hin := Lib.hid (spec_pfInner A ss c w h hq)
  have hil := inB_len hq
  have hi8 := Lib.hid (fun i hi => show (W.nth (inB ss) i).size ≤ 8 from by rw [W.nth_lt _ i hi]; exact inB_size2 hq _ (List.getElem_mem hi))
  have Hts := Lib.hid (tab_succ ss)
  have Htl := Lib.hid (tab_len ss)
  have Hrs := Lib.hid (rowT_succ ss)
  have Hrl := Lib.hid (rowT_len ss)
  have Htr := Lib.hid (show ∀ i k, tr ss i k = fdx (inB ss) (kid (W.nth (inB ss) i) k) from fun _ _ => rfl)
  have hL3 : ltrs ss ≤ 3 := by rcases ltrs_two ss with e | e <;> omega
  obtain ⟨i0, hi, hz0, hz1, hz2⟩ := info_parts infoInt
  have HR := Lib.hid (And.intro hi (And.intro hz0 (And.intro hz1 hz2)))
  obtain ⟨i1, hj, hy0, hy1, hy2⟩ := info_parts infoInts2
  have HR2 := Lib.hid (And.intro hj (And.intro hy0 (And.intro hy1 hy2)))
  generalize ltrs ss = L at *
  clear h hq hi hz0 hz1 hz2 hj hy0 hy1 hy2
  go_enter Tryz.func26, Tryz.ntmps26
  go_wp2_with fail
  refine hin.out.mono ?_
  rintro e w1 ⟨A1, cI, rfl, ho1, hB1⟩
  have hR1 := Lib.hid (Row.of_own ho1)
  have HB1 := Lib.hid hB1
  clear ho1 hB1
  go_wp2_with fail
  go_loopw [6, 15] (fun v i wr => ∃ (k : Nat) (vs : List Value), k ≤ (inB ss).length ∧ i = .int .i64 k ∧ Hid (OwnAt wr w1.heap.size 58 3 v vs (intss (tab ss k))) ∧ Hid (Below w1.heap.size w1 wr)) (fun _ i _ => (inB ss).length - (intOf i).toNat)
  case atStart => exact ⟨0, [], Nat.zero_le _, rfl, ownAt_nil _ _ _ _, Below.refl _ _⟩
  case round =>
    obtain ⟨j, vs, hj, rfl, hV, hB5⟩ := hrel
    generalize wr = wk at *
    obtain ⟨Av, cv, rfl⟩ := own_slice hV.out.own
    have hlT : (intss (tab ss j)).length = j := by rw [intss_length, Htl.out]
    rw [hlT] at hV ⊢
    have hszi := hB5.out.size
    by_cases hlj : j < (inB ss).length
    · obtain ⟨b, off, rfl, hb, hcc⟩ := hR1.out (by rw [strs_length]; omega)
      have hlj' : (j : Int) < ((inB ss).length : Int) := by omega
      have c1 := (hB5.out.cell (p := ⟨b, off + j, none⟩) hb).trans (hcc j _ (strs_nth (inB ss) j hlj))
      clear hcc
      have hz := hi8.out j hlj
      have Hs := Lib.hid (Hts.out j)
      have Hr1 := Lib.hid (Hrs.out j)
      have Hr2 := Lib.hid (Hrl.out j)
      have Ht := Lib.hid (Htr.out j)
      generalize W.nth (inB ss) j = s at c1 hz Ht
      have hz1 : (s.size : Int) ≤ 8388608 := by omega
      replace hlT := Lib.hid hlT
      go_wp2_with fail
      go_loopw [9, 10] (fun v x wr => ∃ (k : Nat) (acc : List Int), acc = rowT ss j k ∧ k ≤ L ∧ x = .int .i64 k ∧ wr.ownsRow wk.heap.size 3 1 v acc.length (ints acc) ∧ Below wk.heap.size wk wr) (fun _ x _ => L - (intOf x).toNat)
      case atStart => exact ⟨0, [], rfl, Nat.zero_le _, rfl, World.ownsRow_nil _ _ _ _, Below.refl _ _⟩
      case round =>
        obtain ⟨k, acc, hacc, hk, rfl, ho2, hB2⟩ := hrel
        obtain ⟨Ar, cr, rfl⟩ := own_slice ho2
        have hO2 := Lib.hid (And.intro ho2 hB2)
        have hal : acc.length ≤ k := by rw [hacc, Hr2.out k]; exact Nat.le_refl _
        clear ho2 hB2
        by_cases hlk : k < L
        · have hlk' : (k : Int) < (L : Int) := by omega
          have hk3 : (k : Int) < 3 := by omega
          have hk3' : k < 3 := by omega
          have hkd : kid s k = s ++ (⟨#[97, 98, 99]⟩ : ByteArray).extract k (k + 1) := rfl
          have hBt := hB5.out.trans (hO2.out.2.mono hszi)
          have hf := spec_syFind (some ⟨b, off, none⟩) (inB ss) cI (kid s k) wr ((hR1.out.below hBt).more hBt.size) (by omega)
          rw [← Ht.out k, hkd] at hf
          have he := Lib.hid (show acc ++ [((tr ss j k : Nat) : Int)] = rowT ss j (k + 1) by rw [Hr1.out k, hacc])
          generalize tr ss j k = y at hf he
          replace hf := Lib.hid hf
          clear hacc hBt hkd
          go_wp2_with fail
          refine hf.out.mono ?_
          rintro e w4 ⟨rfl, rfl⟩
          have hsz := hO2.out.2.size
          have hlt4 := Lib.hid hO2.out.1.lt
          go_wp2_with (at_builtin; refine wpList_append_own _ rfl _ _ 58 rfl wk.heap.size 3 i0 (.int .i64 0) 1 8 Tryz.underlying58 HR.out.1 HR.out.2.1 HR.out.2.2.1 HR.out.2.2.2 rfl (by decide) _ _ _ rfl (hO2.out.1.alloc _) ⟨wr.heap.size, 0, none⟩ 1 1 [.int .i64 (y : Int)] rfl rfl (cell_one_new _ _ _) (one_cell _) (by unfold maxLen; omega) (by omega) (by simp; omega) ?_)
          intro v' w6 hown' hgrow _
          have hF6 := Lib.hid (And.intro hown' ((hO2.out.2.alloc hsz _).grown hgrow (by simp; omega) (fun g hg => (hlt4.out g hg).1)))
          clear hown' hgrow hlt4
          go_wp2_with fail
          go_roundw
          case rel =>
            refine ⟨k + 1, acc ++ [(y : Int)], he.out, by omega, by go_num, ?_, hF6.out.2⟩
            rw [ints_snoc, List.length_append]
            exact hF6.out.1
          case measure => simp [intOf]; omega
        · obtain rfl : k = L := by omega
          replace hacc := Lib.hid hacc
          have hV0 := Lib.hid (own_below (hV.out.below hO2.out.2).own ((Below.refl wr.heap.size wr).alloc (Nat.le_refl _) (.cells #[.slice Ar acc.length cr] 58)))
          have hV1 := Lib.hid (show (wr.alloc (.cells #[.slice Ar acc.length cr] 58)).ownsRow w1.heap.size 58 1 (.slice Av j cv) j vs from by have h := hV0.out; rw [hlT.out] at h; exact h)
          have hsz2 := hO2.out.2.size
          go_wp2_with (at_builtin; refine wpList_append_own _ rfl _ _ 33 rfl w1.heap.size 58 i1 (.slice none 0 0) 1 24 Tryz.underlying33 HR2.out.1 HR2.out.2.1 HR2.out.2.2.1 HR2.out.2.2.2 rfl (by decide) (.slice Av j cv) j vs rfl hV1.out ⟨wr.heap.size, 0, none⟩ 1 1 [.slice Ar acc.length cr] rfl rfl (cell_one_new _ _ _) (one_slice2 _ _ _) (by unfold maxLen; omega) (by omega) (by simp; omega) ?_)
          intro v' w6 ho1 hg1 _
          have hBW : Below wk.heap.size wk (wr.alloc (.cells #[.slice Ar acc.length cr] 58)) := hO2.out.2.alloc hsz2 _
          have hP := push_later (base := w1.heap.size) (mid := wk.heap.size) (xss := tab ss j) (xs := acc) rfl hV.out hBW hszi (Nat.le_refl _) (hO2.out.1.alloc _) (by rw [Htl.out]; exact ho1) hg1
          have hB6 : Below w1.heap.size w1 w6 := (hB5.out.trans (hBW.mono hszi)).grown hg1 (by have := hBW.size; omega) (fun g hg => (hV1.out.lt g hg).1)
          have hE : tab ss j ++ [acc] = tab ss (j + 1) := by rw [Hs.out, hacc.out]
          rw [hE] at hP
          have HF := Lib.hid (And.intro hP hB6)
          clear hP hB6 hBW ho1 hg1 hE hacc
          go_wp2_with fail
          go_roundw
          case rel => exact ⟨j + 1, vs ++ [.slice Ar acc.length cr], by omega, by go_num, Lib.hid HF.out.1, Lib.hid HF.out.2⟩
          case measure => simp [intOf]; omega
    · obtain rfl : j = (inB ss).length := by omega
      rw [← hlT]
      go_wp2_with fail
      go_ret
      have h1 : OwnAt wk w1.heap.size 58 3 (.slice Av (intss (tab ss (inB ss).length)).length cv) vs (intss (tab ss (inB ss).length)) := by rw [hlT]; exact hV.out
      exact givesSS_of (base := w.heap.size) ⟨vs, h1.lower HB1.out.size⟩ rfl (HB1.out.trans (hB5.out.mono HB1.out.size))
end Go.Proofs.YtlapmjligdjniaaGreatDoor
