/-
  WHAT THIS FILE PROVES: words behind a word of a prefix set: the specification's function gives the plain one's set; asked: slices of texts in memory, lengths that an int holds and no more than the capacities.
-/
import Derived.Test.YtojcnalgjeojdaaDoorPb
import Derived.Test.YtojcnalgjeojdaaDoorIsPfx
import Derived.Test.YtojcnalgjeojdaaDoorMemS
import Derived.BigQuiet
namespace Go.Proofs.YtojcnalgjeojdaaDoor
open Go.RowKit Go.Shelf

set_option maxHeartbeats 6400000 in
theorem spec_PutBehind (A : Option Addr) (ss : List ByteArray) (c : Nat) (n : Int) (A' : Option Addr) (os : List ByteArray) (c' : Nat) (w : World) (h : Row w w.heap.size A (strs ss)) (hcap : ss.length ≤ c) (hl : ss.length ≤ 9223372036854775807) (hs : ∀ s ∈ ss, s.size ≤ 9223372036854775807) (_hna : -9223372036854775808 ≤ n) (_hnb : n ≤ 9223372036854775807)
    (h' : Row w w.heap.size A' (strs os)) (hcap' : os.length ≤ c') (hl' : os.length ≤ 9223372036854775807) (hs' : ∀ s ∈ os, s.size ≤ 9223372036854775807) :
    Calls Tryd.prog 20 #[.slice A ss.length c, .int .i64 n, .slice A' os.length c'] w (OkStrs w (pbOf ss n os) (pbOk ss n os)) := by
  have hc := spec_wdSet A ss c w h hl hs
  have hc' := spec_wdSet A' os c' w h' hl' hs'
  cases hq : W.isSet ss
  · obtain ⟨e1, e2⟩ := pb_no (n := n) (os := os) (show pbAsk ss n os = false by unfold pbAsk; rw [hq]; rfl)
    rw [e1, e2]
    rw [hq] at hc
    replace hc := Lib.hid hc
    clear e1 e2 hq h h' hs hs' hc'
    go_enter Tryd.func20, Tryd.ntmps20
    go_wp2_with fail
    refine hc.out.mono ?_
    rintro e w' ⟨rfl, rfl⟩
    go_wp2_with fail
    go_ret2
    exact okStrs_nil _ _ _ (Below.refl _ _)
  · rw [hq] at hc
    replace hc := Lib.hid hc
    cases hq' : W.isSet os
    · obtain ⟨e1, e2⟩ := pb_no (n := n) (ss := ss) (show pbAsk ss n os = false by unfold pbAsk; rw [hq']; simp)
      rw [e1, e2]
      rw [hq'] at hc'
      replace hc' := Lib.hid hc'
      clear e1 e2 hq hq' h h' hs hs'
      go_enter Tryd.func20, Tryd.ntmps20
      go_wp2_with fail
      refine hc.out.mono ?_
      rintro e w' ⟨rfl, rfl⟩
      go_wp2_with fail
      refine hc'.out.mono ?_
      rintro e w' ⟨rfl, rfl⟩
      go_wp2_with fail
      go_ret2
      exact okStrs_nil _ _ _ (Below.refl _ _)
    · rw [hq'] at hc'
      replace hc' := Lib.hid hc'
      have hk := spec_krPrefix A ss c w h hq hcap
      have hk' := spec_krPrefix A' os c' w h' hq' hcap'
      cases hp : pfxB ss
      · obtain ⟨e1, e2⟩ := pb_no (n := n) (os := os) (show pbAsk ss n os = false by unfold pbAsk; rw [hp]; simp)
        rw [e1, e2]
        rw [hp] at hk
        replace hk := Lib.hid hk
        clear e1 e2 hq hq' hp h h' hs hs' hk'
        go_enter Tryd.func20, Tryd.ntmps20
        go_wp2_with fail
        refine hc.out.mono ?_
        rintro e w' ⟨rfl, rfl⟩
        go_wp2_with fail
        refine hc'.out.mono ?_
        rintro e w' ⟨rfl, rfl⟩
        go_wp2_with fail
        refine hk.out.mono ?_
        rintro e w' ⟨rfl, rfl⟩
        go_wp2_with fail
        go_ret2
        exact okStrs_nil _ _ _ (Below.refl _ _)
      · rw [hp] at hk
        replace hk := Lib.hid hk
        cases hp' : pfxB os
        · obtain ⟨e1, e2⟩ := pb_no (n := n) (ss := ss) (show pbAsk ss n os = false by unfold pbAsk; rw [hp']; simp)
          rw [e1, e2]
          rw [hp'] at hk'
          replace hk' := Lib.hid hk'
          clear e1 e2 hq hq' hp hp' h h' hs hs'
          go_enter Tryd.func20, Tryd.ntmps20
          go_wp2_with fail
          refine hc.out.mono ?_
          rintro e w' ⟨rfl, rfl⟩
          go_wp2_with fail
          refine hc'.out.mono ?_
          rintro e w' ⟨rfl, rfl⟩
          go_wp2_with fail
          refine hk.out.mono ?_
          rintro e w' ⟨rfl, rfl⟩
          go_wp2_with fail
          refine hk'.out.mono ?_
          rintro e w' ⟨rfl, rfl⟩
          go_wp2_with fail
          go_ret2
          exact okStrs_nil _ _ _ (Below.refl _ _)
        · rw [hp'] at hk'
          replace hk' := Lib.hid hk'
          have h12 := W.isSet_len ss hq
          have h12' := W.isSet_len os hq'
          have hin := fun W => spec_l1In n 0 ((ss.length : Int) - 1) W
          by_cases hn : 0 ≤ n ∧ n < ss.length
          · obtain ⟨e1, e2⟩ := pb_yes (show pbAsk ss n os = true by unfold pbAsk; rw [hq, hq', hp, hp', decide_eq_true hn]; rfl)
            rw [e1, e2]
            rw [decide_eq_true (show (0 : Int) ≤ n ∧ n ≤ (ss.length : Int) - 1 by omega)] at hin
            replace hin := Lib.hid hin
            obtain ⟨m, rfl⟩ := Int.eq_ofNat_of_zero_le hn.1
            rw [Int.toNat_natCast]
            have hmn : m < ss.length := by omega
            obtain ⟨q1, q2⟩ := an_mem (pb_mem ss m os hmn)
            rw [← q1, ← q2]
            have Hlen := Lib.hid (fun k => pbTo_len ss m os h12' k)
            have Hsz := Lib.hid (pbTo_size (short_le2 hq) (short_le2 hq') m ss.length (Nat.le_refl _))
            have Hs8 := Lib.hid (And.intro (short_le2 hq) (short_le2 hq'))
            have Hrow := Lib.hid h
            have Hrow' := Lib.hid h'
            clear e1 e2 q1 q2 hq hq' hp hp' h h' hs hs'
            go_enter Tryd.func20, Tryd.ntmps20
            go_wp2_with fail
            refine hc.out.mono ?_
            rintro e w' ⟨rfl, rfl⟩
            go_wp2_with fail
            refine hc'.out.mono ?_
            rintro e w' ⟨rfl, rfl⟩
            go_wp2_with fail
            refine hk.out.mono ?_
            rintro e w' ⟨rfl, rfl⟩
            go_wp2_with fail
            refine hk'.out.mono ?_
            rintro e w' ⟨rfl, rfl⟩
            go_wp2_with fail
            refine (hin.out _).mono ?_
            rintro e w' ⟨rfl, rfl⟩
            go_wp2_with fail
            go_loopw [8, 41] (fun v i wr => ∃ (k : Nat) (acc : List ByteArray), acc = pbTo ss m os k ∧ k ≤ ss.length ∧ i = .int .i64 k ∧ wr.ownsRow w.heap.size 9 1 v (ordB acc).length (strs (ordB acc)) ∧ Below w.heap.size w wr)
              (fun _ i _ => ss.length - (intOf i).toNat)
            case atStart => exact ⟨0, [], rfl, Nat.zero_le _, rfl, World.ownsRow_nil _ _ _ _, Below.refl _ _⟩
            case round =>
              obtain ⟨k, acc, hacc, hk1, rfl, ho, hB⟩ := hrel
              obtain ⟨Ar, cr, rfl⟩ := own_slice ho
              have hO := Lib.hid (And.intro ho hB)
              clear ho hB
              by_cases hlt : k < ss.length
              · obtain ⟨b, off, rfl, hb, hcc⟩ := Hrow.out (by rw [strs_length]; omega)
                have hlt' : (k : Int) < (ss.length : Int) := by omega
                have c1 := (hO.out.2.cell (p := ⟨b, off + k, none⟩) hb).trans (hcc k _ (strs_nth ss k hlt))
                clear hcc
                have hal := Hlen.out k
                rw [← hacc] at hal
                have hol := ord_length acc
                have hs8 : (W.nth ss k).size ≤ 8 := by rw [W.nth_lt ss k hlt]; exact Hs8.out.1 _ (List.getElem_mem hlt)
                have hs := Lib.hid (show pbTo ss m os (k + 1) = acc ++ pbRow ss m os k by rw [pbTo_succ, hacc])
                clear hacc
                by_cases hkm : k = m
                · subst hkm
                  have hkm' : ((k : Int) != (k : Int)) = false := by simp
                  have hrw := Lib.hid (pbRow_yes ss k os)
                  generalize W.nth ss k = s at c1 hs8 hrw
                  go_wp2_with fail
                  go_loopw [8, 54] (fun v i wr => ∃ (j : Nat) (a2 : List ByteArray), a2 = acc ++ bef s (os.take j) ∧ j ≤ os.length ∧ i = .int .i64 j ∧ wr.ownsRow w.heap.size 9 1 v (ordB a2).length (strs (ordB a2)) ∧ Below w.heap.size w wr)
                    (fun _ i _ => os.length - (intOf i).toNat)
                  case atStart => exact ⟨0, acc, by simp [bef], Nat.zero_le _, rfl, hO.out.1, hO.out.2⟩
                  case round =>
                    clear hO
                    obtain ⟨j, a2, ha2, hj1, rfl, ho, hB⟩ := hrel
                    obtain ⟨Ar, cr, rfl⟩ := own_slice ho
                    have hO := Lib.hid (And.intro ho hB)
                    clear ho hB
                    by_cases hlj : j < os.length
                    · obtain ⟨b2, off2, rfl, hb2, hcc⟩ := Hrow'.out (by rw [strs_length]; omega)
                      have hlj' : (j : Int) < (os.length : Int) := by omega
                      have c2 := (hO.out.2.cell (p := ⟨b2, off2 + j, none⟩) hb2).trans (hcc j _ (strs_nth os j hlj))
                      clear hcc
                      have ht8 : (W.nth os j).size ≤ 8 := by rw [W.nth_lt os j hlj]; exact Hs8.out.2 _ (List.getElem_mem hlj)
                      have he := Lib.hid (show a2 ++ [s ++ W.nth os j] = acc ++ bef s (os.take (j + 1)) by rw [bef_succ s os j hlj, ← List.append_assoc, ha2])
                      have hal2 : a2.length ≤ 12 * k + j := by rw [ha2, List.length_append, bef_length, List.length_take]; omega
                      have hol2 := ord_length a2
                      have ho2 := Lib.hid (ord_snoc a2 (s ++ W.nth os j))
                      clear ha2
                      generalize W.nth os j = t at c2 ht8 he ho2
                      have h1 : (s.size : Int) ≤ 8388608 := by omega
                      have h2 : (t.size : Int) ≤ 8388608 := by omega
                      have hput := Lib.hid (spec_wdPut w.heap.size Ar (ordB a2) cr (s ++ t) wr hO.out.1 hO.out.2.size (by omega))
                      rw [← ho2.out] at hput
                      generalize a2 ++ [s ++ t] = a3 at he hput
                      generalize ordB a2 = x2 at hO hput hol2
                      go_wp2_with (go_at_call 47; refine hput.out.mono ?_; rintro e w2 ⟨A2, c2, rfl, ho2, hB2⟩)
                      have hO2 := Lib.hid (And.intro ho2 hB2)
                      clear ho2 hB2
                      go_roundw
                      case rel => exact ⟨j + 1, a3, he.out, by omega, by go_num, hO2.out.1, hO.out.2.trans (hO2.out.2.mono hO.out.2.size)⟩
                      case measure => simp [intOf]; omega
                    · obtain rfl : j = os.length := by omega
                      rw [List.take_length] at ha2
                      have he := Lib.hid (show a2 = pbTo ss k os (k + 1) by rw [hs.out, hrw.out, ha2])
                      clear ha2
                      go_wp2
                      go_roundw
                      case rel => exact ⟨k + 1, a2, he.out, by omega, by go_num, hO.out.1, hO.out.2⟩
                      case measure => simp [intOf]; omega
                · have hkm' : ((k : Int) != (m : Int)) = true := bne_iff_ne.2 (by omega)
                  have he := Lib.hid (show acc ++ [W.nth ss k] = pbTo ss m os (k + 1) by rw [hs.out, pbRow_no ss os hkm])
                  have ho2 := Lib.hid (ord_snoc acc (W.nth ss k))
                  generalize W.nth ss k = s at c1 hs8 he ho2
                  have hput := Lib.hid (spec_wdPut w.heap.size Ar (ordB acc) cr s wr hO.out.1 hO.out.2.size (by omega))
                  rw [← ho2.out] at hput
                  generalize acc ++ [s] = a3 at he hput
                  generalize ordB acc = x2 at hO hput hol
                  clear hs ho2
                  go_wp2_with (go_at_call 47; refine hput.out.mono ?_; rintro e w2 ⟨A2, c2, rfl, ho2, hB2⟩)
                  have hO2 := Lib.hid (And.intro ho2 hB2)
                  clear ho2 hB2
                  go_roundw
                  case rel => exact ⟨k + 1, a3, he.out, by omega, by go_num, hO2.out.1, hO.out.2.trans (hO2.out.2.mono hO.out.2.size)⟩
                  case measure => simp [intOf]; omega
              · obtain rfl : k = ss.length := by omega
                have hal := Hlen.out ss.length
                rw [← hacc] at Hsz hal
                have Hac := Lib.hid hacc
                have Hif := Lib.hid (spec_wdIf_any Ar acc cr wr w.heap.size hO.out.1 (by omega) (fun x hx => by have := Hsz.out x hx; omega))
                have HB := Lib.hid hO.out.2
                clear hO hacc
                generalize ordB acc = ac2 at Hif
                go_wp2_with (go_at_call 48; refine Hif.out.mono ?_; rintro e w2 ⟨v, rfl, ho2, rfl⟩)
                have HO2 := Lib.hid ho2
                clear ho2
                go_ret2
                rw [← Hac.out]
                exact okStrs_of HO2.out rfl HB.out
          · obtain ⟨e1, e2⟩ := pb_no (show pbAsk ss n os = false by unfold pbAsk; rw [decide_eq_false hn]; simp)
            rw [e1, e2]
            rw [decide_eq_false (show ¬ ((0 : Int) ≤ n ∧ n ≤ (ss.length : Int) - 1) by omega)] at hin
            replace hin := Lib.hid hin
            clear e1 e2 hq hq' hp hp' h h' hs hs'
            go_enter Tryd.func20, Tryd.ntmps20
            go_wp2_with fail
            refine hc.out.mono ?_
            rintro e w' ⟨rfl, rfl⟩
            go_wp2_with fail
            refine hc'.out.mono ?_
            rintro e w' ⟨rfl, rfl⟩
            go_wp2_with fail
            refine hk.out.mono ?_
            rintro e w' ⟨rfl, rfl⟩
            go_wp2_with fail
            refine hk'.out.mono ?_
            rintro e w' ⟨rfl, rfl⟩
            go_wp2_with fail
            refine (hin.out _).mono ?_
            rintro e w' ⟨rfl, rfl⟩
            go_wp2_with fail
            go_ret2
            exact okStrs_nil _ _ _ (Below.refl _ _)
end Go.Proofs.YtojcnalgjeojdaaDoor
