/-
  WHAT THIS FILE PROVES: the least generators behind a step: the specification's function gives the plain list; asked: a slice of texts in memory that is a set.
-/
import Derived.Test.YtlmcemdbalhkiaaDoorHl
import Derived.Test.YtlmcemdbalhkiaaDoorLgS
import Derived.Test.YtlmcemdbalhkiaaDoorMtS
namespace Go.Proofs.YtlmcemdbalhkiaaDoor
open Go.RowKit Go.Shelf

noncomputable def stpL (ss : List ByteArray) : List ByteArray := (stpO ss).getD []
noncomputable def stpB (ss : List ByteArray) : Bool := (stpO ss).isSome
theorem stp_found {ss : List ByteArray} {k : Nat} {x : ByteArray} (h : frO ss = some (k, x)) : stpL ss = lgB (chg ss k x) ∧ stpB ss = true := by
  unfold stpL stpB stpO
  rw [h]
  exact ⟨rfl, rfl⟩
theorem stp_none {ss : List ByteArray} (h : frO ss = none) : stpL ss = [] ∧ stpB ss = false := by
  unfold stpL stpB stpO
  rw [h]
  exact ⟨rfl, rfl⟩
/-- the rests of s behind the words from the index j on -/
def rsFrom (ss : List ByteArray) (s : ByteArray) (j : Nat) : List ByteArray := (ss.drop j).flatMap fun t => restOf t s
theorem rsFrom_step (ss : List ByteArray) (s : ByteArray) (j : Nat) (h : j < ss.length) : rsFrom ss s j = restOf (W.nth ss j) s ++ rsFrom ss s (j + 1) := by
  unfold rsFrom
  rw [List.drop_eq_getElem_cons h, List.flatMap_cons, W.nth_lt ss j h]
theorem rsFrom_end (ss : List ByteArray) (s : ByteArray) : rsFrom ss s ss.length = [] := by
  unfold rsFrom
  rw [List.drop_length]
  rfl
/-- the first l words but for that with the index k -/
def woT (ss : List ByteArray) (k l : Nat) : List ByteArray := if l ≤ k then ss.take l else ss.take k ++ (ss.take l).drop (k + 1)
theorem woT_zero (ss : List ByteArray) (k : Nat) : woT ss k 0 = [] := by unfold woT; simp
theorem woT_skip (ss : List ByteArray) (k : Nat) (h : k < ss.length) : woT ss k (k + 1) = woT ss k k := by
  unfold woT
  rw [if_neg (by omega), if_pos (Nat.le_refl _), List.drop_eq_nil_of_le (by rw [List.length_take]; omega), List.append_nil]
theorem woT_next (ss : List ByteArray) (k l : Nat) (hl : l < ss.length) (h : l ≠ k) : woT ss k (l + 1) = woT ss k l ++ [W.nth ss l] := by
  unfold woT
  rw [W.nth_lt ss l hl]
  rcases Nat.lt_or_ge l k with h1 | h1
  · rw [if_pos (by omega), if_pos (by omega), List.take_succ_eq_append_getElem hl]
  · rw [if_neg (by omega), if_neg (by omega), List.take_succ_eq_append_getElem hl, List.drop_append_of_le_length (by rw [List.length_take]; omega), List.append_assoc]
theorem woT_all (ss : List ByteArray) (k : Nat) (h : k < ss.length) : woT ss k ss.length = wo ss k := by
  unfold woT wo
  rw [if_neg (by omega), List.take_length]
theorem woT_length (ss : List ByteArray) (k l : Nat) (h : l ≤ ss.length) : (woT ss k l).length ≤ l := by
  unfold woT
  split
  · rw [List.length_take]; omega
  · rw [List.length_append, List.length_take, List.length_drop, List.length_take]; omega

set_option maxHeartbeats 6400000 in
set_option maxRecDepth 100000 in
theorem spec_bsStep (A : Option Addr) (ss : List ByteArray) (c : Nat) (w : World) (h : Row w w.heap.size A (strs ss)) (hset : W.isSet ss = true) :
    Calls Tryd.prog 65 #[.slice A ss.length c] w (OkStrs w (stpL ss) (stpB ss)) := by
  have h12 := W.isSet_len ss hset
  have Hset := Lib.hid hset
  obtain ⟨R, hR⟩ : ∃ R, R = stpL ss := ⟨_, rfl⟩
  obtain ⟨ok, hok⟩ : ∃ ok, ok = stpB ss := ⟨_, rfl⟩
  rw [← hR, ← hok]
  replace hR := Lib.hid hR
  replace hok := Lib.hid hok
  replace h := Lib.hid h
  clear hset
  go_enter Tryd.func65, Tryd.ntmps65
  go_wp2
  go_loopw [13] (fun i wr => ∃ k : Nat, k ≤ ss.length ∧ i = .int .i64 k ∧ Hid (frO ss = frFrom ss (ss.length - k) k) ∧ Below w.heap.size w wr)
    (fun i _ => ss.length - (intOf i).toNat)
  case atStart => exact ⟨0, Nat.zero_le _, rfl, (rfl : frO ss = frFrom ss (ss.length - 0) 0), Below.refl _ _⟩
  case round =>
    obtain ⟨k, hk, rfl, hfr, hB⟩ := hrel
    have hO := Lib.hid hB
    clear hB
    generalize wr = wk at hO ⊢
    by_cases hlt : k < ss.length
    · obtain ⟨b, off, rfl, hb, hcc⟩ := h.out (by rw [strs_length]; omega)
      have hlt' : (k : Int) < (ss.length : Int) := by omega
      have c1 := (hO.out.cell (p := ⟨b, off + k, none⟩) hb).trans (hcc k _ (strs_nth ss k hlt))
      replace hcc := Lib.hid hcc
      have hss := Lib.hid (W.isSet_short ss Hset.out k hlt)
      have hat : Hid (frAt ss k = (rsFrom ss (W.nth ss k) 0).find? (mtB ss)) := rfl
      have hfn := Lib.hid (fun (e : frAt ss k = none) => (by
        have h2 := hfr.out
        rw [show ss.length - k = (ss.length - (k + 1)) + 1 by omega, frFrom_none e] at h2
        exact h2 : frO ss = frFrom ss (ss.length - (k + 1)) (k + 1)))
      have hfs := Lib.hid (fun (x : ByteArray) (e : frAt ss k = some x) => (by
        have h2 := hfr.out
        rw [show ss.length - k = (ss.length - (k + 1)) + 1 by omega, frFrom_some e] at h2
        exact h2 : frO ss = some (k, x)))
      obtain ⟨s, hs⟩ : ∃ s, s = W.nth ss k := ⟨_, rfl⟩
      rw [← hs] at c1 hss hat
      replace hs := Lib.hid hs
      have hsz := W.short_size _ hss.out
      clear hfr
      go_wp2_with fail
      go_loopw [20] (fun i wr => ∃ j : Nat, j ≤ ss.length ∧ i = .int .i64 j ∧ Hid (frAt ss k = (rsFrom ss s j).find? (mtB ss)) ∧ Below w.heap.size w wr)
        (fun i _ => ss.length - (intOf i).toNat)
      case atStart => exact ⟨0, Nat.zero_le _, rfl, hat, hO.out⟩
      case round =>
        obtain ⟨j, hj, rfl, hf, hB⟩ := hrel
        have hP := Lib.hid hB
        clear hB hat hO c1
        generalize wr = wl at hP ⊢
        by_cases hltj : j < ss.length
        · have hltj' : (j : Int) < (ss.length : Int) := by omega
          have c2 := (hP.out.cell (p := ⟨b, off + j, none⟩) hb).trans (hcc.out j _ (strs_nth ss j hltj))
          have hts := W.short_size _ (W.isSet_short ss Hset.out j hltj)
          have hstep := Lib.hid (rsFrom_step ss s j hltj)
          have hskip := Lib.hid (fun (e : restOf (W.nth ss j) s = []) => (by
            have h2 := hf.out
            rw [hstep.out, e, List.nil_append] at h2
            exact h2 : frAt ss k = (rsFrom ss s (j + 1)).find? (mtB ss)))
          by_cases hjk : j = k
          · have hn := Lib.hid (hskip.out (by
              rw [hjk, ← hs.out]
              exact restOf_no2 (Nat.le_refl _)))
            have hjk' : ((k : Int) == (j : Int)) = true := by rw [hjk]; simp
            clear hjk hskip hstep hf
            generalize W.nth ss j = t at c2 hts
            go_wp2
            go_roundw
            case rel => exact ⟨j + 1, by omega, by go_num, hn, hP.out⟩
            case measure => simp [intOf]; omega
          · have hjk' : ((k : Int) == (j : Int)) = false := by rw [beq_eq_false_iff_ne]; omega
            have hb1 := fun W' => spec_wdBegins s (W.nth ss j) W'
            have hne : W.nth ss j ≠ s := by
              rw [hs.out]
              intro e
              rcases Nat.lt_or_gt_of_ne hjk with h1 | h1
              · have := isSet_ne Hset.out h1 hlt
                exact this e
              · have := isSet_ne Hset.out h1 hltj
                exact this e.symm
            cases hp : Lib.hasPrefix s.data.toList (W.nth ss j).data.toList
            · rw [hp] at hb1
              replace hb1 := Lib.hid hb1
              have hn := Lib.hid (hskip.out (restOf_no hp))
              clear hjk hp hne hskip hstep hf
              generalize W.nth ss j = t at c2 hts hb1
              go_wp2_with fail
              refine (hb1.out _).mono ?_
              rintro e w1 ⟨rfl, rfl⟩
              go_wp2
              go_roundw
              case rel => exact ⟨j + 1, by omega, by go_num, hn, hP.out⟩
              case measure => simp [intOf]; omega
            · rw [hp] at hb1
              replace hb1 := Lib.hid hb1
              have hle := pre_le hp
              have hlt2 : (W.nth ss j).size < s.size := by
                rcases Nat.lt_or_ge (W.nth ss j).size s.size with h | h
                · exact h
                · exact absurd (pre_eq hp h).symm hne
              have hone := restOf_one hp hlt2
              have hxz := drop_size s (W.nth ss j).size
              have hm := spec_bsMeets (some ⟨b, off, none⟩) ss c (s.extract (W.nth ss j).size s.size) wl ((h.out.below hP.out).more hP.out.size) Hset.out (by omega) (by omega)
              have hxs := Lib.hid (short_drop hss.out (W.nth ss j).size hlt2)
              have hff := hf.out
              rw [hstep.out, hone, List.singleton_append, List.find?_cons] at hff
              have hi1 : ((W.nth ss j).size : Int) ≤ (s.size : Int) := by omega
              clear hp hne hskip hstep hf hone hjk
              generalize W.nth ss j = t at c2 hts hb1 hle hlt2 hxz hm hxs hff hi1
              cases hq : mtB ss (s.extract t.size s.size)
              · rw [hq] at hm hff
                replace hm := Lib.hid hm
                replace hff := Lib.hid hff
                clear hq
                go_wp2_with fail
                refine (hb1.out _).mono ?_
                rintro e w1 ⟨rfl, rfl⟩
                go_wp2_with fail
                refine hm.out.mono ?_
                rintro e w2 ⟨rfl, hB2⟩
                have hP2 := Lib.hid (hP.out.trans (hB2.mono hP.out.size))
                clear hB2
                go_wp2
                go_roundw
                case rel => exact ⟨j + 1, by omega, by go_num, hff, hP2.out⟩
                case measure => simp [intOf]; omega
              · rw [hq] at hm hff
                replace hm := Lib.hid hm
                have hst := stp_found (hfs.out _ hff)
                have hRR := Lib.hid (hR.out.trans hst.1)
                have hkk := Lib.hid (hok.out.trans hst.2)
                clear hq hff hst hfs hfn
                go_wp2_with fail
                refine (hb1.out _).mono ?_
                rintro e w1 ⟨rfl, rfl⟩
                go_wp2_with fail
                refine hm.out.mono ?_
                rintro e w2 ⟨rfl, hB2⟩
                have hP2 := Lib.hid (hP.out.trans (hB2.mono hP.out.size))
                clear hB2 c2 hm hb1 hP
                go_wp2_with fail
                go_loopw [8, 45] (fun v i wr => ∃ l : Nat, l ≤ ss.length ∧ i = .int .i64 l ∧ wr.ownsRow w.heap.size 9 1 v (ordB (woT ss k l)).length (strs (ordB (woT ss k l))) ∧ Below w.heap.size w wr)
                  (fun _ i _ => ss.length - (intOf i).toNat)
                case atStart => exact ⟨0, Nat.zero_le _, rfl, by rw [woT_zero]; exact World.ownsRow_nil _ _ _ _, hP2.out⟩
                case round =>
                  obtain ⟨l, hl, rfl, ho, hB⟩ := hrel
                  obtain ⟨Ar, cr, rfl⟩ := own_slice ho
                  have hQ := Lib.hid (And.intro ho hB)
                  clear ho hB hP2
                  have hnl := ord_length (woT ss k l)
                  have hnl2 := woT_length ss k l hl
                  by_cases hltl : l < ss.length
                  · have hltl' : (l : Int) < (ss.length : Int) := by omega
                    have c3 := (hQ.out.2.cell (p := ⟨b, off + l, none⟩) hb).trans (hcc.out l _ (strs_nth ss l hltl))
                    by_cases hlk : l = k
                    · have hlk' : ((l : Int) != (k : Int)) = false := by rw [hlk]; simp
                      have e1 := Lib.hid (show woT ss k (l + 1) = woT ss k l by rw [hlk]; exact woT_skip ss k hlt)
                      clear hlk
                      generalize W.nth ss l = z at c3
                      go_wp2
                      go_roundw
                      case rel => exact ⟨l + 1, by omega, by go_num, by rw [e1.out]; exact hQ.out.1, hQ.out.2⟩
                      case measure => simp [intOf]; omega
                    · have hlk' : ((l : Int) != (k : Int)) = true := by rw [bne_iff_ne]; omega
                      have e1 := Lib.hid (show ordB (woT ss k (l + 1)) = putB (ordB (woT ss k l)) (W.nth ss l) by rw [woT_next ss k l hltl hlk, ord_snoc])
                      have hput := Lib.hid (spec_wdPut w.heap.size Ar (ordB (woT ss k l)) cr (W.nth ss l) wr hQ.out.1 hQ.out.2.size (by omega))
                      clear hlk
                      generalize W.nth ss l = z at c3 e1 hput
                      go_wp2_with fail
                      refine hput.out.mono ?_
                      rintro e w5 ⟨A5, c5, rfl, ho5, hB5⟩
                      have hQ5 := Lib.hid (And.intro ho5 (hQ.out.2.trans (hB5.mono hQ.out.2.size)))
                      clear ho5 hB5
                      go_wp2
                      go_roundw
                      case rel => exact ⟨l + 1, by omega, by go_num, by rw [e1.out]; exact hQ5.out.1, hQ5.out.2⟩
                      case measure => simp [intOf]; omega
                  · have hle2 : l = ss.length := by omega
                    subst hle2
                    have e1 := Lib.hid (show chg ss k (s.extract t.size s.size) = putB (ordB (woT ss k ss.length)) (s.extract t.size s.size) by rw [woT_all ss k hlt]; unfold chg; rw [ord_snoc])
                    have hput := Lib.hid (spec_wdPut w.heap.size Ar (ordB (woT ss k ss.length)) cr (s.extract t.size s.size) wr hQ.out.1 hQ.out.2.size (by omega))
                    have hcs := Lib.hid (chg_set Hset.out hlt hxs.out)
                    go_wp2_with fail
                    refine hput.out.mono ?_
                    rintro e w5 ⟨A5, c5, rfl, ho5, hB5⟩
                    rw [← e1.out] at ho5 ⊢
                    have hQ5 := Lib.hid (And.intro ho5 (hQ.out.2.trans (hB5.mono hQ.out.2.size)))
                    have hcp := own_cap ho5
                    clear ho5 hB5 hput hQ
                    have hlg := Lib.hid (spec_bsLeast A5 (chg ss k (s.extract t.size s.size)) c5 w5 (Row.of_own hQ5.out.1) hcs.out hcp)
                    rw [← hRR.out] at hlg
                    clear e1 hcs
                    generalize chg ss k (s.extract t.size s.size) = cg at hlg hQ5 hcp ⊢
                    go_wp2_with fail
                    refine hlg.out.mono ?_
                    rintro e w6 ⟨A6, c6, rfl, ho6, hB6⟩
                    have hQ6 := Lib.hid (And.intro (own_base ho6 hQ5.out.2.size) (hQ5.out.2.trans (hB6.mono hQ5.out.2.size)))
                    clear ho6 hB6 hlg
                    go_wp2
                    go_ret2
                    rw [hkk.out]
                    exact okStrs_of hQ6.out.1 rfl hQ6.out.2
        · have hje : j = ss.length := by omega
          subst hje
          have hfe := hf.out
          rw [rsFrom_end] at hfe
          have hn := Lib.hid (hfn.out hfe)
          clear hfe
          go_wp2
          go_roundw
          case rel => exact ⟨k + 1, by omega, by go_num, hn, hP.out⟩
          case measure => simp [intOf]; omega
    · have hke : k = ss.length := by omega
      subst hke
      have hfe := hfr.out
      rw [Nat.sub_self] at hfe
      have hst := stp_none hfe
      have hRR := Lib.hid (hR.out.trans hst.1)
      have hkk := Lib.hid (hok.out.trans hst.2)
      clear hfe hst
      go_wp2
      go_ret2
      rw [hkk.out, hRR.out]
      exact okStrs_nil _ _ _ hO.out
end Go.Proofs.YtlmcemdbalhkiaaDoor
