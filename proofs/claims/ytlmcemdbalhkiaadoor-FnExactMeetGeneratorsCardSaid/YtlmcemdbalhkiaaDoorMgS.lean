/-
  WHAT THIS FILE PROVES: generators of the words that two sets write: the specification's function gives the plain list; asked: slices of texts in memory, lengths and a number that an int holds.
-/
import Derived.Test.YtlmcemdbalhkiaaDoorMg
import Derived.Test.YtlmcemdbalhkiaaDoorLs
import Derived.Test.YtlmcemdbalhkiaaDoorHas
namespace Go.Proofs.YtlmcemdbalhkiaaDoor
open Go.RowKit Go.Shelf

theorem rd_none {ss : List ByteArray} {s : ByteArray} : (intss ((W.reads ss s.data.toList).take 1)).length = if W.ways ss s.data.toList = 0 then 0 else 1 := by
  have h := W.reads_length ss s.data.toList
  unfold intss
  rw [List.length_map, List.length_take, h]
  split <;> omega

set_option maxHeartbeats 6400000 in
set_option maxRecDepth 100000 in
theorem spec_MeetGenerators (A : Option Addr) (ss : List ByteArray) (c : Nat) (A' : Option Addr) (bs : List ByteArray) (c' : Nat) (n : Int) (w : World) (h : Row w w.heap.size A (strs ss)) (hl : ss.length ≤ 9223372036854775807) (hs : ∀ s ∈ ss, s.size ≤ 9223372036854775807)
    (h' : Row w w.heap.size A' (strs bs)) (hl' : bs.length ≤ 9223372036854775807) (hs' : ∀ s ∈ bs, s.size ≤ 9223372036854775807) (hna : -9223372036854775808 ≤ n) (hnb : n ≤ 9223372036854775807) :
    Calls Tryd.prog 18 #[.slice A ss.length c, .slice A' bs.length c', .int .i64 n] w (OkStrs w (mgOf ss bs n) (mgOk ss bs n)) := by
  have hc := spec_wdSet A ss c w h hl hs
  have hd := spec_wdSet A' bs c' w h' hl' hs'
  have hb := fun u => spec_bsLength n u
  cases hq : W.isSet ss
  · obtain ⟨e1, e2⟩ := mg_no (a := ss) (b := bs) (n := n) (by rw [(wu_no (n := n) (show wuAsk ss n = false by unfold wuAsk; rw [hq]; rfl)).1]; rfl)
    rw [e2, e1]
    rw [hq] at hc
    replace hc := Lib.hid hc
    clear hq h hs hb e1 e2 hd h' hs'
    go_enter Tryd.func18, Tryd.ntmps18
    go_wp2_with (go_at_call 29; refine hc.out.mono ?_; rintro e w' ⟨rfl, rfl⟩)
    go_ret2
    exact okStrs_nil _ _ _ (Below.refl _ _)
  · rw [hq] at hc
    cases hq2 : W.isSet bs
    · obtain ⟨e1, e2⟩ := mg_no (a := ss) (b := bs) (n := n) (by rw [(wu_no (n := n) (show wuAsk bs n = false by unfold wuAsk; rw [hq2]; rfl)).1]; simp)
      rw [e2, e1]
      rw [hq2] at hd
      replace hc := Lib.hid hc
      replace hd := Lib.hid hd
      clear hq hq2 h hs hb e1 e2 h' hs'
      go_enter Tryd.func18, Tryd.ntmps18
      go_wp2_with fail
      refine hc.out.mono ?_
      rintro e w1 ⟨rfl, rfl⟩
      go_wp2_with fail
      refine hd.out.mono ?_
      rintro e w1 ⟨rfl, rfl⟩
      go_wp2
      go_ret2
      exact okStrs_nil _ _ _ (Below.refl _ _)
    · rw [hq2] at hd
      cases hn : decide (0 ≤ n ∧ n ≤ 8)
      · obtain ⟨e1, e2⟩ := mg_no (a := ss) (b := bs) (n := n) (by rw [(wu_no (n := n) (show wuAsk ss n = false by unfold wuAsk; rw [hn]; simp)).1]; rfl)
        rw [e2, e1]
        rw [hn] at hb
        replace hc := Lib.hid hc
        replace hd := Lib.hid hd
        replace hb := Lib.hid hb
        clear hq hq2 hn h hs e1 e2 h' hs'
        go_enter Tryd.func18, Tryd.ntmps18
        go_wp2_with fail
        refine hc.out.mono ?_
        rintro e w1 ⟨rfl, rfl⟩
        go_wp2_with fail
        refine hd.out.mono ?_
        rintro e w1 ⟨rfl, rfl⟩
        go_wp2_with fail
        refine (hb.out _).mono ?_
        rintro e w2 ⟨rfl, rfl⟩
        go_wp2
        go_ret2
        exact okStrs_nil _ _ _ (Below.refl _ _)
      · rw [hn] at hb
        have hn2 := of_decide_eq_true hn
        obtain ⟨m, rfl⟩ := Int.eq_ofNat_of_zero_le hn2.1
        have hm8 : m ≤ 8 := by omega
        have ea := wu_yes (ss := ss) (n := m) (show wuAsk ss m = true by unfold wuAsk; rw [hq, hn]; rfl)
        have eb := wu_yes (ss := bs) (n := m) (show wuAsk bs m = true by unfold wuAsk; rw [hq2, hn]; rfl)
        have hwa := spec_bsWritten A ss c m w h hq hm8
        have hwb := fun (u : World) (hB : Below w.heap.size w u) => spec_bsWritten A' bs c' m u ((h'.below hB).more hB.size) hq2 hm8
        have hla := wuR_len ss m
        have hlb := wuR_len bs m
        have hno := mg_no (a := ss) (b := bs) (n := (m : Int))
        have hyes := mg_yes (a := ss) (b := bs) (n := (m : Int))
        rw [Int.toNat_natCast] at hyes
        have hlst := fun (hy : wuN ss m = true) => wu_lst hq hm8 (of_decide_eq_true hy)
        have hRa := @wuR_yes ss m
        have hRb := @wuR_yes bs m
        unfold mgC at hyes
        rw [ea.1, eb.1] at hno hyes
        obtain ⟨RS, hRS⟩ : ∃ x, x = mgOf ss bs m := ⟨_, rfl⟩
        obtain ⟨ok, hok⟩ : ∃ x, x = mgOk ss bs m := ⟨_, rfl⟩
        rw [← hRS, ← hok]
        rw [← hRS, ← hok] at hno hyes
        obtain ⟨i0, hi, hz0, hz1, hz2⟩ := info_parts infoStr
        have HR := Lib.hid (And.intro hi (And.intro hz0 (And.intro hz1 hz2)))
        replace hc := Lib.hid hc
        replace hd := Lib.hid hd
        replace hb := Lib.hid hb
        replace hno := Lib.hid hno
        replace hyes := Lib.hid hyes
        replace hlst := Lib.hid hlst
        replace hRa := Lib.hid hRa
        replace hRb := Lib.hid hRb
        clear hq hq2 hn h hs hi hz0 hz1 hz2 hn2 h' hs' ea eb hRS hok
        generalize wuR ss m = Ra at hwa hla hRa
        generalize wuR bs m = Rb at hwb hlb hRb
        generalize wuL ss m = F at hlst hRa hyes
        generalize wuL bs m = S at hRb hyes
        generalize wuN ss m = oka at *
        generalize wuN bs m = okb at *
        replace hwa := Lib.hid hwa
        replace hwb := Lib.hid hwb
        go_enter Tryd.func18, Tryd.ntmps18
        go_wp2_with fail
        refine hc.out.mono ?_
        rintro e w1 ⟨rfl, rfl⟩
        go_wp2_with fail
        refine hd.out.mono ?_
        rintro e w1 ⟨rfl, rfl⟩
        go_wp2_with fail
        refine (hb.out _).mono ?_
        rintro e w2 ⟨rfl, rfl⟩
        go_wp2_with fail
        refine hwa.out.mono ?_
        rintro e w3 ⟨A3, c3, rfl, hr3, hB3⟩
        have hwb3 := Lib.hid (hwb.out w3 hB3)
        have H3 := Lib.hid (And.intro hr3 hB3)
        clear hr3 hB3 hwb
        go_wp2_with fail
        refine hwb3.out.mono ?_
        rintro e w4 ⟨A4, c4, rfl, hr4, hB4⟩
        have H4 := Lib.hid (And.intro ((H3.out.1.below hB4).more hB4.size) (And.intro hr4 (H3.out.2.trans (hB4.mono H3.out.2.size))))
        clear hr4 hB4 hwb3 H3
        cases oka
        · obtain ⟨e1, e2⟩ := hno.out rfl
          subst e1 e2
          go_wp2
          go_ret2
          exact okStrs_nil _ _ _ H4.out.2.2
        · cases okb
          · obtain ⟨e1, e2⟩ := hno.out rfl
            subst e1 e2
            go_wp2
            go_ret2
            exact okStrs_nil _ _ _ H4.out.2.2
          · obtain ⟨e1, e2⟩ := hyes.out rfl rfl
            have hF := hRa.out rfl
            have hS := hRb.out rfl
            subst hF hS
            have hC := Lib.hid (lst_sub (hlst.out rfl) (List.filter_sublist (p := hasB Rb)))
            have hF8 := Lib.hid (fun k (hk : k < Ra.length) => W.short_size _ (Ls.W.isLst_short Ra (hlst.out rfl) k hk))
            have hall := Lib.hid (gk_all Ra Rb)
            have E1 := Lib.hid e1
            have E2 := Lib.hid e2
            clear e1 e2 hno hyes hRa hRb hlst
            have hsz4 := H4.out.2.2.size
            go_wp2_with fail
            go_loopw [12, 48] (fun v i wr => ∃ k : Nat, k ≤ Ra.length ∧ i = .int .i64 k ∧ wr.ownsRow w4.heap.size 9 1 v (gkL Ra Rb k).length (strs (gkL Ra Rb k)) ∧ Below w4.heap.size w4 wr)
              (fun _ i _ => Ra.length - (intOf i).toNat)
            case atStart => exact ⟨0, Nat.zero_le _, rfl, by rw [gk_zero]; exact World.ownsRow_nil _ _ _ _, Below.refl _ _⟩
            case round =>
              obtain ⟨k, hk, rfl, ho, hB⟩ := hrel
              obtain ⟨Ar, cr, rfl⟩ := own_slice ho
              have hO := Lib.hid (And.intro ho hB)
              have hszr := hB.size
              clear ho hB
              have hgl := gk_len hC.out k
              by_cases hlt : k < Ra.length
              · obtain ⟨b, off, rfl, hb2, hcc⟩ := H4.out.1 (by rw [strs_length]; omega)
                have hlt' : (k : Int) < (Ra.length : Int) := by omega
                have c1 := (hO.out.2.cell (p := ⟨b, off + k, none⟩) hb2).trans (hcc k _ (strs_nth Ra k hlt))
                clear hcc
                have hz := hF8.out k hlt
                have hwh := spec_wdHas A4 Rb c4 (W.nth Ra k) wr ((H4.out.2.1.below hO.out.2).more hszr) (by omega)
                cases hh : hasB Rb (W.nth Ra k)
                · rw [hh] at hwh
                  have e9 := Lib.hid (gk_skip hlt hh)
                  replace hwh := Lib.hid hwh
                  clear hh
                  generalize W.nth Ra k = s at c1 hz hwh
                  go_wp2_with fail
                  refine hwh.out.mono ?_
                  rintro e w5 ⟨rfl, rfl⟩
                  go_wp2
                  go_roundw
                  case rel => exact ⟨k + 1, by omega, by go_num, by rw [e9.out]; exact hO.out.1, hO.out.2⟩
                  case measure => simp [intOf]; omega
                · rw [hh] at hwh
                  have e9 := gk_step hlt hh
                  rw [gk_greedy hC.out hlt hh] at e9
                  have e10 := Lib.hid e9
                  have hdr := Lib.hid (Ls.spec_dcReadings Ar (gkL Ra Rb k) cr (gk_lst hC.out k) _ (W.nth Ra k) 1 wr rfl (Row.of_own hO.out.1) (by omega) (by omega) (by omega))
                  have hrn := Lib.hid (@rd_none (gkL Ra Rb k) (W.nth Ra k))
                  replace hwh := Lib.hid hwh
                  clear hh e9
                  generalize W.nth Ra k = s at c1 hz hwh e10 hdr hrn
                  generalize hgg : gkL Ra Rb k = G at hO hgl e10 hdr hrn ⊢
                  clear hgg
                  go_wp2_with fail
                  refine hwh.out.mono ?_
                  rintro e w5 ⟨rfl, rfl⟩
                  go_wp2_with fail
                  refine hdr.out.mono ?_
                  rintro e w6 ⟨A6, c6, rfl, ho6, hB6⟩
                  have hO6 := Lib.hid (And.intro (own_below hO.out.1 hB6) (hO.out.2.trans (hB6.mono hszr)))
                  have hsz6 := Nat.le_trans hszr hB6.size
                  clear ho6 hB6 hdr hwh
                  generalize hr3 : (intss ((W.reads G s.data.toList).take 1)).length = n3 at hrn ⊢
                  clear hr3
                  have hn3 := hrn.out
                  by_cases hw0 : W.ways G s.data.toList = 0
                  · rw [if_pos hw0] at hn3
                    have e11 := e10.out
                    rw [decide_eq_true hw0, if_pos rfl] at e11
                    have E11 := Lib.hid e11
                    clear hw0 e11 e10 hrn
                    subst hn3
                    go_wp2_with (at_builtin; refine wpList_append_own _ rfl _ _ 22 rfl w4.heap.size 9 i0 (.string ByteArray.empty) 1 16 Tryd.underlying22 HR.out.1 HR.out.2.1 HR.out.2.2.1 HR.out.2.2.2 rfl (by decide) _ _ _ rfl (hO6.out.1.alloc _) ⟨w6.heap.size, 0, none⟩ 1 1 [.string s] rfl rfl ?c1 ?c2 ?c3 ?c4 ?c5 ?_)
                    case c1 => exact cell_one_new _ _ _
                    case c2 => exact one_text _
                    case c3 => unfold maxLen; omega
                    case c4 => omega
                    case c5 => simp; omega
                    intro v' w7 hown' hgrow _
                    have hlt4 := hO6.out.1.lt
                    have hO7 := Lib.hid (And.intro hown' ((hO6.out.2.alloc hO6.out.2.size _).grown hgrow (by simp; omega) (fun g hg => (hlt4 g hg).1)))
                    clear hown' hgrow hlt4
                    go_wp2
                    go_roundw
                    case rel =>
                      refine ⟨k + 1, by omega, by go_num, own_nx hO7.out.1 ?_ ?_, hO7.out.2⟩
                      · rw [E11.out, List.length_append]
                        rfl
                      · rw [E11.out, strs_snoc]
                    case measure => simp [intOf]; omega
                  · rw [if_neg hw0] at hn3
                    have e11 := e10.out
                    rw [decide_eq_false hw0] at e11
                    have E11 := Lib.hid (e11.trans (by simp : _ = G))
                    clear hw0 e11 e10 hrn
                    subst hn3
                    go_wp2
                    go_roundw
                    case rel =>
                      refine ⟨k + 1, by omega, by go_num, own_nx hO6.out.1 ?_ ?_, hO6.out.2⟩
                      · rw [E11.out]
                      · rw [E11.out]
                    case measure => simp [intOf]; omega
              · have hke : k = Ra.length := by omega
                subst hke
                have hinc := ord_inc (lst_inc (gk_lst hC.out Ra.length))
                have hsh : ∀ x ∈ gkL Ra Rb Ra.length, W.short x = true := fun x hx => by
                  obtain ⟨i, hi, rfl⟩ := List.getElem_of_mem hx
                  have := Ls.W.isLst_short _ (gk_lst hC.out Ra.length) i hi
                  rwa [W.nth_lt _ i hi] at this
                have hwi := fun (hoo : wr.ownsRow w4.heap.size 9 1 (.slice Ar (ordB (gkL Ra Rb Ra.length)).length cr) (ordB (gkL Ra Rb Ra.length)).length (strs (ordB (gkL Ra Rb Ra.length)))) => spec_wdIf Ar (gkL Ra Rb Ra.length) cr wr w4.heap.size hoo (by omega) hsh
                rw [hinc] at hwi
                have hwi2 := hwi hO.out.1
                rw [hall.out, ← E1.out, ← E2.out] at hwi2
                rw [hall.out]
                have hwi3 := Lib.hid hwi2
                clear hinc hsh hwi hwi2
                generalize lgB (Ra.filter (hasB Rb)) = G at hwi3 ⊢
                go_wp2_with fail
                refine hwi3.out.mono ?_
                rintro e w9 ⟨v9, rfl, ho9, rfl⟩
                have HF := Lib.hid (And.intro (own_base ho9 hsz4) (H4.out.2.2.trans (hO.out.2.mono hsz4)))
                clear ho9
                go_wp2
                go_ret2
                exact okStrs_of HF.out.1 rfl HF.out.2
end Go.Proofs.YtlmcemdbalhkiaaDoor
