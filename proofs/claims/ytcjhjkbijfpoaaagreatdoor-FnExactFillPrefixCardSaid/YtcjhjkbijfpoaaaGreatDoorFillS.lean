/-
  WHAT THIS FILE PROVES: a prefix set filled: the specification's function gives the plain one's set; asked: a slice of texts in memory, lengths that an int holds.
-/
import Derived.Test.YtcjhjkbijfpoaaaGreatDoorFill
import Derived.Test.YtcjhjkbijfpoaaaGreatDoorIsPfx
import Derived.Test.YtcjhjkbijfpoaaaGreatDoorKrS
import Derived.Test.YtcjhjkbijfpoaaaGreatDoorMemS
import Derived.BigQuiet
namespace Go.Proofs.YtcjhjkbijfpoaaaGreatDoor
open Go.RowKit Go.Shelf

theorem cells_strs (zs : List ByteArray) : ∀ u ∈ strs zs, u.oneCell' = true := fun u hu => by
  unfold strs at hu
  rw [List.mem_map] at hu
  obtain ⟨x, _, rfl⟩ := hu
  rfl
theorem krSet_let {ss : List ByteArray} {L : Int} (h : W.krSet ss L = true) : 2 ≤ L ∧ L ≤ 3 := by
  unfold W.krSet W.krLet at h
  simp only [Bool.and_eq_true, decide_eq_true_eq] at h
  exact h.1
theorem put_one (ss acc : List ByteArray) (t : ByteArray) (hf : freeB ss t = true) : ordB (acc ++ oneIf ss t) = putB (ordB acc) t := by rw [one_yes hf, ord_snoc]
set_option maxHeartbeats 6400000 in
theorem spec_FillPrefix (A : Option Addr) (ss : List ByteArray) (c : Nat) (L : Int) (w : World) (h : Row w w.heap.size A (strs ss)) (hcap : ss.length ≤ c) (hl : ss.length ≤ 9223372036854775807) (hs : ∀ s ∈ ss, s.size ≤ 9223372036854775807) :
    Calls Tryz.prog 5 #[.slice A ss.length c, .int .i64 L] w (OkStrs w (foOf ss L) (foOk ss L)) := by
  have hc := spec_krSet A ss c L w h hl hs
  cases hq : W.krSet ss L
  · have hno : foOk ss L = false := by unfold foOk; rw [hq]; rfl
    rw [hno, foOf_no hno]
    rw [hq] at hc
    replace hc := Lib.hid hc
    clear h hs hq hno
    go_enter Tryz.func5, Tryz.ntmps5
    go_wp2_with fail
    refine hc.out.mono ?_
    rintro e w' ⟨rfl, rfl⟩
    go_wp2_with fail
    go_ret2
    exact okStrs_nil _ _ _ (Below.refl _ _)
  · rw [hq] at hc
    replace hc := Lib.hid hc
    have hset := W.krSet_set hq
    by_cases h0 : 0 < ss.length
    · have hne : ((ss.length : Int) == 0) = false := beq_eq_false_iff_ne.2 (by omega)
      have hk := spec_krPrefix A ss c w h hset hcap
      cases hp : pfxB ss
      · have hno : foOk ss L = false := by unfold foOk; rw [hp]; simp
        rw [hno, foOf_no hno]
        rw [hp] at hk
        replace hk := Lib.hid hk
        clear h hs hq hno hset hp
        go_enter Tryz.func5, Tryz.ntmps5
        go_wp2_with fail
        refine hc.out.mono ?_
        rintro e w' ⟨rfl, rfl⟩
        go_wp2_with fail
        refine hk.out.mono ?_
        rintro e w' ⟨rfl, rfl⟩
        go_wp2_with fail
        go_ret2
        exact okStrs_nil _ _ _ (Below.refl _ _)
      · obtain ⟨e1, e2⟩ := foOk_fit hq h0 hp
        rw [e1, e2]
        rw [hp] at hk
        replace hk := Lib.hid hk
        obtain ⟨hL2, hL3⟩ := krSet_let hq
        obtain ⟨l, rfl⟩ := Int.eq_ofNat_of_zero_le (show (0 : Int) ≤ L by omega)
        rw [Int.toNat_natCast]
        have hl3 : l ≤ 3 := by omega
        have hl3' : (l : Int) ≤ 3 := hL3
        have h12 := W.isSet_len ss hset
        have Hp := Lib.hid (And.intro hp (set_mem hset))
        have Hsz := fun i => nth_size (ss := ss) (fun s hs' => (W.short_size s (Hp.out.2 s hs')).2) i
        have Hord := Lib.hid (ord_set hset)
        have Hlen := Lib.hid (fun i => rowI_len ss l hl3 (fun s hs' => (W.short_size s (Hp.out.2 s hs')).2) i)
        replace Hsz := Lib.hid Hsz
        obtain ⟨i0, hi, hz0, hz1, hz2⟩ := info_parts infoStr
        have HR := Lib.hid (And.intro hi (And.intro hz0 (And.intro hz1 hz2)))
        have Hrow := Lib.hid h
        clear h hs hq hset hp e1 e2 hi hz0 hz1 hz2
        go_enter Tryz.func5, Tryz.ntmps5
        go_wp2_with fail
        refine hc.out.mono ?_
        rintro e w' ⟨rfl, rfl⟩
        go_wp2_with fail
        refine hk.out.mono ?_
        rintro e w' ⟨rfl, rfl⟩
        have hown0 := Lib.hid (World.ownsRow_made (base := w.heap.size) (e := 9) (size := 1) w #[] 0 (Nat.le_refl _) (Nat.zero_le _) rfl)
        have hB0 := Lib.hid ((Below.refl w.heap.size w).alloc (Nat.le_refl _) (.cells #[] 9))
        have hrow0 := Lib.hid (Hrow.out.below hB0.out)
        go_wp2_with (at_builtin; refine wpList_append_row _ rfl _ _ 22 rfl w.heap.size 9 i0 _ 16 Tryz.underlying22 HR.out.1 HR.out.2.1 HR.out.2.2.1 HR.out.2.2.2 rfl (.slice (some ⟨w.heap.size, 0, none⟩) 0 0) 0 [] rfl hown0.out w.heap.size A c (strs ss) (by rw [strs_length]; rfl) hrow0.out (cells_strs ss) (by rw [strs_length]; unfold maxLen; omega) (by rw [strs_length]; omega) (by simp) ?_)
        intro v1 w1 ho1 hg1
        have hF0 : w1.ownsRow w.heap.size 9 1 v1 ss.length (strs ss) := by
          first | exact ho1 | (rw [strs_length] at ho1; exact ho1) | (rw [strs_length, Nat.zero_add] at ho1; exact ho1)
        have hF := Lib.hid (And.intro hF0 (hB0.out.grown hg1 (by simp) (fun g hg => by have hg2 : some w.heap.size = some g := hg; injection hg2 with hg2; omega)))
        clear ho1 hg1 hF0
        go_wp2
        go_loopw [6, 34] (fun v i wr => ∃ k : Nat, k ≤ ss.length ∧ i = .int .i64 k ∧ wr.ownsRow w.heap.size 9 1 v (ordB (ss ++ rowI ss l k)).length (strs (ordB (ss ++ rowI ss l k))) ∧ Below w.heap.size w wr)
          (fun _ i _ => ss.length - (intOf i).toNat)
        case atStart => exact ⟨0, Nat.zero_le _, rfl, by rw [show rowI ss l 0 = [] from rfl, List.append_nil, Hord.out]; exact hF.out.1, hF.out.2⟩
        case round =>
          clear hF
          obtain ⟨k, hk1, rfl, ho, hB⟩ := hrel
          obtain ⟨Ar, cr, rfl⟩ := own_slice ho
          have hO := Lib.hid (And.intro ho hB)
          clear ho hB
          by_cases hlt : k < ss.length
          · obtain ⟨b, off, rfl, hb, hcc⟩ := Hrow.out (by rw [strs_length]; omega)
            have hlt' : (k : Int) < (ss.length : Int) := by omega
            have c1 := (hO.out.2.cell (p := ⟨b, off + k, none⟩) hb).trans (hcc k _ (strs_nth ss k hlt))
            clear hcc
            have hs := Lib.hid (rowI_succ ss l k)
            have hms := Lib.hid (show W.nth ss k ∈ ss by rw [W.nth_lt ss k hlt]; exact List.getElem_mem hlt)
            have hsz8 := Hsz.out k
            have hIl := Hlen.out k
            generalize W.nth ss k = s at c1 hs hms hsz8
            generalize rowI ss l k = R at hO hs hIl ⊢
            go_wp2_with fail
            go_loopw [6, 9] (fun v i wr => ∃ j : Nat, j ≤ s.size ∧ i = .int .i64 j ∧ wr.ownsRow w.heap.size 9 1 v (ordB (ss ++ (R ++ rowK ss l s j))).length (strs (ordB (ss ++ (R ++ rowK ss l s j)))) ∧ Below w.heap.size w wr)
              (fun _ i _ => s.size - (intOf i).toNat)
            case atStart => exact ⟨0, Nat.zero_le _, rfl, by rw [show rowK ss l s 0 = [] from rfl, List.append_nil]; exact hO.out.1, hO.out.2⟩
            case round =>
              clear hO
              obtain ⟨j, hj1, rfl, ho, hB⟩ := hrel
              obtain ⟨Ar, cr, rfl⟩ := own_slice ho
              have hO := Lib.hid (And.intro ho hB)
              clear ho hB
              by_cases hlj : j < s.size
              · have hlj' : (j : Int) < (s.size : Int) := by omega
                have hs2 := Lib.hid (rowK_succ ss l s j)
                have hKl := rowK_len ss l s hl3 j
                generalize rowK ss l s j = R2 at hO hs2 hKl ⊢
                go_wp2_with fail
                go_loopw [6, 10] (fun v i wr => ∃ x : Nat, x ≤ l ∧ i = .int .i64 x ∧ wr.ownsRow w.heap.size 9 1 v (ordB (ss ++ (R ++ (R2 ++ rowX ss s j x)))).length (strs (ordB (ss ++ (R ++ (R2 ++ rowX ss s j x))))) ∧ Below w.heap.size w wr)
                  (fun _ i _ => l - (intOf i).toNat)
                case atStart => exact ⟨0, Nat.zero_le _, rfl, by rw [show rowX ss s j 0 = [] from rfl, List.append_nil]; exact hO.out.1, hO.out.2⟩
                case round =>
                  clear hO
                  obtain ⟨x, hx1, rfl, ho, hB⟩ := hrel
                  obtain ⟨Ar, cr, rfl⟩ := own_slice ho
                  have hO := Lib.hid (And.intro ho hB)
                  clear ho hB
                  by_cases hlx : x < l
                  · have hlx' : (x : Int) < (l : Int) := by omega
                    have hx3 : x < 3 := by omega
                    have hx3' : (x : Int) < 3 := by omega
                    have hs3 := Lib.hid (rowX_succ ss s j x)
                    have hXl := rowX_len ss s j x
                    generalize rowX ss s j x = R3 at hO hs3 hXl ⊢
                    have hfr := Lib.hid (freeTo_all Hp.out.1 hms.out j x hlj hx3)
                    have hcd : cand s j x = s.extract 0 j ++ (⟨#[97, 98, 99]⟩ : ByteArray).extract x (x + 1) := rfl
                    generalize cand s j x = t at hs3 hfr hcd
                    go_wp2
                    go_quiet (fail)
                    go_wp2
                    rw [← hcd]
                    have hBz : Below wr.heap.size wr (wr.drewN nq) := below_drewN (Below.refl _ _) nq
                    have hOz := Lib.hid (And.intro (own_below hO.out.1 hBz) (hO.out.2.trans (hBz.mono hO.out.2.size)))
                    clear hBz hO hcd
                    generalize wr.drewN nq = wz at hOz ⊢
                    go_loopw [12, 59] (fun fv i wq => ∃ n : Nat, n ≤ ss.length ∧ i = .int .i64 n ∧ fv = .bool (freeTo ss t n) ∧ wq = wz) (fun _ i _ => ss.length - (intOf i).toNat)
                    case atStart => exact ⟨0, Nat.zero_le _, rfl, rfl, rfl⟩
                    case round =>
                      obtain ⟨n, hn1, rfl, rfl, rfl⟩ := hrel
                      by_cases hln : n < ss.length
                      · obtain ⟨b2, off2, hbo, hb2, hcc⟩ := Hrow.out (by rw [strs_length]; omega)
                        injection hbo with hbo
                        injection hbo with hbo1 hbo2
                        subst hbo1 hbo2
                        have hln' : (n : Int) < (ss.length : Int) := by omega
                        have c2 := (hOz.out.2.cell (p := ⟨b, off + n, none⟩) hb).trans (hcc n _ (strs_nth ss n hln))
                        clear hcc
                        have hs4 := Lib.hid (freeTo_succ ss t n hln)
                        generalize W.nth ss n = u at c2 hs4
                        have hb1 := Lib.hid (fun W => spec_wdBegins u t W)
                        have hb2 := Lib.hid (fun W => spec_wdBegins t u W)
                        unfold okU at hs4
                        rw [show Lib.hasPrefix u.data.toList t.data.toList = bgs t u from rfl] at hb1
                        rw [show Lib.hasPrefix t.data.toList u.data.toList = bgs u t from rfl] at hb2
                        generalize freeTo ss t n = f at hs4 ⊢
                        generalize bgs t u = g1 at hb1 hs4
                        generalize bgs u t = g2 at hb2 hs4
                        cases f
                        · go_wp2_with fail
                          go_roundw
                          case rel => exact ⟨n + 1, by omega, by go_num, by rw [hs4.out]; rfl, by trivial⟩
                          case measure => simp [intOf]; omega
                        · cases g1
                          · cases g2
                            all_goals
                              go_wp2_with fail
                              refine (hb1.out _).mono ?_
                              rintro e w' ⟨rfl, rfl⟩
                              go_wp2_with fail
                              refine (hb2.out _).mono ?_
                              rintro e w' ⟨rfl, rfl⟩
                              go_wp2_with fail
                              go_roundw
                              case rel => exact ⟨n + 1, by omega, by go_num, by rw [hs4.out]; rfl, by trivial⟩
                              case measure => simp [intOf]; omega
                          · go_wp2_with fail
                            refine (hb1.out _).mono ?_
                            rintro e w' ⟨rfl, rfl⟩
                            go_wp2_with fail
                            go_roundw
                            case rel => exact ⟨n + 1, by omega, by go_num, by rw [hs4.out]; simp, by trivial⟩
                            case measure => simp [intOf]; omega
                      · obtain rfl : n = ss.length := by omega
                        rw [hfr.out]
                        have hal : (ss ++ (R ++ (R2 ++ R3))).length ≤ 12 + 24 * k + 3 * j + x := by
                          simp only [List.length_append]
                          omega
                        have haq := ord_length (ss ++ (R ++ (R2 ++ R3)))
                        have hbd : (ordB (ss ++ (R ++ (R2 ++ R3)))).length ≤ 262144 := by omega
                        have hassoc : ss ++ (R ++ (R2 ++ (R3 ++ oneIf ss t))) = (ss ++ (R ++ (R2 ++ R3))) ++ oneIf ss t := by simp only [List.append_assoc]
                        cases hfb : freeB ss t
                        · have he : ordB (ss ++ (R ++ (R2 ++ rowX ss s j (x + 1)))) = ordB (ss ++ (R ++ (R2 ++ R3))) := by rw [hs3.out, hassoc, one_no hfb, List.append_nil]
                          replace he := Lib.hid he
                          clear hassoc hfb hal haq hs3
                          generalize ss ++ (R ++ (R2 ++ R3)) = acc at hOz he hbd ⊢
                          generalize ordB acc = ac2 at *
                          go_wp2
                          go_roundw
                          case rel => exact ⟨x + 1, by omega, by go_num, by rw [he.out]; exact hOz.out.1, hOz.out.2⟩
                          case measure => simp [intOf]; omega
                        · have he : ordB (ss ++ (R ++ (R2 ++ rowX ss s j (x + 1)))) = putB (ordB (ss ++ (R ++ (R2 ++ R3)))) t := by rw [hs3.out, hassoc, put_one _ _ _ hfb]
                          replace he := Lib.hid he
                          clear hassoc hfb hal haq hs3
                          generalize ss ++ (R ++ (R2 ++ R3)) = acc at hOz he hbd ⊢
                          generalize ordB acc = ac2 at hOz he hbd ⊢
                          have hput := Lib.hid (spec_wdPut w.heap.size Ar ac2 cr t wr hOz.out.1 hOz.out.2.size hbd)
                          go_wp2_with (go_at_call 14; refine hput.out.mono ?_; rintro e w2 ⟨A2, c2, rfl, ho2, hB2⟩)
                          have hO2 := Lib.hid (And.intro ho2 hB2)
                          clear ho2 hB2
                          go_roundw
                          case rel => exact ⟨x + 1, by omega, by go_num, by rw [he.out]; exact hO2.out.1, hOz.out.2.trans (hO2.out.2.mono hOz.out.2.size)⟩
                          case measure => simp [intOf]; omega
                  · obtain rfl : x = l := by omega
                    go_wp2
                    go_roundw
                    case rel => exact ⟨j + 1, by omega, by go_num, by rw [hs2.out]; exact hO.out.1, hO.out.2⟩
                    case measure => simp [intOf]; omega
              · obtain rfl : j = s.size := by omega
                go_wp2
                go_roundw
                case rel => exact ⟨k + 1, by omega, by go_num, by rw [hs.out]; exact hO.out.1, hO.out.2⟩
                case measure => simp [intOf]; omega
          · obtain rfl : k = ss.length := by omega
            have Hm := filled_short Hp.out.2 l hl3
            unfold filled at Hm
            have hIl := Hlen.out ss.length
            have Hif := Lib.hid (spec_wdIf Ar (ss ++ rowI ss l ss.length) cr wr w.heap.size hO.out.1 (by rw [List.length_append]; omega) Hm)
            have HB := Lib.hid hO.out.2
            clear hO Hm
            generalize hacc : ss ++ rowI ss l ss.length = acc at Hif ⊢
            have Hac := Lib.hid (show filled ss l = acc from hacc)
            clear hacc
            generalize ordB acc = ac2 at Hif ⊢
            go_wp2_with (go_at_call 15; refine Hif.out.mono ?_; rintro e w2 ⟨v, rfl, ho2, rfl⟩)
            have HO2 := Lib.hid ho2
            clear ho2
            go_ret2
            rw [Hac.out]
            exact okStrs_of HO2.out rfl HB.out
    · have hno : foOk ss L = false := by unfold foOk; rw [decide_eq_false h0]; simp
      rw [hno, foOf_no hno]
      have hne : ((ss.length : Int) == 0) = true := by rw [show ss.length = 0 by omega]; rfl
      clear h hs hq hno hset
      go_enter Tryz.func5, Tryz.ntmps5
      go_wp2_with fail
      refine hc.out.mono ?_
      rintro e w' ⟨rfl, rfl⟩
      go_wp2_with fail
      go_ret2
      exact okStrs_nil _ _ _ (Below.refl _ _)
end Go.Proofs.YtcjhjkbijfpoaaaGreatDoor
