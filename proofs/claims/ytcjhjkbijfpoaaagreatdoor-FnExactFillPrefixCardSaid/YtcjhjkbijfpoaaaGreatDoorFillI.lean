/-
  WHAT THIS FILE PROVES: a prefix set filled: the program's function gives the plain one's set; asked: a slice of texts in memory, lengths that an int holds.
-/
import Derived.Test.YtcjhjkbijfpoaaaGreatDoorFillS
import Derived.Test.YtcjhjkbijfpoaaaGreatDoorKrV
namespace Go.Proofs.YtcjhjkbijfpoaaaGreatDoor
open Go.RowKit Go.Shelf

theorem begins_box (s : ByteArray) (bx : Nat) (t : ByteArray) (w : World) (hx : w.cell? ⟨bx, 0, none⟩ = some (.string t)) :
    Calls Tryz.prog 33 #[.string s, .pointer (some ⟨bx, 0, none⟩)] w fun e w' => e = .returned (.bool (bgs t s)) ∧ w = w' := by
  have hc := fun w => Tryz.strings_HasPrefix s t w
  rw [show Lib.hasPrefix s.data.toList t.data.toList = bgs t s from rfl] at hc
  generalize bgs t s = r at hc ⊢
  replace hc := Lib.hid hc
  go_enter Tryz.func33, Tryz.ntmps33
  go_wp2_with (go_at_call 34; refine (hc.out _).mono ?_; rintro e w' ⟨rfl, rfl⟩)
  go_ret
  exact ⟨rfl, rfl⟩
/-- an index is found just if some text begins so -/
def FoundBeg (ss : List ByteArray) (t : ByteArray) (w : World) (e : Ending) (w' : World) : Prop := ∃ r : Int, e = .returned (.int .i64 r) ∧ decide (0 ≤ r) = !(freeB ss t) ∧ w = w'
set_option maxHeartbeats 1600000 in
theorem index_beg (A : Option Addr) (ss : List ByteArray) (c : Nat) (bx : Nat) (t : ByteArray) (w : World) (h : Row w w.heap.size A (strs ss)) (hl : ss.length ≤ 262144) (hx : w.cell? ⟨bx, 0, none⟩ = some (.string t)) :
    Calls Tryz.prog 56 #[.slice A ss.length c, .func (.func 33) #[] #[.pointer (some ⟨bx, 0, none⟩)]] w (FoundBeg ss t w) := by
  have hq := Lib.hid (fun s => begins_box s bx t w hx)
  have hf := Lib.hid (show ∀ k (hk : k < ss.length), bgs t (W.nth ss k) = true → freeB ss t = false from fun k hk e => by
    unfold freeB
    rw [List.all_eq_false]
    exact ⟨W.nth ss k, by rw [W.nth_lt ss k hk]; exact List.getElem_mem hk, by rw [e]; simp⟩)
  have hs := Lib.hid (show ∀ k (hk : k < ss.length), freeB (ss.take (k + 1)) t = (freeB (ss.take k) t && !bgs t (W.nth ss k)) from fun k hk => by
    unfold freeB
    rw [List.take_succ_eq_append_getElem hk, List.all_append, W.nth_lt ss k hk]
    simp)
  have hall := Lib.hid (show freeB (ss.take ss.length) t = freeB ss t by rw [List.take_length])
  replace h := Lib.hid h
  clear hx
  go_enter Tryz.func56, Tryz.ntmps56
  go_wp2
  go_loop [8] (fun i => ∃ k : Nat, k ≤ ss.length ∧ i = .int .i64 k ∧ Hid (freeB (ss.take k) t = true)) (fun i => ss.length - (intOf i).toNat)
  case atStart => exact ⟨0, Nat.zero_le _, rfl, rfl⟩
  case round =>
    obtain ⟨k, hk, rfl, hT⟩ := hrel
    by_cases hlt : k < ss.length
    · obtain ⟨b, off, rfl, hb, hcc⟩ := h.out (by rw [strs_length]; omega)
      have hlt' : (k : Int) < (ss.length : Int) := by omega
      have c1 := hcc k _ (strs_nth ss k hlt)
      clear hcc
      have hf1 := Lib.hid (hf.out k hlt)
      have hs1 := Lib.hid (hs.out k hlt)
      generalize W.nth ss k = u at c1 hf1 hs1
      have hq1 := hq.out u
      cases hd : bgs t u
      · rw [hd] at hq1
        replace hq1 := Lib.hid hq1
        have hT2 : Hid (freeB (ss.take (k + 1)) t = true) := by show _ = _; rw [hs1.out, hT.out, hd]; rfl
        clear hd hs1 hf1
        go_wp2_with fail
        refine hq1.out.mono ?_
        rintro e w' ⟨rfl, rfl⟩
        go_wp2_with fail
        go_round
        case rel => exact ⟨k + 1, by omega, by go_num, hT2⟩
        case measure => simp [intOf]; omega
      · rw [hd] at hq1
        replace hq1 := Lib.hid hq1
        have ha := Lib.hid (hf1.out hd)
        clear hd hs1 hf1
        go_wp2_with fail
        refine hq1.out.mono ?_
        rintro e w' ⟨rfl, rfl⟩
        go_wp2_with fail
        go_ret
        exact ⟨k, rfl, by rw [ha.out]; simp, rfl⟩
    · obtain rfl : k = ss.length := by omega
      have ha := Lib.hid (hall.out.symm.trans hT.out)
      go_wp2
      go_ret
      exact ⟨-1, rfl, by rw [ha.out]; rfl, rfl⟩
theorem contains_beg (A : Option Addr) (ss : List ByteArray) (c : Nat) (bx : Nat) (t : ByteArray) (w : World) (h : Row w w.heap.size A (strs ss)) (hl : ss.length ≤ 262144) (hx : w.cell? ⟨bx, 0, none⟩ = some (.string t)) :
    Calls Tryz.prog 32 #[.slice A ss.length c, .func (.func 33) #[] #[.pointer (some ⟨bx, 0, none⟩)]] w fun e w' => e = .returned (.bool (!(freeB ss t))) ∧ w = w' := by
  have hq := Lib.hid (index_beg A ss c bx t w h hl hx)
  generalize hd : (!(freeB ss t)) = r at ⊢
  replace hd := Lib.hid hd
  clear h hx
  go_enter Tryz.func32, Tryz.ntmps32
  go_wp2_with fail
  refine hq.out.mono ?_
  rintro e w' ⟨x, rfl, hx, rfl⟩
  rw [hd.out] at hx
  subst hx
  go_wp2
  go_ret
  exact ⟨rfl, rfl⟩
theorem impl_beginsOne (A : Option Addr) (ss : List ByteArray) (c : Nat) (t : ByteArray) (w : World) (h : Row w w.heap.size A (strs ss)) (hl : ss.length ≤ 262144) :
    Calls Tryz.prog 19 #[.string t, .slice A ss.length c] w fun e w' => e = .returned (.bool (!(freeB ss t))) ∧ Below w.heap.size w w' := by
  have hB : Below w.heap.size w (w.alloc (.cells #[.string t] 9)) := (Below.refl _ _).alloc (Nat.le_refl _) _
  have hq := Lib.hid (contains_beg A ss c w.heap.size t (w.alloc (.cells #[.string t] 9)) ((h.below hB).more hB.size) hl (by rw [World.cell?_alloc_at _ _ _ _ rfl]; rfl))
  generalize (!(freeB ss t)) = r at *
  replace hB := Lib.hid hB
  clear h
  go_enter Tryz.func19, Tryz.ntmps19
  go_wp2_with fail
  refine hq.out.mono ?_
  rintro e w' ⟨rfl, rfl⟩
  go_wp2_with fail
  go_ret
  exact ⟨rfl, hB.out⟩
set_option maxHeartbeats 6400000 in
theorem impl_FillPrefix (A : Option Addr) (ss : List ByteArray) (c : Nat) (L : Int) (w : World) (h : Row w w.heap.size A (strs ss)) (hcap : ss.length ≤ c) (hl : ss.length ≤ 9223372036854775807) (hs : ∀ s ∈ ss, s.size ≤ 9223372036854775807) :
    Calls Tryz.prog 7 #[.slice A ss.length c, .int .i64 L] w (OkStrs w (foOf ss L) (foOk ss L)) := by
  have hc := isValid_words A ss c L w h hcap hl hs
  cases hq : W.krSet ss L
  · have hno : foOk ss L = false := by unfold foOk; rw [hq]; rfl
    rw [hno, foOf_no hno]
    rw [hq] at hc
    replace hc := Lib.hid hc
    clear h hs hq hno
    go_enter Tryz.func7, Tryz.ntmps7
    go_wp2_with fail
    refine hc.out.mono ?_
    rintro e w1 ⟨rfl, hB1⟩
    go_wp2_with fail
    go_ret2
    exact okStrs_nil _ _ _ hB1
  · rw [hq] at hc
    replace hc := Lib.hid hc
    have hset := W.krSet_set hq
    have h12 := W.isSet_len ss hset
    by_cases h0 : 0 < ss.length
    · have hne : ((ss.length : Int) == 0) = false := beq_eq_false_iff_ne.2 (by omega)
      have hk := fun (u : World) (hb : Below w.heap.size w u) => impl_isPrefixSet A ss c u ((h.below hb).more hb.size) (by omega)
      cases hp : pfxB ss
      · have hno : foOk ss L = false := by unfold foOk; rw [hp]; simp
        rw [hno, foOf_no hno]
        rw [hp] at hk
        replace hk := Lib.hid hk
        clear h hs hq hno hset hp
        go_enter Tryz.func7, Tryz.ntmps7
        go_wp2_with fail
        refine hc.out.mono ?_
        rintro e w1 ⟨rfl, hB1⟩
        go_wp2_with fail
        refine (hk.out _ hB1).mono ?_
        rintro e w2 ⟨rfl, hB2⟩
        go_wp2_with fail
        go_ret2
        exact okStrs_nil _ _ _ (hB1.trans (hB2.mono hB1.size))
      · obtain ⟨e1, e2⟩ := foOk_fit hq h0 hp
        rw [e1, e2]
        rw [hp] at hk
        replace hk := Lib.hid hk
        obtain ⟨hL2, hL3⟩ := krSet_let hq
        obtain ⟨l, rfl⟩ := Int.eq_ofNat_of_zero_le (show (0 : Int) ≤ L by omega)
        rw [Int.toNat_natCast]
        have hl3 : l ≤ 3 := by omega
        have hl3' : (l : Int) ≤ 3 := hL3
        have Hp := Lib.hid (And.intro hp (set_mem hset))
        have Hsz := fun i => nth_size (ss := ss) (fun s hs' => (W.short_size s (Hp.out.2 s hs')).2) i
        have Hlen := Lib.hid (fun i => rowI_len ss l hl3 (fun s hs' => (W.short_size s (Hp.out.2 s hs')).2) i)
        replace Hsz := Lib.hid Hsz
        obtain ⟨i0, hi, hz0, hz1, hz2⟩ := info_parts infoStr
        have HR := Lib.hid (And.intro hi (And.intro hz0 (And.intro hz1 hz2)))
        have Hrow := Lib.hid h
        obtain ⟨b, off, rfl, hb, hh⟩ := h (by rw [strs_length]; omega)
        have hcl := fun (u : World) (hB : Below w.heap.size w u) => Tryz.slices_Clone_string b off ss.length c ss u (Nat.le_refl _) (by omega) (fun j hj => (hB.cell (p := ⟨b, off + j, none⟩) hb).trans (hh j _ (by
          rw [strs, List.getElem?_map, List.getElem?_eq_getElem hj, List.getD_eq_getElem?_getD, List.getElem?_eq_getElem hj]
          rfl)))
        replace hcl := Lib.hid hcl
        clear h hs hq hset hp e1 e2 hi hz0 hz1 hz2 hh
        go_enter Tryz.func7, Tryz.ntmps7
        go_wp2_with fail
        refine hc.out.mono ?_
        rintro e w1 ⟨rfl, hB1⟩
        go_wp2_with fail
        refine (hk.out _ hB1).mono ?_
        rintro e w2 ⟨rfl, hB2⟩
        replace hB2 := hB1.trans (hB2.mono hB1.size)
        go_wp2_with fail
        refine (hcl.out _ hB2).mono ?_
        rintro e w3 ⟨v, rfl, ho, hn, hB3⟩
        have hF0 : w3.ownsRow w.heap.size 9 1 v (ss ++ []).length (strs (ss ++ [])) := by
          rw [List.take_length] at ho
          rw [List.append_nil]
          exact own_base ho hB2.size
        have hF := Lib.hid (And.intro hF0 (hB2.trans (hB3.mono hB2.size)))
        clear ho hn hB3 hB2 hB1 hF0
        go_wp2
        go_loopw [6, 31] (fun v i wr => ∃ k : Nat, k ≤ ss.length ∧ i = .int .i64 k ∧ wr.ownsRow w.heap.size 9 1 v (ss ++ rowI ss l k).length (strs (ss ++ rowI ss l k)) ∧ Below w.heap.size w wr)
          (fun _ i _ => ss.length - (intOf i).toNat)
        case atStart => exact ⟨0, Nat.zero_le _, rfl, hF.out.1, hF.out.2⟩
        case round =>
          clear hF
          obtain ⟨k, hk1, rfl, ho, hB⟩ := hrel
          obtain ⟨Ar, cr, rfl⟩ := own_slice ho
          have hO := Lib.hid (And.intro ho hB)
          clear ho hB
          by_cases hlt : k < ss.length
          · obtain ⟨b', off', hbo, _, hcc⟩ := Hrow.out (by rw [strs_length]; omega)
            injection hbo with hbo
            injection hbo with hbo1 hbo2
            subst hbo1 hbo2
            have hlt' : (k : Int) < (ss.length : Int) := by omega
            have c1 := (hO.out.2.cell (p := ⟨b, off + k, none⟩) hb).trans (hcc k _ (strs_nth ss k hlt))
            clear hcc
            have hs := Lib.hid (rowI_succ ss l k)
            have hsz8 := Hsz.out k
            have hIl := Hlen.out k
            generalize W.nth ss k = s at c1 hs hsz8
            generalize rowI ss l k = R at hO hs hIl ⊢
            generalize hA : ss ++ R = acc at hO ⊢
            replace hA := Lib.hid hA
            go_wp2_with fail
            go_loopw [6, 37] (fun v i wr => ∃ j : Nat, j ≤ s.size ∧ i = .int .i64 j ∧ wr.ownsRow w.heap.size 9 1 v (ss ++ (R ++ rowK ss l s j)).length (strs (ss ++ (R ++ rowK ss l s j))) ∧ Below w.heap.size w wr)
              (fun _ i _ => s.size - (intOf i).toNat)
            case atStart => exact ⟨0, Nat.zero_le _, rfl, by rw [show rowK ss l s 0 = [] from rfl, List.append_nil, hA.out]; exact hO.out.1, hO.out.2⟩
            case round =>
              clear hO
              obtain ⟨j, hj1, rfl, ho, hB⟩ := hrel
              obtain ⟨Ar, cr, rfl⟩ := own_slice ho
              have hO := Lib.hid (And.intro ho hB)
              clear ho hB
              by_cases hlj : j < s.size
              · have hlj' : (j : Int) < (s.size : Int) := by omega
                have hs2 := Lib.hid (rowK_succ ss l s j)
                have hKl := rowK_len ss l s hl3 j
                generalize rowK ss l s j = R2 at hO hs2 hKl ⊢
                generalize hA2 : ss ++ (R ++ R2) = acc2 at hO ⊢
                replace hA2 := Lib.hid hA2
                go_wp2_with fail
                go_loopw [6, 41] (fun v i wr => ∃ x : Nat, x ≤ l ∧ i = .int .i64 x ∧ wr.ownsRow w.heap.size 9 1 v (ss ++ (R ++ (R2 ++ rowX ss s j x))).length (strs (ss ++ (R ++ (R2 ++ rowX ss s j x)))) ∧ Below w.heap.size w wr)
                  (fun _ i _ => l - (intOf i).toNat)
                case atStart => exact ⟨0, Nat.zero_le _, rfl, by rw [show rowX ss s j 0 = [] from rfl, List.append_nil, hA2.out]; exact hO.out.1, hO.out.2⟩
                case round =>
                  clear hO
                  obtain ⟨x, hx1, rfl, ho, hB⟩ := hrel
                  obtain ⟨Ar, cr, rfl⟩ := own_slice ho
                  have hO := Lib.hid (And.intro ho hB)
                  clear ho hB
                  by_cases hlx : x < l
                  · have hlx' : (x : Int) < (l : Int) := by omega
                    have hx3 : x < 3 := by omega
                    have hx3' : (x : Int) < 3 := by omega
                    have hs3 := Lib.hid (rowX_succ ss s j x)
                    have hXl := rowX_len ss s j x
                    generalize rowX ss s j x = R3 at hO hs3 hXl ⊢
                    have hcd : cand s j x = s.extract 0 j ++ (⟨#[97, 98, 99]⟩ : ByteArray).extract x (x + 1) := rfl
                    generalize cand s j x = t at hs3 hcd
                    have hal : (ss ++ (R ++ (R2 ++ R3))).length ≤ 262144 := by
                      simp only [List.length_append]
                      omega
                    have hassoc := Lib.hid (show ss ++ (R ++ (R2 ++ (R3 ++ oneIf ss t))) = (ss ++ (R ++ (R2 ++ R3))) ++ oneIf ss t by simp only [List.append_assoc])
                    rw [← hs3.out] at hassoc
                    generalize ss ++ (R ++ (R2 ++ R3)) = acc3 at hO hassoc hal ⊢
                    have hon := Lib.hid (fun (h : freeB ss t = false) => one_no h)
                    have hoy := Lib.hid (fun (h : freeB ss t = true) => one_yes h)
                    clear hs3
                    go_wp2
                    go_quiet (fail)
                    go_wp2_with fail
                    rw [← hcd]
                    have hBz : Below wr.heap.size wr (wr.drewN nq) := below_drewN (Below.refl _ _) nq
                    have hOz := Lib.hid (And.intro (own_below hO.out.1 hBz) (hO.out.2.trans (hBz.mono hO.out.2.size)))
                    clear hBz hO hcd
                    generalize wr.drewN nq = wz at hOz ⊢
                    have hbg := Lib.hid (impl_beginsOne (some ⟨b, off, none⟩) ss c t wz ((Hrow.out.below hOz.out.2).more hOz.out.2.size) (by omega))
                    cases hfb : freeB ss t
                    · have he := Lib.hid (show ss ++ (R ++ (R2 ++ rowX ss s j (x + 1))) = acc3 by rw [hassoc.out, hon.out hfb, List.append_nil])
                      rw [hfb] at hbg
                      replace hbg := Lib.hid hbg.out
                      clear hassoc hon hoy hfb
                      refine hbg.out.mono ?_
                      rintro e w5 ⟨rfl, hB5⟩
                      have hO5 := Lib.hid (And.intro (own_below hOz.out.1 hB5) (hOz.out.2.trans (hB5.mono hOz.out.2.size)))
                      clear hB5 hOz hbg
                      go_wp2_with fail
                      go_roundw
                      case rel => exact ⟨x + 1, by omega, by go_num, by rw [he.out]; exact hO5.out.1, hO5.out.2⟩
                      case measure => simp [intOf]; omega
                    · have he := Lib.hid (show ss ++ (R ++ (R2 ++ rowX ss s j (x + 1))) = acc3 ++ [t] by rw [hassoc.out, hoy.out hfb])
                      rw [hfb] at hbg
                      replace hbg := Lib.hid hbg.out
                      clear hassoc hon hoy hfb
                      refine hbg.out.mono ?_
                      rintro e w5 ⟨rfl, hB5⟩
                      have hO5 := Lib.hid (And.intro (own_below hOz.out.1 hB5) (hOz.out.2.trans (hB5.mono hOz.out.2.size)))
                      clear hB5 hOz hbg
                      have hsz5 := hO5.out.2.size
                      go_wp2_with (at_builtin; refine wpList_append_own _ rfl _ _ 22 rfl w.heap.size 9 i0 (.string ByteArray.empty) 1 16 Tryz.underlying22 HR.out.1 HR.out.2.1 HR.out.2.2.1 HR.out.2.2.2 rfl (by decide) _ _ _ rfl (hO5.out.1.alloc _) ⟨w5.heap.size, 0, none⟩ 1 1 [.string t] rfl rfl (cell_one_new _ _ _) (one_text _) (by unfold maxLen; omega) (by omega) (by simp; omega) ?_)
                      intro v' w6 hown' hgrow _
                      have hlt4 := hO5.out.1.lt
                      have hF6 := Lib.hid (And.intro hown' ((hO5.out.2.alloc hsz5 _).grown hgrow (by simp; omega) (fun g hg => (hlt4 g hg).1)))
                      clear hown' hgrow hlt4
                      go_wp2
                      go_roundw
                      case rel =>
                        refine ⟨x + 1, by omega, by go_num, ?_, hF6.out.2⟩
                        rw [he.out, strs_snoc, List.length_append]
                        exact hF6.out.1
                      case measure => simp [intOf]; omega
                  · obtain rfl : x = l := by omega
                    generalize hA3 : ss ++ (R ++ (R2 ++ rowX ss s j x)) = acc3 at hO ⊢
                    replace hA3 := Lib.hid hA3
                    go_wp2
                    go_roundw
                    case rel => exact ⟨j + 1, by omega, by go_num, by rw [hs2.out, hA3.out]; exact hO.out.1, hO.out.2⟩
                    case measure => simp [intOf]; omega
              · obtain rfl : j = s.size := by omega
                generalize hA2 : ss ++ (R ++ rowK ss l s s.size) = acc2 at hO ⊢
                replace hA2 := Lib.hid hA2
                go_wp2
                go_roundw
                case rel => exact ⟨k + 1, by omega, by go_num, by rw [hs.out, hA2.out]; exact hO.out.1, hO.out.2⟩
                case measure => simp [intOf]; omega
          · obtain rfl : k = ss.length := by omega
            have hIl := Hlen.out ss.length
            have Hif := Lib.hid (impl_setOfFitting Ar (ss ++ rowI ss l ss.length) cr wr (Row.of_own hO.out.1) (by rw [List.length_append]; omega))
            have HB := Lib.hid hO.out.2
            clear hO
            generalize hacc : ss ++ rowI ss l ss.length = acc at Hif ⊢
            have Hac := Lib.hid (show filled ss l = acc from hacc)
            clear hacc
            go_wp2_with (go_at_call 20; refine Hif.out.mono ?_; rintro e w4 ⟨A4, c4, rfl, ho4, hB4⟩)
            have HO4 := Lib.hid (And.intro ho4 hB4)
            clear ho4 hB4
            go_ret2
            rw [Hac.out]
            exact okStrs_of (own_base HO4.out.1 HB.out.size) rfl (HB.out.trans (HO4.out.2.mono HB.out.size))
    · have hno : foOk ss L = false := by unfold foOk; rw [decide_eq_false h0]; simp
      rw [hno, foOf_no hno]
      have hne : ((ss.length : Int) == 0) = true := by rw [show ss.length = 0 by omega]; rfl
      clear h hs hq hno hset
      go_enter Tryz.func7, Tryz.ntmps7
      go_wp2_with fail
      refine hc.out.mono ?_
      rintro e w1 ⟨rfl, hB1⟩
      go_wp2_with fail
      go_ret2
      exact okStrs_nil _ _ _ hB1
end Go.Proofs.YtcjhjkbijfpoaaaGreatDoor
