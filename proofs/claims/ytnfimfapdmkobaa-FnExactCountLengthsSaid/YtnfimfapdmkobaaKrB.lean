/-
  WHAT THIS FILE PROVES: all lists of lengths that fill a share: the specification's functions give the plain ones, in a slice of slices of the call's own; asked: numbers that an int holds.
-/
import Derived.Test.YtnfimfapdmkobaaKrAll
import Derived.Test.YtnfimfapdmkobaaKrS
import Derived.Test.YtnfimfapdmkobaaSSApp
import Derived.Test.YtnfimfapdmkobaaSSI
import Derived.Test.YtnfimfapdmkobaaIn
import Derived.Test.YtnfimfapdmkobaaIConcat
import Derived.OwnWalk
namespace Go.Proofs.Ytnfimfapdmkobaa
open Go.RowKit Go.Shelf

theorem infoInts : (Try.prog.info? 34).map (fun i => (i.zero, i.size, i.bytes)) = some (some (.slice none 0 0), 1, 24) := by kernel_rfl
set_option maxHeartbeats 800000 in
theorem spec_l1Own (A : Option Addr) (z : List Int) (c : Nat) (w : World) (h : Row w w.heap.size A (ints z)) (hl : z.length ≤ 1048576) :
    Calls Try.prog 21 #[.slice A z.length c] w (GivesInts w z) := by
  obtain ⟨i0, hi, hz0, hz1, hz2⟩ := info_parts infoInt
  have HR := Lib.hid (And.intro hi (And.intro hz0 (And.intro hz1 hz2)))
  have hown0 := Lib.hid (World.ownsRow_made (base := w.heap.size) (e := 3) (size := 1) w #[] 0 (Nat.le_refl _) (Nat.zero_le _) rfl)
  have hB0 := Lib.hid ((Below.refl w.heap.size w).alloc (Nat.le_refl _) (.cells #[] 3))
  have hrow := Lib.hid (h.below hB0.out)
  clear h hi hz0 hz1 hz2
  go_enter Try.func21, Try.ntmps21
  go_wp2_with (at_builtin; refine wpList_append_row _ rfl _ _ 34 rfl w.heap.size 3 i0 _ 8 Try.underlying34 HR.out.1 HR.out.2.1 HR.out.2.2.1 HR.out.2.2.2 rfl (.slice (some ⟨w.heap.size, 0, none⟩) 0 0) 0 [] rfl hown0.out w.heap.size A c (ints z) (by rw [ints_length]; rfl) hrow.out (intsCells z) (by rw [ints_length]; unfold maxLen; omega) (by rw [ints_length]; omega) (by simp) ?_)
  intro v1 w1 ho1 hg1
  have hF := Lib.hid (And.intro ho1 (hB0.out.grown hg1 (by simp) (fun g hg => by have hg2 : some w.heap.size = some g := hg; injection hg2 with hg2; omega)))
  clear ho1 hg1
  go_wp2
  go_ret
  refine givesInts_of (base := w.heap.size) ?_ rfl hF.out.2
  have := hF.out.1
  rw [ints_length] at this
  exact this
/-- one row alone -/
theorem own_single {w : World} {base : Nat} {A : Option Addr} {n c : Nat} {z : List Int} (hz : n = z.length) (h : w.ownsRow base 3 1 (.slice A n c) n (ints z)) (hb : base ≤ w.heap.size) :
    OwnAt (w.alloc (.cells #[.slice A n c] 34)) base 34 3 (.slice (some ⟨w.heap.size, 0, none⟩) 1 1) [.slice A n c] (intss [z]) := by
  subst hz
  refine ⟨World.ownsRow_lit (base := base) (e := 34) (size := 1) w #[.slice A z.length c] 1 hb (by unfold maxLen; omega) rfl, fun i xs hx => ?_, fun i j u u' hij hu hu' => ?_⟩
  · have hi := (List.getElem?_eq_some_iff.1 hx).1
    obtain rfl : i = 0 := by simpa [intss] using hi
    obtain rfl : ints z = xs := by simpa [intss] using hx
    exact ⟨A, c, by rw [ints_length]; rfl, by rw [ints_length]; exact h.alloc _⟩
  · have hi := (List.getElem?_eq_some_iff.1 hu).1
    have hj := (List.getElem?_eq_some_iff.1 hu').1
    simp at hi hj
    omega
theorem one_sliceI (A : Option Addr) (n c : Nat) : ∀ u ∈ [Value.slice A n c], u.oneCell' = true := fun u hu => by
  simp only [List.mem_cons, List.mem_nil_iff, or_false] at hu
  subst hu
  rfl
theorem own_slices {w : World} {base : Nat} {E e : TypeId} {v : Value} {vs : List Value} {xss : List (List Value)} (h : OwnAt w base E e v vs xss) : ∀ u ∈ vs, u.oneCell' = true := fun u hu => by
  obtain ⟨i, hi, rfl⟩ := List.getElem_of_mem hu
  have hl := h.len
  obtain ⟨A, c, h1, _⟩ := h.inner i (xss[i]'(by omega)) (List.getElem?_eq_getElem (by omega))
  rw [List.getElem?_eq_getElem hi] at h1
  injection h1 with h1
  rw [h1]
  rfl
/-- a list in front of each -/
def pres (pre : List Int) (xss : List (List Int)) : List (List Int) := xss.map fun x => pre ++ x
theorem pres_length (pre : List Int) (xss : List (List Int)) : (pres pre xss).length = xss.length := by simp [pres]
theorem pres_append (pre : List Int) (a b : List (List Int)) : pres pre (a ++ b) = pres pre a ++ pres pre b := by simp [pres]
theorem pres_cons (pre : List Int) (l : Int) (xss : List (List Int)) : pres pre (xss.map fun x => l :: x) = pres (pre ++ [l]) xss := by simp [pres]
theorem intss_append (a b : List (List Int)) : intss (a ++ b) = intss a ++ intss b := by simp [intss]
/-- what krAll of n numbers gives -/
def KrAllAt (L most n : Nat) : Prop := ∀ (fr share : Nat) (pre : List Int) (A : Option Addr) (c : Nat) (w : World), 1 ≤ fr → fr ≤ 9 → share ≤ 6561 → pre.length + n ≤ 24 → Row w w.heap.size A (ints pre) →
    Calls Try.prog 13 #[.int .i64 n, .int .i64 fr, .int .i64 most, .int .i64 L, .int .i64 share, .slice A pre.length c] w (GivesSS 34 3 w (intss (pres pre (fl L most n fr share))))
set_option maxHeartbeats 3200000 in
theorem spec_krAll0 (L most : Nat) : KrAllAt L most 0 := by
    intro fr share pre A c w _ _ hs hp h
    have hown := Lib.hid (spec_l1Own A pre c w h (by omega))
    by_cases h0 : share = 0
    · subst h0
      have e : pres pre (fl L most 0 fr 0) = [pre] := by simp [pres, fl]
      rw [e]
      clear h e
      go_enter Try.func13, Try.ntmps13
      go_wp2_with (go_at_call 21; refine hown.out.mono ?_; rintro e w1 ⟨A', c', rfl, ho, hB⟩)
      go_ret
      exact givesSS_of ⟨_, own_single rfl ho hB.size⟩ rfl (hB.alloc hB.size _)
    · have hne : ((share : Int) == 0) = false := beq_eq_false_iff_ne.2 (by omega)
      have e : pres pre (fl L most 0 fr share) = [] := by simp [pres, fl, h0]
      rw [e]
      clear h e h0
      go_enter Try.func13, Try.ntmps13
      go_wp2
      go_ret
      exact ⟨none, 0, rfl, ⟨[], ownAt_nil _ _ _ _⟩, Below.refl _ _⟩
set_option maxHeartbeats 6400000 in
theorem spec_krAllS (L most : Nat) (hm : most ≤ 8) (h2 : 2 ≤ L) (h3 : L ≤ 3) (n : Nat) (hn : n + 1 ≤ 12) (hrec : KrAllAt L most n) : KrAllAt L most (n + 1) := by
    intro fr share pre A c w hf1 hf9 hs hp h
    have ih := Lib.hid (fun fr share pre A c w => hrec fr share pre A c w)
    clear hrec
    have Hst := Lib.hid (fun k => flTo_succ L most n fr share k)
    have Hall := Lib.hid (flTo_all L most n fr share)
    have Hlen := Lib.hid (fun k (hk : fr + k ≤ 9) => Nat.le_trans (flTo_length L most n fr share k hm hf1 hk) (pow8 hn))
    replace h := Lib.hid h
    obtain ⟨i0, hi, hz0, hz1, hz2⟩ := info_parts infoInts
    have HR := Lib.hid (And.intro hi (And.intro hz0 (And.intro hz1 hz2)))
    obtain ⟨i1, hi', hz0', hz1', hz2'⟩ := info_parts infoInt
    have HI := Lib.hid (And.intro hi' (And.intro hz0' (And.intro hz1' hz2')))
    have hn0 : (((n + 1 : Nat) : Int) == 0) = false := beq_eq_false_iff_ne.2 (by omega)
    have hn1 : ((n + 1 : Nat) : Int) - 1 = (n : Int) := by omega
    clear hi hz0 hz1 hz2 hi' hz0' hz1' hz2'
    generalize hN : ((n + 1 : Nat) : Int) = N at hn0 hn1 ⊢
    replace hN := Lib.hid hN
    replace hn1 := Lib.hid hn1
    have hN0 : 0 ≤ N := by have := hN.out; omega
    have hN12 : N ≤ 12 := by have := hN.out; omega
    go_enter Try.func13, Try.ntmps13
    go_wp2
    go_loopw [13, 14] (fun v lv wr => ∃ (k : Nat) (vs : List Value), k ≤ most + 1 - fr ∧ lv = .int .i64 ((fr + k : Nat) : Int) ∧ OwnAt wr w.heap.size 34 3 v vs (intss (pres pre (flTo L most n fr share k))) ∧ Below w.heap.size w wr) (fun _ lv _ => most + 1 - (intOf lv).toNat)
    case atStart => exact ⟨0, [], Nat.zero_le _, by simp, ownAt_nil _ _ _ _, Below.refl _ _⟩
    case round =>
      obtain ⟨k, vs, hk, rfl, hV, hB⟩ := hrel
      generalize wr = wk at *
      obtain ⟨Av, cv, rfl⟩ := own_slice hV.own
      have hO := Lib.hid (And.intro hV hB)
      have hszk := hB.size
      have hst := Lib.hid (Hst.out k)
      clear hV hB
      by_cases hlt : k < most + 1 - fr
      · have hl8 : fr + k ≤ 8 := by omega
        have hllen := Hlen.out k (by omega)
        have hllen2 := Hlen.out (k + 1) (by omega)
        have hle : ((fr + k : Nat) : Int) ≤ (most : Int) := by omega
        generalize hl : fr + k = l at *
        have hl1 : 1 ≤ l := by omega
        have hl' : (l : Int) ≤ 8 := by omega
        have hl1' : (1 : Int) ≤ (l : Int) := by omega
        have hpw := fun u => spec_krPower L (8 - l) u (pow_small L _ h3 (by omega)) (by omega)
        rw [show ((8 - l : Nat) : Int) = 8 - (l : Int) by omega, show L ^ (8 - l) = W.part L (l : Int) from by unfold W.part; rw [Int.toNat_natCast]] at hpw
        have hp1 := W.part_le L h2 h3 (l : Int) hl1'
        have hno := Lib.hid (flF_no (rec := fl L most n) (L := L) (n := n + 1) (share := share) (l := l))
        have hyes := Lib.hid (flF_yes (rec := fl L most n) (L := L) (n := n + 1) (share := share) (l := l))
        have hqm : (n + 1) * W.part L (l : Int) ≤ 12 * 2187 := Nat.mul_le_mul (by omega) hp1
        have hmw := mul_wrap (n + 1) (W.part L (l : Int)) (Nat.le_trans hqm (by decide))
        rw [hN.out] at hmw
        generalize W.part L (l : Int) = p at hpw hp1 hno hyes hqm hmw
        generalize (n + 1) * p = q at hno hyes hqm hmw
        replace hpw := Lib.hid hpw
        by_cases c1 : share < p
        · have c1' : (share : Int) < (p : Int) := by omega
          have hs := Lib.hid (hst.out.trans (by rw [hno.out (.inl c1), List.append_nil]))
          clear hst hno hyes hmw
          go_wp2_with (go_at_call 14; refine (hpw.out _).mono ?_; rintro e w' ⟨rfl, rfl⟩)
          go_roundw
          case rel => exact ⟨k + 1, vs, by omega, by rw [show fr + (k + 1) = l + 1 by omega]; go_num, by rw [hs.out]; exact hO.out.1, hO.out.2⟩
          case measure => simp [intOf]; omega
        · have c1' : ¬ ((share : Int) < (p : Int)) := by omega
          by_cases c2 : q < share
          · have c2' : (q : Int) < (share : Int) := by omega
            have hs := Lib.hid (hst.out.trans (by rw [hno.out (.inr c2), List.append_nil]))
            clear hst hno hyes
            go_wp2_with (go_at_call 14; refine (hpw.out _).mono ?_; rintro e w' ⟨rfl, rfl⟩)
            go_roundw
            case rel => exact ⟨k + 1, vs, by omega, by rw [show fr + (k + 1) = l + 1 by omega]; go_num, by rw [hs.out]; exact hO.out.1, hO.out.2⟩
            case measure => simp [intOf]; omega
          · have c2' : ¬ ((q : Int) < (share : Int)) := by omega
            have hs := Lib.hid (hst.out.trans (by rw [hyes.out (fun h => by rcases h with h | h <;> omega)]))
            clear hst hno hyes
            have hown := Lib.hid (spec_l1Own A pre c wk ((h.out.below hO.out.2).more hszk) (by omega))
            go_wp2_with (go_at_call 14; refine (hpw.out _).mono ?_; rintro e w' ⟨rfl, rfl⟩)
            go_wp2_with fail
            refine hown.out.mono ?_
            rintro e w1 ⟨A1, c1, rfl, ho1, hB1⟩
            have hO1 := Lib.hid (And.intro ho1 hB1)
            have hsz1 := hB1.size
            clear ho1 hB1 hown
            go_wp2_with (at_builtin; refine wpList_append_own _ rfl _ _ 34 rfl wk.heap.size 3 i1 (.int .i64 0) 1 8 Try.underlying34 HI.out.1 HI.out.2.1 HI.out.2.2.1 HI.out.2.2.2 rfl (by decide) _ _ _ rfl (hO1.out.1.alloc _) ⟨w1.heap.size, 0, none⟩ 1 1 [.int .i64 (l : Int)] rfl rfl (cell_one_new _ _ _) (one_cell _) (by unfold maxLen; omega) (by omega) (by simp; omega) ?_)
            intro v2 w2 ho2 hg2 _
            have hpl : w2.ownsRow wk.heap.size 3 1 v2 (pre ++ [(l : Int)]).length (ints (pre ++ [(l : Int)])) := by
              rw [List.length_append, List.length_singleton, intsAppend]
              exact ho2
            obtain ⟨A2, c2, rfl⟩ := own_slice hpl
            have hB2 : Below wk.heap.size wk w2 := (hO1.out.2.alloc hsz1 _).grown hg2 (by simp; omega) (fun g hg => (hO1.out.1.lt g hg).1)
            have hO2 := Lib.hid (And.intro hpl hB2)
            have hsz2 := hB2.size
            clear ho2 hg2 hpl hB2
            have hsub : (share : Int) - (p : Int) = ((share - p : Nat) : Int) := by omega
            have hr := ih.out l (share - p) (pre ++ [(l : Int)]) A2 c2 w2 hl1 (by omega) (by omega) (by rw [List.length_append, List.length_singleton]; omega) (Row.of_own hO2.out.1)
            rw [← hn1.out, show (pre ++ [(l : Int)]).length = pre.length + 1 from by rw [List.length_append, List.length_singleton]] at hr
            have hPz : (fl L most n l (share - p)).length ≤ 68719476736 := Nat.le_trans (fl_length L most hm n l (share - p) hl1).1 (pow8 (by omega))
            have e1 : pres (pre ++ [(l : Int)]) (fl L most n l (share - p)) = pres pre ((fl L most n l (share - p)).map fun x => (l : Int) :: x) := (pres_cons pre (l : Int) _).symm
            have hPz2 : (pres pre ((fl L most n l (share - p)).map fun x => (l : Int) :: x)).length ≤ 68719476736 := by rw [pres_length, List.length_map]; exact hPz
            rw [e1] at hr
            generalize (fl L most n l (share - p)).map (fun x => (l : Int) :: x) = P at *
            have hs2 : pres pre (flTo L most n fr share (k + 1)) = pres pre (flTo L most n fr share k) ++ pres pre P := by rw [hs.out, pres_append]
            have hT1 : (pres pre (flTo L most n fr share k)).length ≤ 68719476736 := by rw [pres_length]; exact hllen
            replace hs2 := Lib.hid hs2
            replace hr := Lib.hid hr
            clear hs e1
            generalize hTT : pres pre (flTo L most n fr share k) = T at hO hs2 hT1 ⊢
            replace hTT := Lib.hid hTT
            generalize pres pre P = R at hs2 hr hPz2
            go_wp2_with fail
            refine hr.out.mono ?_
            rintro e w3 ⟨A3, c3, rfl, ⟨us, hU⟩, hB3⟩
            have hB3' : Below wk.heap.size wk w3 := hO2.out.2.trans (hB3.mono hsz2)
            have hO3 := Lib.hid (And.intro hU (And.intro (hO.out.1.below hB3') hB3'))
            have hsz3 := hB3'.size
            have hgs := Lib.hid (own_slices hU)
            clear hU hB3 hB3' hr
            have hTl : (intss T).length ≤ 68719476736 := by rw [intss_length]; exact hT1
            have hul : us.length ≤ 68719476736 := by rw [hO3.out.1.len, intss_length]; exact hPz2
            go_wp2_with (at_builtin; refine wpList_append_row _ rfl _ _ 25 rfl w.heap.size 34 i0 _ 24 Try.underlying25 HR.out.1 HR.out.2.1 HR.out.2.2.1 HR.out.2.2.2 rfl (.slice Av (intss T).length cv) (intss T).length vs rfl hO3.out.2.1.own w3.heap.size A3 c3 us (by rw [hO3.out.1.len]; rfl) (Row.of_own (by have := hO3.out.1.own; exact this)) hgs.out (by unfold maxLen; omega) (by omega) (by omega) ?_)
            intro v4 w4 ho4 hg4
            have hV4 := OwnAt.append (by decide) hO3.out.2.1 hO3.out.1 (show w.heap.size ≤ w2.heap.size by omega) (fun u hu g hg => by have := (hO.out.1.lt u hu g hg).2; omega) (by rw [← hO3.out.1.len]; exact ho4) hg4
            rw [← intss_append, ← hs2.out] at hV4
            have hF := Lib.hid (And.intro hV4 ((hO.out.2.trans (hO3.out.2.2.mono hszk)).grown hg4 (by omega) (fun g hg => (hO3.out.2.1.own.lt g hg).1)))
            clear ho4 hg4 hV4
            go_wp2
            go_roundw
            case rel => exact ⟨k + 1, vs ++ us, by omega, by rw [show fr + (k + 1) = l + 1 by omega]; go_num, hF.out.1, hF.out.2⟩
            case measure => simp [intOf]; omega
      · obtain rfl : k = most + 1 - fr := by omega
        have hgt : ¬ (((fr + (most + 1 - fr) : Nat) : Int) ≤ (most : Int)) := by omega
        rw [Hall.out] at hO
        generalize fr + (most + 1 - fr) = l at *
        go_wp2
        go_ret
        exact givesSS_of ⟨vs, hO.out.1⟩ rfl hO.out.2
theorem spec_krAll (L most : Nat) (hm : most ≤ 8) (h2 : 2 ≤ L) (h3 : L ≤ 3) (n : Nat) (hn : n ≤ 12) : KrAllAt L most n := by
  induction n with
  | zero => exact spec_krAll0 L most
  | succ n ih => exact spec_krAllS L most hm h2 h3 n hn (ih (by omega))
set_option maxHeartbeats 800000 in
theorem spec_krAsked (n most L lim : Int) (w : World) : Calls Try.prog 12 #[.int .i64 n, .int .i64 most, .int .i64 L, .int .i64 lim] w fun e w' => e = .returned (.bool (clOk lim n most L)) ∧ w = w' := by
  have h1 := fun u => spec_l1In n 0 lim u
  have h2 := fun u => spec_l1In most 1 8 u
  have h3 := fun u => spec_krLetters L u
  unfold clOk
  generalize decide (0 ≤ n ∧ n ≤ lim) = b1 at *
  generalize decide (1 ≤ most ∧ most ≤ 8) = b2 at *
  generalize W.krLet L = b3 at *
  replace h1 := Lib.hid h1
  replace h2 := Lib.hid h2
  replace h3 := Lib.hid h3
  go_enter Try.func12, Try.ntmps12
  cases b1
  · go_wp2_with fail
    refine (h1.out _).mono ?_
    rintro e w' ⟨rfl, rfl⟩
    go_wp2_with fail
    go_ret
    exact ⟨rfl, rfl⟩
  · go_wp2_with fail
    refine (h1.out _).mono ?_
    rintro e w' ⟨rfl, rfl⟩
    go_wp2_with fail
    refine (h2.out _).mono ?_
    rintro e w' ⟨rfl, rfl⟩
    cases b2
    · go_wp2_with fail
      go_ret
      exact ⟨rfl, rfl⟩
    · go_wp2_with fail
      refine (h3.out _).mono ?_
      rintro e w' ⟨rfl, rfl⟩
      go_wp2_with fail
      go_ret
      exact ⟨rfl, rfl⟩
theorem krLet_nat {L : Int} (h : W.krLet L = true) : ∃ l : Nat, L = (l : Int) ∧ 2 ≤ l ∧ l ≤ 3 := by
  unfold W.krLet at h
  rw [decide_eq_true_eq] at h
  exact ⟨L.toNat, by omega, by omega, by omega⟩
theorem pres_nil (xss : List (List Int)) : pres [] xss = xss := by simp [pres]
set_option maxHeartbeats 1600000 in
theorem spec_CountLengths (n most L : Int) (w : World) :
    Calls Try.prog 5 #[.int .i64 n, .int .i64 most, .int .i64 L] w fun e w' => e = .returned (.tuple #[.int .i64 (((clOf 12 n most L).length : Nat) : Int), .bool (clOk 12 n most L)]) ∧ Below w.heap.size w w' := by
  have ha := spec_krAsked n most L 12 w
  cases hk : clOk 12 n most L
  · rw [hk] at ha
    rw [clOf_no hk]
    replace ha := Lib.hid ha
    clear hk
    go_enter Try.func5, Try.ntmps5
    go_wp2_with (go_at_call 12; refine ha.out.mono ?_; rintro e w' ⟨rfl, rfl⟩)
    go_ret2
    exact ⟨rfl, Below.refl _ _⟩
  · rw [hk] at ha
    have hlen := clOf_len 12 n most L (by omega)
    rw [clOf_yes hk] at hlen ⊢
    obtain ⟨h1, h2, h3⟩ := clOk_parts hk
    obtain ⟨l, rfl, hl2, hl3⟩ := krLet_nat h3
    obtain ⟨n, rfl⟩ := Int.eq_ofNat_of_zero_le h1.1
    obtain ⟨most, rfl⟩ := Int.eq_ofNat_of_zero_le (show (0 : Int) ≤ most by omega)
    simp only [Int.toNat_natCast] at hlen ⊢
    have hpw := fun u => spec_krPower l 8 u (pow_small l _ hl3 (by omega)) (by omega)
    have h6 : l ^ 8 ≤ 6561 := by
      have : l = 2 ∨ l = 3 := by omega
      rcases this with rfl | rfl <;> decide
    have hr := spec_krAll l most (by omega) hl2 hl3 n (by omega) 1 (l ^ 8) [] none 0 w (Nat.le_refl _) (by omega) h6 (by simp; omega) (by intro h; exact absurd h (by simp [ints]))
    rw [pres_nil] at hr
    generalize l ^ 8 = p at *
    generalize fl l most n 1 p = R at *
    replace hr := Lib.hid hr
    replace hpw := Lib.hid hpw
    replace ha := Lib.hid ha
    clear hk h3
    have hz := Lib.hid (intss_length R)
    go_enter Try.func5, Try.ntmps5
    go_wp2_with (first | (go_at_call 12; refine ha.out.mono ?_; rintro e w' ⟨rfl, rfl⟩) | (go_at_call 14; refine (hpw.out _).mono ?_; rintro e w' ⟨rfl, rfl⟩) | (go_at_call 13; refine hr.out.mono ?_; rintro e w1 ⟨A1, c1, rfl, ho, hB⟩))
    rw [hz.out]
    go_ret2
    exact ⟨rfl, hB⟩
set_option maxHeartbeats 1600000 in
theorem spec_AllLengths (n most L : Int) (w : World) :
    Calls Try.prog 7 #[.int .i64 n, .int .i64 most, .int .i64 L] w (OkSS 34 3 w (intss (clOf 8 n most L)) (clOk 8 n most L)) := by
  have ha := spec_krAsked n most L 8 w
  cases hk : clOk 8 n most L
  · rw [hk] at ha
    rw [clOf_no hk]
    replace ha := Lib.hid ha
    clear hk
    go_enter Try.func7, Try.ntmps7
    go_wp2_with (go_at_call 12; refine ha.out.mono ?_; rintro e w' ⟨rfl, rfl⟩)
    go_ret2
    exact okSS_nil _ _ _ _ _ (Below.refl _ _)
  · rw [hk] at ha
    rw [clOf_yes hk]
    obtain ⟨h1, h2, h3⟩ := clOk_parts hk
    obtain ⟨l, rfl, hl2, hl3⟩ := krLet_nat h3
    obtain ⟨n, rfl⟩ := Int.eq_ofNat_of_zero_le h1.1
    obtain ⟨most, rfl⟩ := Int.eq_ofNat_of_zero_le (show (0 : Int) ≤ most by omega)
    simp only [Int.toNat_natCast]
    have hpw := fun u => spec_krPower l 8 u (pow_small l _ hl3 (by omega)) (by omega)
    have h6 : l ^ 8 ≤ 6561 := by
      have : l = 2 ∨ l = 3 := by omega
      rcases this with rfl | rfl <;> decide
    have hr := spec_krAll l most (by omega) hl2 hl3 n (by omega) 1 (l ^ 8) [] none 0 w (Nat.le_refl _) (by omega) h6 (by simp; omega) (by intro h; exact absurd h (by simp [ints]))
    rw [pres_nil] at hr
    generalize l ^ 8 = p at *
    generalize fl l most n 1 p = R at *
    replace hr := Lib.hid hr
    replace hpw := Lib.hid hpw
    replace ha := Lib.hid ha
    clear hk h3
    go_enter Try.func7, Try.ntmps7
    go_wp2_with (first | (go_at_call 12; refine ha.out.mono ?_; rintro e w' ⟨rfl, rfl⟩) | (go_at_call 14; refine (hpw.out _).mono ?_; rintro e w' ⟨rfl, rfl⟩) | (go_at_call 13; refine hr.out.mono ?_; rintro e w1 ⟨A1, c1, rfl, ho, hB⟩))
    go_ret2
    exact okSS_of ho rfl hB
end Go.Proofs.Ytnfimfapdmkobaa
