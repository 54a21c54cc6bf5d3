/-
  WHAT THIS FILE PROVES: words in place of letters: the specification's functions give the plain set; asked: slices of texts in memory, lengths that an int holds.
-/
import Derived.Test.YtnbgehaliicbnaaDoorRpl
import Derived.Test.YtnbgehaliicbnaaDoorKrS
import Derived.Test.YtnbgehaliicbnaaDoorMemS
import Derived.BigQuiet
namespace Go.Proofs.YtnbgehaliicbnaaDoor
open Go.RowKit Go.Shelf

/-- the replaced word, if all letters have one -/
def rpTx (bs : List ByteArray) (s : ByteArray) : ByteArray := if W.krWd (bs.length : Int) s.data.toList then rpB bs s else ⟨#[]⟩
set_option maxHeartbeats 3200000 in
theorem spec_pfReplace (A : Option Addr) (bs : List ByteArray) (c : Nat) (s : ByteArray) (w : World) (h : Row w w.heap.size A (strs bs)) (hb : W.isSet bs = true) (hs : W.short s = true) :
    Calls Tryd.prog 13 #[.string s, .slice A bs.length c] w fun e w' => e = .returned (.tuple #[.string (rpTx bs s), .bool (W.krWd (bs.length : Int) s.data.toList)]) ∧ w = w' := by
  have hsl : s.data.toList.length = s.size := (Lib.size_eq s).symm
  have h8 := (W.short_size s hs).2
  have h12 := W.isSet_len bs hb
  have hwd : W.isWd s.data.toList = true := by
    have h1 := hs
    unfold W.short at h1
    simp only [Bool.and_eq_true] at h1
    exact h1.2
  have Hlet := Lib.hid (show ∀ k (hk : k < s.size), 97 ≤ s[k].toNat ∧ s[k].toNat ≤ 99 from fun k hk => wd_letter hwd k (by rw [hsl]; exact hk))
  have Hstep := Lib.hid (show ∀ k (hk : k < s.size), W.krWd (bs.length : Int) (s.data.toList.take (k + 1)) = (W.krWd (bs.length : Int) (s.data.toList.take k) && decide (97 ≤ s[k].toNat ∧ (s[k].toNat : Int) < 97 + (bs.length : Int))) from fun k hk => krWd_take _ _ k (by rw [hsl]; exact hk))
  have Hno := Lib.hid (show ∀ k, W.krWd (bs.length : Int) (s.data.toList.take k) = false → rpTx bs s = ⟨#[]⟩ ∧ W.krWd (bs.length : Int) s.data.toList = false from fun k e => by
    have e2 := krWd_no (bs.length : Int) s.data.toList k e
    unfold rpTx
    rw [e2]
    exact ⟨rfl, rfl⟩)
  have Hall := Lib.hid (show W.krWd (bs.length : Int) (s.data.toList.take s.size) = true → rpTx bs s = rpTo bs s s.size ∧ W.krWd (bs.length : Int) s.data.toList = true from fun e => by
    rw [List.take_of_length_le (by omega)] at e
    unfold rpTx
    rw [e, rpTo_all]
    exact ⟨rfl, rfl⟩)
  have Hrs := Lib.hid (fun k hk => rpTo_succ bs s k hk)
  have Hrz := Lib.hid (fun k hk => rpTo_size hb s k hk)
  have Hn8 := Lib.hid (fun i => nth_le8 hb i)
  replace h := Lib.hid h
  clear hwd hsl hs hb
  go_enter Tryd.func13, Tryd.ntmps13
  go_wp2
  go_loop [6, 7] (fun t i => ∃ k : Nat, k ≤ s.size ∧ i = .int .i64 k ∧ t = .string (rpTo bs s k) ∧ Hid (W.krWd (bs.length : Int) (s.data.toList.take k) = true)) (fun _ i => s.size - (intOf i).toNat)
  case atStart => exact ⟨0, Nat.zero_le _, rfl, rfl, rfl⟩
  case round =>
    obtain ⟨k, hk, rfl, rfl, hT⟩ := hrel
    by_cases hlt : k < s.size
    · have hlt' : (k : Int) < (s.size : Int) := by omega
      have hl := Hlet.out k hlt
      have hst := Lib.hid (Hstep.out k hlt)
      have hrs := Lib.hid (Hrs.out k hlt)
      have hrz := Hrz.out k hk
      have hbb := s[k].toNat_lt
      have hsub : ((s[k].toNat : Int) - 97) % 256 = (s[k].toNat : Int) - 97 := by omega
      by_cases hc : s[k].toNat - 97 < bs.length
      · have hT2 : Hid (W.krWd (bs.length : Int) (s.data.toList.take (k + 1)) = true) := by show _ = _; rw [hst.out, hT.out, decide_eq_true ⟨hl.1, by omega⟩]; rfl
        obtain ⟨b, off, rfl, hb1, hcc⟩ := h.out (by rw [strs_length]; omega)
        have c1 := hcc _ _ (strs_nth bs (s[k].toNat - 97) hc)
        have hn8 := Hn8.out (s[k].toNat - 97)
        unfold rp1 at hrs
        generalize hq : s[k].toNat - 97 = q at c1 hn8 hrs hc
        have hq1 : (s[k].toNat : Int) - 97 = (q : Int) := by omega
        have hq2 : ¬ ((bs.length : Int) ≤ (q : Int)) := by omega
        have hq3 : (q : Int) < (bs.length : Int) := by omega
        generalize W.nth bs q = t at c1 hn8 hrs
        generalize rpTo bs s k = y at hrs hrz ⊢
        have hy1 : (y.size : Int) ≤ 8388608 := by omega
        have ht1 : (t.size : Int) ≤ 8388608 := by omega
        clear hst hcc hq
        go_wp2
        go_round
        case rel => exact ⟨k + 1, by omega, by go_num, by rw [hrs.out], hT2⟩
        case measure => simp [intOf]; omega
      · have hN := Lib.hid (Hno.out (k + 1) (by rw [hst.out, decide_eq_false (fun h => hc (by omega))]; simp))
        have hc2 : (bs.length : Int) ≤ (s[k].toNat : Int) - 97 := by omega
        clear hst
        go_wp2
        go_ret2
        rw [hN.out.1, hN.out.2]
        exact ⟨rfl, rfl⟩
    · obtain rfl : k = s.size := by omega
      have hA := Lib.hid (Hall.out hT.out)
      go_wp2
      go_ret2
      rw [hA.out.1, hA.out.2]
      exact ⟨rfl, rfl⟩
theorem spec_pfBy (A : Option Addr) (bs : List ByteArray) (c : Nat) (w : World) (h : Row w w.heap.size A (strs bs)) (hl : bs.length ≤ 9223372036854775807) (hs : ∀ s ∈ bs, s.size ≤ 9223372036854775807) :
    Calls Tryd.prog 12 #[.slice A bs.length c] w fun e w' => e = .returned (.bool (W.isSet bs && W.krLet (bs.length : Int))) ∧ w = w' := by
  have hc := spec_wdSet A bs c w h hl hs
  have hin := Lib.hid (fun W => spec_l1In (bs.length : Int) 2 3 W)
  unfold W.krLet
  cases hq : W.isSet bs
  · rw [hq] at hc
    replace hc := Lib.hid hc
    rw [Bool.false_and]
    clear h hs hq
    go_enter Tryd.func12, Tryd.ntmps12
    go_wp2_with fail
    refine hc.out.mono ?_
    rintro e w' ⟨rfl, rfl⟩
    go_wp2_with fail
    go_ret
    exact ⟨rfl, rfl⟩
  · rw [hq] at hc
    replace hc := Lib.hid hc
    rw [Bool.true_and]
    generalize decide ((2 : Int) ≤ (bs.length : Int) ∧ (bs.length : Int) ≤ 3) = r at hin ⊢
    clear h hs hq
    go_enter Tryd.func12, Tryd.ntmps12
    go_wp2_with fail
    refine hc.out.mono ?_
    rintro e w' ⟨rfl, rfl⟩
    go_wp2_with fail
    refine (hin.out _).mono ?_
    rintro e w' ⟨rfl, rfl⟩
    go_wp2_with fail
    go_ret
    exact ⟨rfl, rfl⟩
set_option maxHeartbeats 6400000 in
theorem spec_ReplaceLetters (A : Option Addr) (ss : List ByteArray) (c : Nat) (A' : Option Addr) (bs : List ByteArray) (c' : Nat) (w : World) (h : Row w w.heap.size A (strs ss)) (_hcap : ss.length ≤ c) (hl : ss.length ≤ 9223372036854775807) (hs : ∀ s ∈ ss, s.size ≤ 9223372036854775807)
    (h' : Row w w.heap.size A' (strs bs)) (_hcap' : bs.length ≤ c') (hl' : bs.length ≤ 9223372036854775807) (hs' : ∀ s ∈ bs, s.size ≤ 9223372036854775807) :
    Calls Tryd.prog 5 #[.slice A ss.length c, .slice A' bs.length c'] w (OkStrs w (rpOf ss bs) (rpOk ss bs)) := by
  have hc := spec_wdSet A ss c w h hl hs
  cases hq : W.isSet ss
  · have hno : rpOk ss bs = false := by unfold rpOk rpAsk W.krSet; rw [hq]; simp
    rw [rpOf_no hno, hno]
    rw [hq] at hc
    replace hc := Lib.hid hc
    clear h hs hq hno h' hs'
    go_enter Tryd.func5, Tryd.ntmps5
    go_wp2_with fail
    refine hc.out.mono ?_
    rintro e w1 ⟨rfl, rfl⟩
    go_wp2_with fail
    go_ret2
    exact okStrs_nil _ _ _ (Below.refl _ _)
  · rw [hq] at hc
    replace hc := Lib.hid hc
    have hb := spec_pfBy A' bs c' w h' hl' hs'
    cases hby : (W.isSet bs && W.krLet (bs.length : Int))
    · have hno : rpOk ss bs = false := by
        unfold rpOk rpAsk W.krSet
        cases h1 : W.isSet bs
        · rfl
        · rw [h1, Bool.true_and] at hby
          rw [hby]
          rfl
      rw [rpOf_no hno, hno]
      rw [hby] at hb
      replace hb := Lib.hid hb
      clear h hs hq hno h' hs' hby
      go_enter Tryd.func5, Tryd.ntmps5
      go_wp2_with fail
      refine hc.out.mono ?_
      rintro e w1 ⟨rfl, rfl⟩
      go_wp2_with fail
      refine hb.out.mono ?_
      rintro e w1 ⟨rfl, rfl⟩
      go_wp2_with fail
      go_ret2
      exact okStrs_nil _ _ _ (Below.refl _ _)
    · rw [hby] at hb
      replace hb := Lib.hid hb
      have hby2 := hby
      rw [Bool.and_eq_true] at hby2
      have h12 := W.isSet_len ss hq
      have Hq := Lib.hid (And.intro hq hby2)
      have Hsh := Lib.hid (fun k hk => W.isSet_short ss hq k hk)
      have Hrow := Lib.hid h
      have Hrow' := Lib.hid h'
      have hpr := Lib.hid (fun (s : ByteArray) (u : World) (hB : Below w.heap.size w u) (hs : W.short s = true) => spec_pfReplace A' bs c' s u ((Hrow'.out.below hB).more hB.size) Hq.out.2.1 hs)
      have Hsz := Lib.hid (rpAll_size hq hby2.1)
      have hrl := rpAll_len ss bs
      clear h hs hq h' hs' hby hby2
      go_enter Tryd.func5, Tryd.ntmps5
      go_wp2_with fail
      refine hc.out.mono ?_
      rintro e w1 ⟨rfl, rfl⟩
      go_wp2_with fail
      refine hb.out.mono ?_
      rintro e w1 ⟨rfl, rfl⟩
      go_wp2_with fail
      go_loopw [6, 21] (fun v i wr => ∃ (k : Nat) (acc : List ByteArray), acc = (rpAll ss bs).take k ∧ k ≤ ss.length ∧ i = .int .i64 k ∧ Hid ((ordB acc).length = k ∧ ∀ j, j < k → W.krWd (bs.length : Int) (W.nth ss j).data.toList = true) ∧ wr.ownsRow w.heap.size 9 1 v (ordB acc).length (strs (ordB acc)) ∧ Below w.heap.size w wr)
        (fun _ i _ => ss.length - (intOf i).toNat)
      case atStart => exact ⟨0, [], rfl, Nat.zero_le _, rfl, ⟨rfl, fun j hj => absurd hj (Nat.not_lt_zero _)⟩, World.ownsRow_nil _ _ _ _, Below.refl _ _⟩
      case round =>
        obtain ⟨k, acc, hacc, hk, rfl, hT, ho, hB⟩ := hrel
        obtain ⟨Ar, cr, rfl⟩ := own_slice ho
        have hO := Lib.hid (And.intro ho hB)
        have hol : acc.length ≤ 12 := by rw [hacc, List.length_take]; omega
        have hoo := ord_length acc
        clear ho hB
        by_cases hlt : k < ss.length
        · obtain ⟨b, off, rfl, hb1, hcc⟩ := Hrow.out (by rw [strs_length]; omega)
          have hlt' : (k : Int) < (ss.length : Int) := by omega
          have c1 := (hO.out.2.cell (p := ⟨b, off + k, none⟩) hb1).trans (hcc k _ (strs_nth ss k hlt))
          clear hcc
          have hp1 := hpr.out (W.nth ss k) wr hO.out.2 (Hsh.out k hlt)
          have Hs := Lib.hid (show (rpAll ss bs).take (k + 1) = acc ++ [rpB bs (W.nth ss k)] by rw [hacc, rpAll_succ ss bs k hlt])
          have Hmm := Lib.hid (show W.nth ss k ∈ ss by rw [W.nth_lt ss k hlt]; exact List.getElem_mem hlt)
          have Hdup := Lib.hid (show rpB bs (W.nth ss k) ∈ ordB acc → (ordB (rpAll ss bs)).length < ss.length from fun e => rp_dup hlt (by rw [← hacc]; exact e))
          have HT2 := Lib.hid (show W.krWd (bs.length : Int) (W.nth ss k).data.toList = true → ∀ j, j < k + 1 → W.krWd (bs.length : Int) (W.nth ss j).data.toList = true from fun e j hj => by
            by_cases e2 : j = k
            · subst e2; exact e
            · exact hT.out.2 j (by omega))
          unfold rpTx at hp1
          clear hacc
          generalize W.nth ss k = s at c1 hp1 Hs Hmm Hdup HT2
          cases hkw : W.krWd (bs.length : Int) s.data.toList
          · have hno : rpOk ss bs = false := by
              unfold rpOk rpAsk W.krSet
              have : (ss.all fun s => W.krWd (bs.length : Int) s.data.toList) = false := by
                rw [List.all_eq_false]
                exact ⟨s, Hmm.out, by rw [hkw]; simp⟩
              rw [this]
              simp
            have Hno := Lib.hid (And.intro hno (rpOf_no hno))
            rw [hkw] at hp1
            replace hp1 := Lib.hid hp1
            clear hno hkw
            go_wp2_with fail
            refine hp1.out.mono ?_
            rintro e w' ⟨rfl, rfl⟩
            go_wp2_with fail
            go_ret2
            rw [Hno.out.1, Hno.out.2]
            exact okStrs_nil _ _ _ hO.out.2
          · rw [hkw] at hp1
            have HT3 := Lib.hid (HT2.out hkw)
            have hp1' : Hid (Calls Tryd.prog 13 #[.string s, .slice A' bs.length c'] wr fun e w' => e = .returned (.tuple #[.string (rpB bs s), .bool true]) ∧ wr = w') := hp1
            clear hp1 hkw HT2
            generalize rpB bs s = t at hp1' Hs Hdup
            have hhas := spec_wdHas Ar (ordB acc) cr t wr (Row.of_own hO.out.1) (by omega)
            cases hh : hasB (ordB acc) t
            · rw [hh] at hhas
              replace hhas := Lib.hid hhas
              have hmem : t ∉ ordB acc := fun e => by rw [hasB_mem.2 e] at hh; cases hh
              have Hlen := Lib.hid (show (ordB (acc ++ [t])).length = k + 1 by rw [ord_snoc, putB_len hmem, hT.out.1])
              have hput := spec_wdPut w.heap.size Ar (ordB acc) cr t wr hO.out.1 hO.out.2.size (by omega)
              rw [show putB (ordB acc) t = ordB (acc ++ [t]) from (ord_snoc acc t).symm] at hput
              replace hput := Lib.hid hput
              clear hh hmem hT
              generalize acc ++ [t] = a3 at Hs hput Hlen
              generalize ordB acc = x2 at hO hput hhas hoo
              go_wp2_with fail
              refine hp1'.out.mono ?_
              rintro e w' ⟨rfl, rfl⟩
              go_wp2_with fail
              refine hhas.out.mono ?_
              rintro e w' ⟨rfl, rfl⟩
              go_wp2_with fail
              refine hput.out.mono ?_
              rintro e w2 ⟨A2, c2, rfl, ho2, hB2⟩
              have hO2 := Lib.hid (And.intro ho2 hB2)
              clear ho2 hB2
              go_wp2
              go_roundw
              case rel => exact ⟨k + 1, a3, Hs.out.symm, by omega, by go_num, ⟨Hlen.out, HT3.out⟩, hO2.out.1, hO.out.2.trans (hO2.out.2.mono hO.out.2.size)⟩
              case measure => simp [intOf]; omega
            · have hno : rpOk ss bs = false := by
                unfold rpOk
                rw [decide_eq_true (Hdup.out (hasB_mem.1 hh))]
                simp
              have Hno := Lib.hid (And.intro hno (rpOf_no hno))
              rw [hh] at hhas
              replace hhas := Lib.hid hhas
              clear hh hno
              generalize ordB acc = x2 at hO hhas hoo hT
              go_wp2_with fail
              refine hp1'.out.mono ?_
              rintro e w' ⟨rfl, rfl⟩
              go_wp2_with fail
              refine hhas.out.mono ?_
              rintro e w' ⟨rfl, rfl⟩
              go_wp2_with fail
              go_ret2
              rw [Hno.out.1, Hno.out.2]
              exact okStrs_nil _ _ _ hO.out.2
        · obtain rfl : k = ss.length := by omega
          rw [List.take_of_length_le (by omega)] at hacc
          have hask : rpAsk ss bs = true := by
            unfold rpAsk W.krSet
            rw [Hq.out.1, Hq.out.2.1, Hq.out.2.2, Bool.true_and, Bool.true_and, Bool.true_and, List.all_eq_true]
            intro s hs
            obtain ⟨j, hj, rfl⟩ := List.getElem_of_mem hs
            have := hT.out.2 j hj
            rwa [W.nth_lt ss j hj] at this
          have hfin : rpOk ss bs = anOk acc ∧ rpOf ss bs = anOf acc := by
            have e : rpOk ss bs = anOk acc := by
              unfold rpOk
              rw [hask, ← hacc, hT.out.1, decide_eq_false (Nat.lt_irrefl _)]
              simp
            refine ⟨e, ?_⟩
            unfold rpOf anOf
            rw [e, hacc]
          have Hfin := Lib.hid hfin
          have Hif := Lib.hid (spec_wdIf_any Ar acc cr wr w.heap.size hO.out.1 (by omega) (fun x hx => by rw [hacc] at hx; have := Hsz.out x hx; omega))
          have HB := Lib.hid hO.out.2
          clear hO hacc hfin hask hT
          generalize ordB acc = ac2 at Hif
          go_wp2_with (go_at_call 16; refine Hif.out.mono ?_; rintro e w2 ⟨v, rfl, ho2, rfl⟩)
          have HO2 := Lib.hid ho2
          clear ho2
          go_ret2
          rw [Hfin.out.1, Hfin.out.2]
          exact okStrs_of HO2.out rfl HB.out
end Go.Proofs.YtnbgehaliicbnaaDoor
