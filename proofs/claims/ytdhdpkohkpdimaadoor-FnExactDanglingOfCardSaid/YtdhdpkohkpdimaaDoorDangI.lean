/-
  WHAT THIS FILE PROVES: the dangling lists of a set: the specification's and the program's functions hand back slices of slices of their own that read as the plain lists; asked: a slice of texts in memory, lengths that an int holds.
-/
import Derived.Test.YtdhdpkohkpdimaaDoorEnds
import Derived.Test.YtdhdpkohkpdimaaDoorSeen
import Derived.Test.YtdhdpkohkpdimaaDoorSConcat
namespace Go.Proofs.YtdhdpkohkpdimaaDoor
open Go.RowKit Go.Shelf

/-- what DanglingOf tells -/
def dgOf (ss : List ByteArray) : List (List ByteArray) := if W.isSet ss then dLists ss (dLast ss + 1) else []
theorem dgOf_no {ss : List ByteArray} (h : W.isSet ss = false) : dgOf ss = [] := by unfold dgOf; rw [h]; rfl
theorem dgOf_yes {ss : List ByteArray} (h : W.isSet ss = true) : dgOf ss = dLists ss (dLast ss + 1) := by unfold dgOf; rw [h]; rfl

theorem dLast_le (ss : List ByteArray) : dLast ss ≤ 400000000000 := by
  have key : ∀ f k, dFind ss f k ≤ k + f := by
    intro f
    induction f with
    | zero => intro k; exact Nat.le_refl _
    | succ f ih =>
      intro k
      unfold dFind
      split
      · omega
      · have := ih (k + 1)
        omega
  have := key 400000000000 0
  unfold dLast
  omega
theorem dgOf_len (ss : List ByteArray) : (dgOf ss).length ≤ 400000000001 := by
  cases h : W.isSet ss
  · rw [dgOf_no h]; simp
  · rw [dgOf_yes h, dLists_length]
    have := dLast_le ss
    omega
theorem dgOf_bd (ss : List ByteArray) : offS (dgOf ss) (dgOf ss).length ≤ 1125899906842624 ∧ ∀ x ∈ dgOf ss, x.length ≤ 1125899906842624 := by
  have h84 : ∀ x ∈ dgOf ss, x.length ≤ 84 := fun x hx => by
    cases h : W.isSet ss
    · rw [dgOf_no h] at hx; simp at hx
    · rw [dgOf_yes h] at hx
      unfold dLists at hx
      obtain ⟨n, _, rfl⟩ := List.mem_map.1 hx
      exact dl_length h n
  refine ⟨?_, fun x hx => by have := h84 x hx; omega⟩
  have h1 := offS_bd _ 84 h84 _ (Nat.le_refl _)
  have h2 := dgOf_len ss
  omega

theorem spec_DanglingOf (A : Option Addr) (ss : List ByteArray) (c : Nat) (w : World) (h : Row w w.heap.size A (strs ss)) (hl : ss.length ≤ 9223372036854775807) (hs : ∀ s ∈ ss, s.size ≤ 9223372036854775807) :
    Calls Tryd.prog 16 #[.slice A ss.length c] w (OkSS 22 9 w (strss (dgOf ss)) (W.isSet ss)) := by
  have hc := spec_wdSet A ss c w h hl hs
  cases hq : W.isSet ss
  · rw [dgOf_no hq]
    rw [hq] at hc
    replace hc := Lib.hid hc
    clear h hs hq
    go_enter Tryd.func16, Tryd.ntmps16
    go_wp2_with (go_at_call 29; refine hc.out.mono ?_; rintro e w' ⟨rfl, rfl⟩)
    go_ret2
    exact okSS_nil _ _ _ _ _ (Below.refl _ _)
  · rw [dgOf_yes hq]
    have hd := Lib.hid (spec_dcLists A ss c w h hq)
    rw [hq] at hc
    replace hc := Lib.hid hc
    clear h hs hq
    generalize strss (dLists ss (dLast ss + 1)) = xss at hd ⊢
    go_enter Tryd.func16, Tryd.ntmps16
    go_wp2_with (first | (go_at_call 29; refine hc.out.mono ?_; rintro e w' ⟨rfl, rfl⟩) | (go_at_call 35; refine hd.out.mono ?_; rintro e w1 ⟨A1, c1, rfl, ho, hB⟩))
    go_ret2
    exact ⟨A1, c1, rfl, ho, hB⟩

/-- the text by which a list is known -/
def dText (l : List ByteArray) : List UInt8 := Lib.join (W.bytes l) [44]
/-- the texts of the first n lists -/
def dSeen (ss : List ByteArray) : Nat → List UInt8 → Bool
  | 0 => fun _ => false
  | n + 1 => fun s => decide (s = dText (dl ss n)) || dSeen ss n s
theorem dSeen_old {ss : List ByteArray} (h : W.isSet ss = true) (n : Nat) (hn : dl ss n ≠ []) : ∀ m, (∀ k, k < m → dl ss k ≠ []) → dSeen ss m (dText (dl ss n)) = oldTo ss n m
  | 0, _ => rfl
  | m + 1, hm => by
    have ih := dSeen_old h n hn m (fun k hk => hm k (by omega))
    show (decide (dText (dl ss n) = dText (dl ss m)) || dSeen ss m (dText (dl ss n))) = _
    rw [ih, oldTo_succ, Bool.or_comm]
    congr 1
    by_cases e : dl ss m = dl ss n
    · rw [decide_eq_true e, e]
      exact decide_eq_true rfl
    · rw [decide_eq_false e]
      exact decide_eq_false (fun e2 => e (texts_inj (fun x hx => (dl_word h m x hx).2.2) (fun x hx => (dl_word h n x hx).2.2) (hm m (by omega)) hn e2.symm))
theorem dText_len {ss : List ByteArray} (h : W.isSet ss = true) (n : Nat) : (dText (dl ss n)).length ≤ 1000 := by
  unfold dText
  have h1 := W.tx_join (dl ss n) (dl ss n).length (Nat.le_refl _)
  rw [List.take_length] at h1
  rw [← h1, ← Lib.size_eq]
  have h2 := W.tx_size (dl ss n) 8 (dl ss n).length (fun i hi => by
    rw [W.nth_lt _ i hi]
    have := dl_word h n _ (List.getElem_mem hi)
    omega)
  have h3 := dl_length h n
  omega
theorem two_rows (w : World) (v1 v2 : Value) (t : TypeId) : (w.alloc (.cells #[v1, v2] t)).cell? ⟨w.heap.size, 0, none⟩ = some v1 ∧ (w.alloc (.cells #[v1, v2] t)).cell? ⟨w.heap.size, 1, none⟩ = some v2 :=
  ⟨by rw [World.cell?_alloc_at _ _ _ _ rfl]; rfl, by rw [World.cell?_alloc_at _ _ _ _ rfl]; rfl⟩

theorem OwnAt.kept_map {w w' : World} {base b n : Nat} {E e : TypeId} {v : Value} {vs : List Value} {xss : List (List Value)} {f : List UInt8 → Bool} (h : OwnAt w base E e v vs xss) (hM : SeenAt w b n f) (hg : w.grownBy w' (some b)) : OwnAt w' base E e v vs xss :=
  h.kept hg (by have := hM.ne h.own; exact .inr (fun e => this e.symm)) (fun u hu => by
    obtain ⟨i, hi, rfl⟩ := List.getElem_of_mem hu
    have hl := h.len
    obtain ⟨A, c, h1, h2⟩ := h.inner i (xss[i]'(by omega)) (List.getElem?_eq_getElem (by omega))
    rw [List.getElem?_eq_getElem hi] at h1
    injection h1 with h1
    rw [h1]
    have := hM.ne h2
    exact .inr (fun e => this e.symm))

set_option maxHeartbeats 3200000 in
theorem impl_DanglingOf (A : Option Addr) (ss : List ByteArray) (c : Nat) (w : World) (h : Row w w.heap.size A (strs ss)) (hl : ss.length ≤ 9223372036854775807) (hs : ∀ s ∈ ss, s.size ≤ 9223372036854775807) :
    Calls Tryd.prog 17 #[.slice A ss.length c] w (OkSS 22 9 w (strss (dgOf ss)) (W.isSet ss)) := by
  have hc := impl_IsSet A ss c w h hl hs
  cases hq : W.isSet ss
  · rw [dgOf_no hq]
    rw [hq] at hc
    replace hc := Lib.hid hc
    clear h hs hq
    go_enter Tryd.func17, Tryd.ntmps17
    go_wp2_with (go_at_call 31; refine hc.out.mono ?_; rintro e w1 ⟨rfl, hB⟩)
    go_ret2
    exact okSS_nil _ _ _ _ _ hB
  · rw [dgOf_yes hq]
    rw [hq] at hc
    replace hc := Lib.hid hc
    have Hset := Lib.hid hq
    have h12 := W.isSet_len ss hq
    replace h := Lib.hid h
    have hmm := @run_makeMap Tryd.prog
    obtain ⟨i0, hi, hz0, hz1, hz2⟩ := info_parts infoStrs
    have HR := Lib.hid (And.intro hi (And.intro hz0 (And.intro hz1 hz2)))
    clear hs hq hi hz0 hz1 hz2
    go_enter Tryd.func17, Tryd.ntmps17
    go_wp2_with fail
    refine hc.out.mono ?_
    rintro e w1 ⟨rfl, hB⟩
    have H1 := Lib.hid (hB.alloc hB.size (.map #[] 0))
    have HM1 := Lib.hid (seen_made w1)
    have hz1 := hB.size
    clear hB
    go_wp2_with fail
    have hq1 := Lib.hid (impl_restsOf A ss c A ss c (w1.alloc (.map #[] 0)) ((h.out.below H1.out).more H1.out.size) ((h.out.below H1.out).more H1.out.size) (by omega) (by omega))
    refine hq1.out.mono ?_
    rintro e w2 ⟨A2, c2, rfl, ho2, hB2⟩
    have H2 := Lib.hid (H1.out.trans (hB2.mono H1.out.size))
    have HM2 := Lib.hid (HM1.out.below hB2)
    have hr2 := rests_len ss ss
    have hr2' : ss.length * ss.length ≤ 12 * 12 := Nat.mul_le_mul h12 h12
    have hq2 := Lib.hid (impl_inOrder A2 (rests ss ss) c2 w2 (Row.of_own ho2) (by omega))
    clear hB2 ho2 hq1 H1 HM1 hr2 hr2'
    go_wp2_with fail
    refine hq2.out.mono ?_
    rintro e w3 ⟨A3, c3, rfl, ho3, hB3⟩
    have H3 := Lib.hid (And.intro (own_base ho3 H2.out.size) (And.intro (H2.out.trans (hB3.mono H2.out.size)) (HM2.out.below hB3)))
    clear hB3 ho3 hq2 H2 HM2 hmm
    go_wp2_with fail
    go_loopw [4, 6] (fun v nv wr => ∃ (n : Nat) (vs : List Value), (Hid (∀ m, m < n → dStop ss m = false)) ∧ lenV v = n ∧ OwnAt wr w.heap.size 22 9 v vs (strss (dLists ss n)) ∧ wr.ownsRow w.heap.size 9 1 nv (dl ss n).length (strs (dl ss n)) ∧ (∀ u ∈ vs, u.ownBlock = none ∨ u.ownBlock ≠ nv.ownBlock) ∧ Below w.heap.size w wr ∧ SeenAt wr w1.heap.size n (dSeen ss n))
      (fun v _ _ => 400000000001 - lenV v)
    case atStart => exact ⟨0, [], fun _ h => absurd h (Nat.not_lt_zero _), rfl, ownAt_nil _ _ _ _, H3.out.1, fun u hu => by simp at hu, H3.out.2.1, H3.out.2.2⟩
    case round =>
      clear H3
      obtain ⟨n, vs, hns, hlv, hV, hN, hsep, hB, hM⟩ := hrel
      obtain ⟨Av, cv, rfl⟩ := own_slice hV.own
      have hlen0 : (strss (dLists ss n)).length = n := by rw [strss_length, dLists_length]
      clear hlv
      rw [hlen0] at hV ⊢
      obtain ⟨An, cn, rfl⟩ := own_slice hN
      have hfew := dStop_few Hset.out n hns.out
      have hcapn := own_cap hN
      have hO := Lib.hid (And.intro hV (And.intro hN (And.intro hsep (And.intro hB hM))))
      have hsz := hB.size
      replace hlen0 := Lib.hid hlen0
      clear hV hN hsep hB hM
      have hl84 := dl_length Hset.out n
      have hend := Lib.hid (impl_endsDangling An (dl ss n) cn A ss c wr (Row.of_own hO.out.2.1) ((h.out.below hO.out.2.2.2.1).more hsz) (by omega) (by omega))
      have hds : Hid (dStop ss n = (oldTo ss n n || dHit ss (dl ss n) || (dl ss n).isEmpty)) := rfl
      cases hr : ((dl ss n).isEmpty || dHit ss (dl ss n))
      · rw [hr] at hend
        have hne : (dl ss n).isEmpty = false := by
          cases hx : (dl ss n).isEmpty
          · rfl
          · rw [hx] at hr; simp at hr
        have hnn : dl ss n ≠ [] := by
          intro e
          rw [e] at hne
          simp at hne
        have hhit : dHit ss (dl ss n) = false := by
          rw [hne, Bool.false_or] at hr
          exact hr
        have Hds2 : Hid (dStop ss n = oldTo ss n n) := by
          show _ = _
          rw [hds.out, hhit, hne, Bool.or_false, Bool.or_false]
        have Hold := Lib.hid (dSeen_old Hset.out n hnn n (fun k hk => dStop_ne (hns.out k hk)))
        have hdt := dText_len Hset.out n
        clear hr hne hnn hhit hds
        go_wp2_with fail
        refine hend.out.mono ?_
        rintro e w4 ⟨rfl, hB4⟩
        have H4 := Lib.hid (And.intro (hO.out.1.below hB4) (And.intro (own_below hO.out.2.1 hB4) (And.intro hO.out.2.2.1 (And.intro (hO.out.2.2.2.1.trans (hB4.mono hsz)) (hO.out.2.2.2.2.below hB4)))))
        have hsz4 := hB4.size
        clear hB4 hO hend
        have hj := fun (V : World) hr => join_any An (dl ss n) cn ⟨#[44]⟩ V hr hcapn (by omega) (by show (dText (dl ss n)).length ≤ _; omega)
        have hje : Hid ((⟨(Lib.join (W.bytes (dl ss n)) (⟨#[44]⟩ : ByteArray).data.toList).toArray⟩ : ByteArray).data.toList = dText (dl ss n)) := rfl
        generalize (⟨(Lib.join (W.bytes (dl ss n)) (⟨#[44]⟩ : ByteArray).data.toList).toArray⟩ : ByteArray) = x at hj hje
        have hxs : x.size ≤ 1000 := by rw [Lib.size_eq, hje.out]; exact hdt
        replace hj := Lib.hid hj
        go_wp2_with fail
        refine (hj.out w4 (Row.of_own H4.out.2.1)).mono ?_
        rintro e w5 ⟨rfl, hB5⟩
        have H5 := Lib.hid (And.intro (H4.out.1.below hB5) (And.intro (own_below H4.out.2.1 hB5) (And.intro H4.out.2.2.1 (And.intro (H4.out.2.2.2.1.trans (hB5.mono H4.out.2.2.2.1.size)) (H4.out.2.2.2.2.below hB5)))))
        have hsz5 := H5.out.2.2.2.1.size
        clear hB5 H4
        have hlk := seen_look H5.out.2.2.2.2 x (by unfold maxLen; omega)
        rw [hje.out, Hold.out] at hlk
        cases hd : dStop ss n
        · rw [hd] at Hds2
          rw [← Hds2.out] at hlk
          have hns2 : Hid (∀ m, m < n + 1 → dStop ss m = false) := fun m hm => by
            by_cases e : m = n
            · subst e; exact hd
            · exact hns.out m (by omega)
          clear hd Hds2 Hold
          obtain ⟨D, hM1, hM2, hM3⟩ := H5.out.2.2.2.2
          have HM := Lib.hid (And.intro hM1 (And.intro hM2 hM3))
          clear hM1 hM2 hM3
          go_wp2_with fail
          refine (hj.out w5 (Row.of_own H5.out.2.1)).mono ?_
          rintro e w6 ⟨rfl, hB6⟩
          have H6 := Lib.hid (And.intro (H5.out.1.below hB6) (And.intro (own_below H5.out.2.1 hB6) (And.intro H5.out.2.2.1 (And.intro (H5.out.2.2.2.1.trans (hB6.mono hsz5)) (H5.out.2.2.2.2.below hB6)))))
          have hM6 := Lib.hid (HM.out.1.kept (w' := w6) (row := none) ⟨hB6.os, hB6.tape, hB6.output, hB6.size, fun k hk _ => hB6.block k hk⟩ (by simp))
          clear hB6 hlk H5 hsz5
          go_wp2_with (at_mapUpdate; refine wpList_mapUpdate_own _ rfl _ _ _ 44 rfl 9 4 (Maps.string_keyed Tryd.underlying9) Tryd.underlying44 _ w1.heap.size n D rfl hM6.out (by unfold maxLen; omega) (.string x) (.bool true) (.string x.data.toList) rfl rfl (WideMaps.keyOf_string_mk Tryd.underlying9 (by unfold maxLen; omega)) (.lit (.bool true)) [] (plainElem_bool Tryd.underlying4 true) ?_)
          intro w7 hmap7 hg7
          have hM7 := SeenAt.put HM.out.2.1 HM.out.2.2 x.data.toList hmap7
          rw [hje.out] at hM7
          have hV7 := H6.out.1.kept_map H6.out.2.2.2.2 hg7
          have hN7 := H6.out.2.1.kept hg7 (by
            have := H6.out.2.2.2.2.ne H6.out.2.1
            exact .inr (fun e => this e.symm))
          have hB7 := H6.out.2.2.2.1.grown hg7 H6.out.2.2.2.1.size (fun g hg => by injection hg with hg; omega)
          have H7 := Lib.hid (And.intro hV7 (And.intro hN7 (And.intro H6.out.2.2.1 hB7)))
          have HM7 := Lib.hid (show SeenAt w7 w1.heap.size (n + 1) (dSeen ss (n + 1)) from hM7)
          clear hM7 hV7 hN7 hB7 hmap7 hg7 H6 hM6 HM
          have hV4 := H7.out.1.below ((Below.refl w7.heap.size w7).alloc (Nat.le_refl _) (.cells #[.slice An (dl ss n).length cn] 22))
          have hN4 := own_below H7.out.2.1 ((Below.refl w7.heap.size w7).alloc (Nat.le_refl _) (.cells #[.slice An (dl ss n).length cn] 22))
          have hB4 := H7.out.2.2.2.alloc (H7.out.2.2.2.size) (.cells #[.slice An (dl ss n).length cn] 22)
          have hown4 := hV4.own
          rw [hlen0.out] at hown4
          have H4 := Lib.hid (And.intro hV4 (And.intro hN4 hB4))
          have HW4 := Lib.hid hown4
          have hSep := Lib.hid H7.out.2.2.1
          have hszW := H7.out.2.2.2.size
          clear hV4 hN4 hB4 hown4
          go_wp2_with (at_builtin; refine wpList_append_own _ rfl _ _ 28 rfl w.heap.size 22 i0 (.slice none 0 0) 1 24 Tryd.underlying28 HR.out.1 HR.out.2.1 HR.out.2.2.1 HR.out.2.2.2 rfl (by decide) (.slice Av n cv) n vs rfl HW4.out ⟨w7.heap.size, 0, none⟩ 1 1 [.slice An (dl ss n).length cn] rfl rfl (cells_oneS _ _ _) (one_sliceS _ _ _) (by unfold maxLen; omega) (by omega) (by simp; omega) ?_)
          intro v5 w5 ho5 hg5 _
          have hP5 := OwnAt.push (by decide) H4.out.1 (v' := v5) (by rw [strs_length]; exact H4.out.2.1) (by rw [strs_length]; exact hSep.out) (by rw [hlen0.out, strs_length]; exact ho5) hg5
          rw [strs_length] at hP5
          have hB5 := H4.out.2.2.grown hg5 (by simp; omega) (fun g hg => (HW4.out.lt g hg).1)
          have hst : Hid (strss (dLists ss n) ++ [strs (dl ss n)] = strss (dLists ss (n + 1))) := by
            show _ = _
            rw [dLists_succ, strss_snoc]
          rw [hst.out] at hP5
          have hM5 := (HM7.out.below ((Below.refl w7.heap.size w7).alloc (Nat.le_refl _) (.cells #[.slice An (dl ss n).length cn] 22))).kept hg5 ((HM7.out.below ((Below.refl w7.heap.size w7).alloc (Nat.le_refl _) (.cells #[.slice An (dl ss n).length cn] 22))).ne HW4.out)
          have hN5 := H4.out.2.1.kept hg5 (own_apart H4.out.2.1 HW4.out (by decide))
          obtain ⟨A5, c5, rfl⟩ := own_slice ho5
          have H5 := Lib.hid (And.intro hP5 (And.intro hN5 (And.intro hB5 hM5)))
          have hsz5 := hB5.size
          clear hP5 hN5 hB5 hM5 ho5 hg5 H4 HW4 H7 HM7
          have hm := Nat.mul_le_mul h12 hl84
          have hb1 := rests_1008 (a := ss) (b := dl ss n) (by omega)
          have hb2 := rests_1008 (a := dl ss n) (b := ss) (by rw [Nat.mul_comm]; omega)
          have hq1 := Lib.hid (impl_restsOf A ss c An (dl ss n) cn w5 ((h.out.below H5.out.2.2.1).more hsz5) (Row.of_own H5.out.2.1) (by omega) (by omega))
          clear hm
          go_wp2_with fail
          refine hq1.out.mono ?_
          rintro e w8 ⟨A8, c8, rfl, ho8, hB8⟩
          have H8 := Lib.hid (And.intro (H5.out.1.below hB8) (And.intro (own_below H5.out.2.1 hB8) (And.intro (H5.out.2.2.1.trans (hB8.mono hsz5)) (H5.out.2.2.2.below hB8))))
          have HR8 := Lib.hid (Row.of_own ho8)
          have hsz8 := H8.out.2.2.1.size
          clear ho8 hB8 H5 hq1
          have hq2 := Lib.hid (impl_restsOf An (dl ss n) cn A ss c w8 (Row.of_own H8.out.2.1) ((h.out.below H8.out.2.2.1).more hsz8) (by omega) (by omega))
          go_wp2_with fail
          refine hq2.out.mono ?_
          rintro e w9 ⟨A9, c9, rfl, ho9, hB9⟩
          have H9 := Lib.hid (And.intro (H8.out.1.below hB9) (And.intro (H8.out.2.2.1.trans (hB9.mono hsz8)) (H8.out.2.2.2.below hB9)))
          have HR9 := Lib.hid (And.intro ((HR8.out.below hB9).more hB9.size) (Row.of_own ho9))
          have hsz9 := H9.out.2.1.size
          clear ho9 hB9 H8 HR8 hq2
          have hBa := Lib.hid ((Below.refl w9.heap.size w9).alloc (Nat.le_refl _) (.cells #[.slice A8 (rests ss (dl ss n)).length c8, .slice A9 (rests (dl ss n) ss).length c9] 22))
          have hq3 := Lib.hid (slices_Concat2 w9.heap.size A8 A9 (rests ss (dl ss n)) (rests (dl ss n) ss) c8 c9 (w9.alloc (.cells #[.slice A8 (rests ss (dl ss n)).length c8, .slice A9 (rests (dl ss n) ss).length c9] 22)) (by simp) (two_rows _ _ _ _).1 (two_rows _ _ _ _).2 ((HR9.out.1.below hBa.out).more hBa.out.size) ((HR9.out.2.below hBa.out).more hBa.out.size) (by omega) (by omega))
          have hcl : (rests ss (dl ss n) ++ rests (dl ss n) ss).length ≤ 2016 := by rw [List.length_append]; omega
          have Hord : Hid (ordB (rests ss (dl ss n) ++ rests (dl ss n) ss) = dl ss (n + 1)) := rfl
          generalize rests ss (dl ss n) ++ rests (dl ss n) ss = ct at hq3 hcl Hord
          go_wp2_with fail
          refine hq3.out.mono ?_
          rintro e w10 ⟨A10, c10, rfl, ho10, hB10⟩
          have hBx := Lib.hid (hBa.out.trans (hB10.mono hBa.out.size))
          have H10 := Lib.hid (And.intro (H9.out.1.below hBx.out) (And.intro (H9.out.2.1.trans (hBx.out.mono hsz9)) (H9.out.2.2.below hBx.out)))
          have hsz10 := H10.out.2.1.size
          have HR10 := Lib.hid (Row.of_own ho10)
          clear ho10 hB10 H9 HR9 hq3 hBa hBx
          have hq4 := Lib.hid (impl_inOrder A10 ct c10 w10 HR10.out (by omega))
          go_wp2_with fail
          refine hq4.out.mono ?_
          rintro e w11 ⟨A11, c11, rfl, ho11, hB11⟩
          have hsep11 : ∀ u ∈ vs ++ [Value.slice An (dl ss n).length cn], u.ownBlock = none ∨ u.ownBlock ≠ (Value.slice A11 (ordB ct).length c11).ownBlock := fun u hu => by
            cases hb : u.ownBlock with
            | none => exact .inl rfl
            | some g =>
              right
              intro e
              have h1 := (H10.out.1.lt u hu g hb).2
              have h2 := (ho11.lt g e.symm).1
              omega
          have HF := Lib.hid (And.intro (H10.out.1.below hB11) (And.intro (own_base ho11 hsz10) (And.intro hsep11 (And.intro (H10.out.2.1.trans (hB11.mono hsz10)) (H10.out.2.2.below hB11)))))
          clear ho11 hB11 hsep11 H10 HR10 hq4
          rw [Hord.out] at HF ⊢
          go_wp2
          go_roundw
          case rel => exact ⟨n + 1, _, hns2, rfl, HF.out.1, HF.out.2.1, HF.out.2.2.1, HF.out.2.2.2.1, HF.out.2.2.2.2⟩
          case measure => simp [lenV]; omega
        · have hstop := Lib.hid hd
          rw [hd] at Hds2
          rw [← Hds2.out] at hlk
          clear hd Hds2 Hold
          have HT := Lib.hid (And.intro H5.out.1 (And.intro H5.out.2.1 (And.intro H5.out.2.2.1 H5.out.2.2.2.1)))
          clear H5
          have hV4 := HT.out.1.below ((Below.refl w5.heap.size w5).alloc (Nat.le_refl _) (.cells #[.slice An (dl ss n).length cn] 22))
          have hN4 := own_below HT.out.2.1 ((Below.refl w5.heap.size w5).alloc (Nat.le_refl _) (.cells #[.slice An (dl ss n).length cn] 22))
          have hB4 := HT.out.2.2.2.alloc (HT.out.2.2.2.size) (.cells #[.slice An (dl ss n).length cn] 22)
          have hown4 := hV4.own
          rw [hlen0.out] at hown4
          have H4 := Lib.hid (And.intro hV4 (And.intro hN4 hB4))
          have HW4 := Lib.hid hown4
          have hSep := Lib.hid HT.out.2.2.1
          have hszW := HT.out.2.2.2.size
          clear hV4 hN4 hB4 hown4
          go_wp2_with (at_builtin; refine wpList_append_own _ rfl _ _ 28 rfl w.heap.size 22 i0 (.slice none 0 0) 1 24 Tryd.underlying28 HR.out.1 HR.out.2.1 HR.out.2.2.1 HR.out.2.2.2 rfl (by decide) (.slice Av n cv) n vs rfl HW4.out ⟨w5.heap.size, 0, none⟩ 1 1 [.slice An (dl ss n).length cn] rfl rfl (cells_oneS _ _ _) (one_sliceS _ _ _) (by unfold maxLen; omega) (by omega) (by simp; omega) ?_)
          intro v5 w5 ho5 hg5 _
          have hP5 := OwnAt.push (by decide) H4.out.1 (v' := v5) (by rw [strs_length]; exact H4.out.2.1) (by rw [strs_length]; exact hSep.out) (by rw [hlen0.out, strs_length]; exact ho5) hg5
          rw [strs_length] at hP5
          have hB5 := H4.out.2.2.grown hg5 (by simp; omega) (fun g hg => (HW4.out.lt g hg).1)
          have hst : Hid (strss (dLists ss n) ++ [strs (dl ss n)] = strss (dLists ss (n + 1))) := by
            show _ = _
            rw [dLists_succ, strss_snoc]
          rw [hst.out] at hP5
          have hlast := Lib.hid (dLast_eq Hset.out n hns.out hstop.out)
          have H5 := Lib.hid (And.intro hP5 hB5)
          clear hP5 hB5 ho5 hg5
          go_wp2
          go_ret2
          rw [hlast.out]
          exact okSS_of ⟨_, H5.out.1⟩ rfl H5.out.2
      · rw [hr] at hend
        have hstop : Hid (dStop ss n = true) := by
          show _ = _
          rw [hds.out, Bool.or_assoc, Bool.or_comm (dHit ss (dl ss n)), hr, Bool.or_true]
        clear hr hds
        go_wp2_with fail
        refine hend.out.mono ?_
        rintro e w4 ⟨rfl, hB4⟩
        have HT := Lib.hid (And.intro (hO.out.1.below hB4) (And.intro (own_below hO.out.2.1 hB4) (And.intro hO.out.2.2.1 (hO.out.2.2.2.1.trans (hB4.mono hsz)))))
        clear hB4 hO hend
        have hV4 := HT.out.1.below ((Below.refl w4.heap.size w4).alloc (Nat.le_refl _) (.cells #[.slice An (dl ss n).length cn] 22))
        have hN4 := own_below HT.out.2.1 ((Below.refl w4.heap.size w4).alloc (Nat.le_refl _) (.cells #[.slice An (dl ss n).length cn] 22))
        have hB4 := HT.out.2.2.2.alloc (HT.out.2.2.2.size) (.cells #[.slice An (dl ss n).length cn] 22)
        have hown4 := hV4.own
        rw [hlen0.out] at hown4
        have H44 := Lib.hid (And.intro hV4 (And.intro hN4 hB4))
        have HW4 := Lib.hid hown4
        have hSep := Lib.hid HT.out.2.2.1
        have hszW := HT.out.2.2.2.size
        clear hV4 hN4 hB4 hown4
        go_wp2_with (at_builtin; refine wpList_append_own _ rfl _ _ 28 rfl w.heap.size 22 i0 (.slice none 0 0) 1 24 Tryd.underlying28 HR.out.1 HR.out.2.1 HR.out.2.2.1 HR.out.2.2.2 rfl (by decide) (.slice Av n cv) n vs rfl HW4.out ⟨w4.heap.size, 0, none⟩ 1 1 [.slice An (dl ss n).length cn] rfl rfl (cells_oneS _ _ _) (one_sliceS _ _ _) (by unfold maxLen; omega) (by omega) (by simp; omega) ?_)
        intro v5 w9 ho5 hg5 _
        have hP5 := OwnAt.push (by decide) H44.out.1 (v' := v5) (by rw [strs_length]; exact H44.out.2.1) (by rw [strs_length]; exact hSep.out) (by rw [hlen0.out, strs_length]; exact ho5) hg5
        rw [strs_length] at hP5
        have hB5 := H44.out.2.2.grown hg5 (by simp; omega) (fun g hg => (HW4.out.lt g hg).1)
        have hst : Hid (strss (dLists ss n) ++ [strs (dl ss n)] = strss (dLists ss (n + 1))) := by
          show _ = _
          rw [dLists_succ, strss_snoc]
        rw [hst.out] at hP5
        have hlast := Lib.hid (dLast_eq Hset.out n hns.out hstop.out)
        have H5 := Lib.hid (And.intro hP5 hB5)
        clear hP5 hB5 ho5 hg5
        go_wp2
        go_ret2
        rw [hlast.out]
        exact okSS_of ⟨_, H5.out.1⟩ rfl H5.out.2

end Go.Proofs.YtdhdpkohkpdimaaDoor
