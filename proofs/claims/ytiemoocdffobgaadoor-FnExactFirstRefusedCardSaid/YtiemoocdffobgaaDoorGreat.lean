/-
  WHAT THIS FILE PROVES: the code that is made of a set word by word, and the first word that is not taken: the specification's and the program's functions tell the same; asked: a slice of texts in memory, lengths that an int holds.
-/
import Derived.Test.YtiemoocdffobgaaDoorIsCode
import Derived.Test.YtiemoocdffobgaaDoorKeep
import Derived.Test.YtiemoocdffobgaaDoorSub
namespace Go.Proofs.YtiemoocdffobgaaDoor
open Go.RowKit Go.Shelf

/-- what is taken of the first k words -/
def gcTo (ss : List ByteArray) : Nat → List ByteArray
  | 0 => []
  | k + 1 => if isCd (gcTo ss k ++ [W.nth ss k]) then gcTo ss k ++ [W.nth ss k] else gcTo ss k
/-- the index of the first of them that is not taken, or -1 -/
def frTo (ss : List ByteArray) : Nat → Int
  | 0 => -1
  | k + 1 => if isCd (gcTo ss k ++ [W.nth ss k]) then frTo ss k else if frTo ss k < 0 then (k : Int) else frTo ss k
theorem gcTo_sub (ss : List ByteArray) : ∀ k, k ≤ ss.length → (gcTo ss k).Sublist (ss.take k)
  | 0, _ => List.nil_sublist _
  | k + 1, h => by
    have ih := gcTo_sub ss k (by omega)
    rw [List.take_succ_eq_append_getElem (by omega), ← W.nth_lt ss k (by omega)]
    unfold gcTo
    split
    · exact ih.append (List.Sublist.refl _)
    · exact ih.trans (List.sublist_append_left _ _)
theorem gcNext_set {ss : List ByteArray} (h : W.isSet ss = true) (k : Nat) (hk : k < ss.length) : W.isSet (gcTo ss k ++ [W.nth ss k]) = true := by
  refine set_sub h ?_
  have h1 := (gcTo_sub ss k (by omega)).append (List.Sublist.refl [W.nth ss k])
  rw [W.nth_lt ss k hk, ← List.take_succ_eq_append_getElem hk] at h1
  rw [W.nth_lt ss k hk]
  exact h1.trans (List.take_sublist _ _)
theorem gcTo_yes {ss : List ByteArray} {k : Nat} (h : isCd (gcTo ss k ++ [W.nth ss k]) = true) : gcTo ss (k + 1) = gcTo ss k ++ [W.nth ss k] ∧ frTo ss (k + 1) = frTo ss k := by
  constructor
  · rw [gcTo, if_pos h]
  · rw [frTo, if_pos h]
theorem gcTo_no {ss : List ByteArray} {k : Nat} (h : isCd (gcTo ss k ++ [W.nth ss k]) = false) : gcTo ss (k + 1) = gcTo ss k ∧ frTo ss (k + 1) = if frTo ss k < 0 then (k : Int) else frTo ss k := by
  have h' : ¬ isCd (gcTo ss k ++ [W.nth ss k]) = true := by rw [h]; simp
  constructor
  · rw [gcTo, if_neg h']
  · rw [frTo, if_neg h']
theorem frTo_range (ss : List ByteArray) : ∀ k, -1 ≤ frTo ss k ∧ frTo ss k < k
  | 0 => ⟨Int.le_refl _, by show (-1 : Int) < ((0 : Nat) : Int); omega⟩
  | k + 1 => by
    have ih := frTo_range ss k
    rw [frTo]
    split
    · omega
    · split <;> omega
theorem gcTo_len (ss : List ByteArray) (k : Nat) (h : k ≤ ss.length) : (gcTo ss k).length ≤ k := by
  have := (gcTo_sub ss k h).length_le
  rw [List.length_take] at this
  omega
theorem fr_all (ss : List ByteArray) : ∀ k, k ≤ ss.length → frTo ss k = -1 → gcTo ss k = ss.take k
  | 0, _, _ => rfl
  | k + 1, h, hf => by
    cases hc : isCd (gcTo ss k ++ [W.nth ss k])
    · rw [(gcTo_no hc).2] at hf
      split at hf <;> omega
    · rw [(gcTo_yes hc).2] at hf
      rw [(gcTo_yes hc).1, fr_all ss k (by omega) hf, List.take_succ_eq_append_getElem (by omega), W.nth_lt ss k (by omega)]
theorem fr_stays (ss : List ByteArray) (k : Nat) (h : 0 ≤ frTo ss k) : ∀ d, frTo ss (k + d) = frTo ss k
  | 0 => rfl
  | d + 1 => by
    have ih := fr_stays ss k h d
    show frTo ss (k + d + 1) = _
    rw [frTo]
    split
    · exact ih
    · rw [ih, if_neg (by omega)]
def gcOf (ss : List ByteArray) : List ByteArray := if W.isSet ss then gcTo ss ss.length else []
theorem gcOf_no {ss : List ByteArray} (h : W.isSet ss = false) : gcOf ss = [] := by unfold gcOf; rw [h]; rfl
theorem gcOf_yes {ss : List ByteArray} (h : W.isSet ss = true) : gcOf ss = gcTo ss ss.length := by unfold gcOf; rw [h]; rfl
theorem gcOf_len (ss : List ByteArray) : (gcOf ss).length ≤ 1048576 := by
  cases h : W.isSet ss
  · rw [gcOf_no h]; simp
  · rw [gcOf_yes h]
    have h1 := gcTo_len ss ss.length (Nat.le_refl _)
    have h2 := W.isSet_len ss h
    omega
def frOk (ss : List ByteArray) : Bool := W.isSet ss && decide (0 ≤ frTo ss ss.length)
def frOf (ss : List ByteArray) : Nat := if frOk ss then (frTo ss ss.length).toNat else 0
theorem frOf_no {ss : List ByteArray} (h : frOk ss = false) : frOf ss = 0 := by unfold frOf; rw [h]; rfl
theorem frOf_yes {ss : List ByteArray} (h : W.isSet ss = true) (h0 : 0 ≤ frTo ss ss.length) : frOk ss = true ∧ ((frOf ss : Nat) : Int) = frTo ss ss.length := by
  have h1 : frOk ss = true := by unfold frOk; rw [h, decide_eq_true h0]; rfl
  refine ⟨h1, ?_⟩
  unfold frOf
  rw [h1, if_pos rfl]
  omega
def GivesGreat (w0 : World) (ss : List ByteArray) (f : Int) (e : Ending) (w' : World) : Prop :=
  ∃ A c, e = .returned (.tuple #[.slice A ss.length c, .int .i64 f]) ∧ w'.ownsRow w0.heap.size 9 1 (.slice A ss.length c) ss.length (strs ss) ∧ Below w0.heap.size w0 w'

set_option maxHeartbeats 3200000 in
theorem spec_dcGreatest (A : Option Addr) (ss : List ByteArray) (c : Nat) (w : World) (h : Row w w.heap.size A (strs ss)) (hset : W.isSet ss = true) :
    Calls Tryd.prog 36 #[.slice A ss.length c] w (GivesGreat w (gcTo ss ss.length) (frTo ss ss.length)) := by
  have h12 := W.isSet_len ss hset
  have Hset := Lib.hid hset
  replace h := Lib.hid h
  obtain ⟨i0, hi, hz0, hz1, hz2⟩ := info_parts infoStr
  have HR := Lib.hid (And.intro hi (And.intro hz0 (And.intro hz1 hz2)))
  clear hi hz0 hz1 hz2 hset
  go_enter Tryd.func36, Tryd.ntmps36
  go_wp2_with fail
  go_loopw [4, 5, 11] (fun v f i wr => ∃ k : Nat, k ≤ ss.length ∧ i = .int .i64 k ∧ f = .int .i64 (frTo ss k) ∧ wr.ownsRow w.heap.size 9 1 v (gcTo ss k).length (strs (gcTo ss k)) ∧ Below w.heap.size w wr)
    (fun _ _ i _ => ss.length - (intOf i).toNat)
  case atStart => exact ⟨0, Nat.zero_le _, rfl, rfl, World.ownsRow_nil _ _ _ _, Below.refl _ _⟩
  case round =>
    obtain ⟨k, hk, rfl, rfl, ho, hB⟩ := hrel
    obtain ⟨Av, cv, rfl⟩ := own_slice ho
    have hO := Lib.hid (And.intro ho hB)
    have hlen := gcTo_len ss k hk
    have hfr := frTo_range ss k
    have hf1 := hfr.1
    have hf2 := hfr.2
    clear ho hB hfr
    by_cases hlt : k < ss.length
    · obtain ⟨b, off, rfl, hb, hcc⟩ := h.out (by rw [strs_length]; omega)
      have hlt' : (k : Int) < (ss.length : Int) := by omega
      have c1 := (hO.out.2.cell (p := ⟨b, off + k, none⟩) hb).trans (hcc k _ (strs_nth ss k hlt))
      have Hnx := Lib.hid (gcNext_set Hset.out k hlt)
      have Hyes := Lib.hid (fun hc => gcTo_yes (ss := ss) (k := k) hc)
      have Hno := Lib.hid (fun hc => gcTo_no (ss := ss) (k := k) hc)
      clear hcc
      generalize W.nth ss k = s at c1 Hnx Hyes Hno
      have hz := hO.out.2.size
      have hBa := Lib.hid (hO.out.2.alloc hz (.cells #[] 9))
      have hOv := Lib.hid (hO.out.1.alloc (.cells #[] 9))
      have hO0 := Lib.hid (World.ownsRow_made (base := wr.heap.size) (e := 9) (size := 1) wr #[] 0 (Nat.le_refl _) (Nat.zero_le _) rfl)
      have hlow : Hid (∀ g, (Value.slice Av (gcTo ss k).length cv).ownBlock = some g → g < wr.heap.size) := fun g hg => (hO.out.1.lt g hg).2
      have hapart : Hid (∀ v : Value, (∀ g, v.ownBlock = some g → wr.heap.size ≤ g) → (Value.slice Av (gcTo ss k).length cv).ownBlock = none ∨ (Value.slice Av (gcTo ss k).length cv).ownBlock ≠ v.ownBlock) := fun v hv => by
        cases hb2 : (Value.slice Av (gcTo ss k).length cv).ownBlock with
        | none => exact .inl rfl
        | some g =>
          refine .inr fun e => ?_
          have h1 := hv g e.symm
          have h2 := hlow.out g hb2
          omega
      go_wp2_with (at_builtin; refine wpList_append_row _ rfl _ _ 22 rfl wr.heap.size 9 i0 _ 16 Tryd.underlying22 HR.out.1 HR.out.2.1 HR.out.2.2.1 HR.out.2.2.2 rfl (.slice (some ⟨wr.heap.size, 0, none⟩) 0 0) 0 [] rfl hO0.out (wr.alloc (.cells #[] 9)).heap.size Av cv (strs (gcTo ss k)) (by rw [strs_length]; rfl) (Row.of_own hOv.out) (strs_cells _) (by rw [strs_length]; unfold maxLen; omega) (by rw [strs_length]; omega) (by simp) ?_)
      intro v1 w2 ho1 hg1
      rw [strs_length] at ho1
      have hOv2 := hOv.out.kept hg1 (hapart.out _ (fun g hg => by
        have e2 : some wr.heap.size = some g := hg
        injection e2 with e2
        omega))
      have hB2 := hBa.out.grown hg1 hBa.out.size (fun g hg => by
        have e2 : some wr.heap.size = some g := hg
        injection e2 with e2
        omega)
      have hwz : wr.heap.size ≤ w2.heap.size := Nat.le_trans (by simp) hg1.size
      have H2 := Lib.hid (And.intro (ho1.alloc (.cells #[.string s] 9)) (And.intro (hOv2.alloc (.cells #[.string s] 9)) (hB2.alloc hB2.size (.cells #[.string s] 9))))
      have hwz2 : Hid (wr.heap.size ≤ (w2.alloc (.cells #[.string s] 9)).heap.size) := Nat.le_trans hwz (by simp)
      obtain ⟨A1, c1', rfl⟩ := own_slice ho1
      clear ho1 hg1 hOv2 hB2 hBa hOv hO0 hO
      go_wp2_with (at_builtin; refine wpList_append_own _ rfl _ _ 22 rfl wr.heap.size 9 i0 _ 1 16 Tryd.underlying22 HR.out.1 HR.out.2.1 HR.out.2.2.1 HR.out.2.2.2 rfl (by decide) (.slice A1 (gcTo ss k).length c1') (gcTo ss k).length (strs (gcTo ss k)) rfl H2.out.1 ⟨w2.heap.size, 0, none⟩ 1 1 [.string s] rfl rfl (cells_oneS _ _ _) (one_text _) (by unfold maxLen; omega) (by omega) hwz2.out ?_)
      intro v3 w3 ho3 hg3 _
      rw [show strs (gcTo ss k) ++ [Value.string s] = strs (gcTo ss k ++ [s]) from (strs_snoc _ _).symm] at ho3
      have hnl : (gcTo ss k ++ [s]).length = (gcTo ss k).length + 1 := by simp
      have hOv3 := H2.out.2.1.kept hg3 (hapart.out _ (fun g hg => (H2.out.1.lt g hg).1))
      have hB3 := H2.out.2.2.grown hg3 H2.out.2.2.size (fun g hg => by have := (H2.out.1.lt g hg).1; omega)
      obtain ⟨A3, c3, rfl⟩ := own_slice ho3
      have hcall := spec_dcCode A3 (gcTo ss k ++ [s]) c3 w3 (Row.of_own ho3) Hnx.out
      have H3 := Lib.hid (And.intro (own_base ho3 hz) (And.intro hOv3 hB3))
      have hz3 := hB3.size
      rw [hnl] at hcall
      replace hcall := Lib.hid hcall
      clear ho3 hg3 hOv3 hB3 H2
      cases hic : isCd (gcTo ss k ++ [s])
      · rw [hic] at hcall
        have hk2 := Lib.hid (Hno.out hic)
        clear hic hnl
        by_cases hneg : frTo ss k < 0
        · have hk3 := hk2.out.2
          rw [if_pos hneg] at hk3
          replace hk3 := Lib.hid hk3
          go_wp2_with fail
          refine hcall.out.mono ?_
          rintro e w4 ⟨rfl, hB4⟩
          have H4 := Lib.hid (And.intro (own_below H3.out.2.1 hB4) (H3.out.2.2.trans (hB4.mono hz3)))
          clear hB4
          go_wp2
          go_roundw
          case rel => exact ⟨k + 1, by omega, by go_num, by rw [hk3.out], by rw [hk2.out.1]; exact H4.out.1, H4.out.2⟩
          case measure => simp [intOf]; omega
        · have hk3 := hk2.out.2
          rw [if_neg hneg] at hk3
          replace hk3 := Lib.hid hk3
          go_wp2_with fail
          refine hcall.out.mono ?_
          rintro e w4 ⟨rfl, hB4⟩
          have H4 := Lib.hid (And.intro (own_below H3.out.2.1 hB4) (H3.out.2.2.trans (hB4.mono hz3)))
          clear hB4
          go_wp2
          go_roundw
          case rel => exact ⟨k + 1, by omega, by go_num, by rw [hk3.out], by rw [hk2.out.1]; exact H4.out.1, H4.out.2⟩
          case measure => simp [intOf]; omega
      · rw [hic] at hcall
        have hk2 := Lib.hid (Hyes.out hic)
        replace hnl := Lib.hid hnl
        clear hic
        go_wp2_with fail
        refine hcall.out.mono ?_
        rintro e w4 ⟨rfl, hB4⟩
        have H4 := Lib.hid (And.intro (own_below H3.out.1 hB4) (H3.out.2.2.trans (hB4.mono hz3)))
        clear hB4
        go_wp2
        go_roundw
        case rel => exact ⟨k + 1, by omega, by go_num, by rw [hk2.out.2], by rw [hk2.out.1, hnl.out]; exact H4.out.1, H4.out.2⟩
        case measure => simp [intOf]; omega
    · have hke : k = ss.length := by omega
      subst hke
      go_wp2
      go_ret2
      exact ⟨Av, cv, rfl, hO.out.1, hO.out.2⟩
set_option maxHeartbeats 3200000 in
theorem impl_GreatestCode (A : Option Addr) (ss : List ByteArray) (c : Nat) (w : World) (h : Row w w.heap.size A (strs ss)) (hl : ss.length ≤ 9223372036854775807) (hs : ∀ s ∈ ss, s.size ≤ 9223372036854775807) :
    Calls Tryd.prog 17 #[.slice A ss.length c] w (OkStrs w (gcOf ss) (W.isSet ss)) := by
  have hc := impl_IsSet A ss c w h hl hs
  cases hq : W.isSet ss
  · rw [gcOf_no hq]
    rw [hq] at hc
    replace hc := Lib.hid hc
    clear h hs hq
    go_enter Tryd.func17, Tryd.ntmps17
    go_wp2_with (go_at_call 31; refine hc.out.mono ?_; rintro e w1 ⟨rfl, hB⟩)
    go_ret2
    exact okStrs_nil _ _ _ hB
  · rw [gcOf_yes hq]
    rw [hq] at hc
    replace hc := Lib.hid hc
    have Hset := Lib.hid hq
    have h12 := W.isSet_len ss hq
    replace h := Lib.hid h
    obtain ⟨i0, hi, hz0, hz1, hz2⟩ := info_parts infoStr
    have HR := Lib.hid (And.intro hi (And.intro hz0 (And.intro hz1 hz2)))
    clear hi hz0 hz1 hz2 hs hq
    go_enter Tryd.func17, Tryd.ntmps17
    go_wp2_with fail
    refine hc.out.mono ?_
    rintro e w1 ⟨rfl, hB⟩
    have HB := Lib.hid hB
    clear hB
    go_wp2_with fail
    go_loopw [4, 13] (fun v i wr => ∃ k : Nat, k ≤ ss.length ∧ i = .int .i64 k ∧ wr.ownsRow w.heap.size 9 1 v (gcTo ss k).length (strs (gcTo ss k)) ∧ Below w.heap.size w wr)
      (fun _ i _ => ss.length - (intOf i).toNat)
    case atStart => exact ⟨0, Nat.zero_le _, rfl, World.ownsRow_nil _ _ _ _, HB.out⟩
    case round =>
      obtain ⟨k, hk, rfl, ho, hB⟩ := hrel
      obtain ⟨Av, cv, rfl⟩ := own_slice ho
      have hO := Lib.hid (And.intro ho hB)
      have hlen := gcTo_len ss k hk
      clear ho hB
      by_cases hlt : k < ss.length
      · obtain ⟨b, off, rfl, hb, hcc⟩ := h.out (by rw [strs_length]; omega)
        have hlt' : (k : Int) < (ss.length : Int) := by omega
        have c1 := (hO.out.2.cell (p := ⟨b, off + k, none⟩) hb).trans (hcc k _ (strs_nth ss k hlt))
        have Hnx := Lib.hid (gcNext_set Hset.out k hlt)
        have Hyes := Lib.hid (fun hc => (gcTo_yes (ss := ss) (k := k) hc).1)
        have Hno := Lib.hid (fun hc => (gcTo_no (ss := ss) (k := k) hc).1)
        clear hcc
        generalize W.nth ss k = s at c1 Hnx Hyes Hno
        have hBa := Lib.hid (hO.out.2.alloc hO.out.2.size (.cells #[.string s] 9))
        have hOa := Lib.hid (hO.out.1.alloc (.cells #[.string s] 9))
        have hsl : (strs (gcTo ss k)).length = (gcTo ss k).length := strs_length _
        go_wp2_with (at_builtin; refine wpList_append_keep _ rfl _ _ 22 rfl w.heap.size 9 i0 _ 16 Tryd.underlying22 HR.out.1 HR.out.2.1 HR.out.2.2.1 HR.out.2.2.2 rfl (.slice Av (gcTo ss k).length cv) (gcTo ss k).length (strs (gcTo ss k)) rfl hOa.out ⟨wr.heap.size, 0, none⟩ 1 (.string s) rfl (cells_oneS _ _ _) rfl (by unfold maxLen; omega) (by omega) hBa.out.size ?_)
        intro v2 w2 ho2 ho3 hg2
        obtain ⟨A2, c2, rfl⟩ := own_slice ho2
        have hB2 := hBa.out.grown hg2 hBa.out.size (fun g hg => (hOa.out.lt g hg).1)
        rw [show strs (gcTo ss k) ++ [Value.string s] = strs (gcTo ss k ++ [s]) from (strs_snoc _ _).symm] at ho2
        have hnl : (gcTo ss k ++ [s]).length = (gcTo ss k).length + 1 := by simp
        have H2 := Lib.hid (And.intro ho2 (And.intro ho3 hB2))
        have hz2 := hB2.size
        have hcall := impl_isCode A2 (gcTo ss k ++ [s]) c2 w2 (Row.of_own ho2) Hnx.out
        rw [hnl] at hcall
        replace hcall := Lib.hid hcall
        clear ho2 ho3 hg2 hB2 hBa hOa hsl
        cases hic : isCd (gcTo ss k ++ [s])
        · rw [hic] at hcall
          have hk2 := Lib.hid (Hno.out hic)
          clear hic hnl
          go_wp2_with fail
          refine hcall.out.mono ?_
          rintro e w3 ⟨rfl, hB3⟩
          have H3 := Lib.hid (And.intro (own_below H2.out.2.1 hB3) (H2.out.2.2.trans (hB3.mono hz2)))
          clear hB3
          go_wp2
          go_roundw
          case rel => exact ⟨k + 1, by omega, by go_num, by rw [hk2.out]; exact H3.out.1, H3.out.2⟩
          case measure => simp [intOf]; omega
        · rw [hic] at hcall
          have hk2 := Lib.hid (Hyes.out hic)
          replace hnl := Lib.hid hnl
          clear hic
          go_wp2_with fail
          refine hcall.out.mono ?_
          rintro e w3 ⟨rfl, hB3⟩
          have H3 := Lib.hid (And.intro (own_below H2.out.1 hB3) (H2.out.2.2.trans (hB3.mono hz2)))
          clear hB3
          go_wp2
          go_roundw
          case rel => exact ⟨k + 1, by omega, by go_num, by rw [hk2.out, hnl.out]; exact H3.out.1, H3.out.2⟩
          case measure => simp [intOf]; omega
      · have hke : k = ss.length := by omega
        subst hke
        go_wp2
        go_ret2
        exact okStrs_of hO.out.1 rfl hO.out.2
set_option maxHeartbeats 3200000 in
theorem impl_FirstRefused (A : Option Addr) (ss : List ByteArray) (c : Nat) (w : World) (h : Row w w.heap.size A (strs ss)) (hcap : ss.length ≤ c) (hl : ss.length ≤ 9223372036854775807) (hs : ∀ s ∈ ss, s.size ≤ 9223372036854775807) :
    Calls Tryd.prog 21 #[.slice A ss.length c] w fun e w' => e = .returned (.tuple #[.int .i64 (frOf ss : Nat), .bool (frOk ss)]) ∧ Below w.heap.size w w' := by
  have hc := impl_IsSet A ss c w h hl hs
  cases hq : W.isSet ss
  · have hno : frOk ss = false := by unfold frOk; rw [hq]; rfl
    rw [frOf_no hno, hno]
    rw [hq] at hc
    replace hc := Lib.hid hc
    clear h hs hq hno
    go_enter Tryd.func21, Tryd.ntmps21
    go_wp2_with (go_at_call 31; refine hc.out.mono ?_; rintro e w1 ⟨rfl, hB⟩)
    go_ret2
    exact ⟨rfl, hB⟩
  · rw [hq] at hc
    replace hc := Lib.hid hc
    have Hset := Lib.hid hq
    have h12 := W.isSet_len ss hq
    replace h := Lib.hid h
    clear hs hq
    go_enter Tryd.func21, Tryd.ntmps21
    go_wp2_with fail
    refine hc.out.mono ?_
    rintro e w1 ⟨rfl, hB⟩
    have HB := Lib.hid hB
    clear hB
    go_wp2_with fail
    have hA : ss.length = 0 ∨ 0 < ss.length := by omega
    go_loopw [10] (fun i wr => ∃ k : Nat, k ≤ ss.length ∧ i = .int .i64 k ∧ Hid (frTo ss k = -1) ∧ Below w.heap.size w wr)
      (fun i _ => ss.length - (intOf i).toNat)
    case atStart => exact ⟨0, Nat.zero_le _, rfl, rfl, HB.out⟩
    case round =>
      obtain ⟨k, hk, rfl, hf, hB⟩ := hrel
      have hO := Lib.hid hB
      have hz := hB.size
      clear hB hA
      by_cases hlt : k < ss.length
      · have hlt' : (k : Int) < (ss.length : Int) := by omega
        have hkc : (k : Int) + 1 ≤ (c : Int) := by omega
        have hall := fr_all ss k hk hf.out
        have htk : gcTo ss k ++ [W.nth ss k] = ss.take (k + 1) := by rw [hall, List.take_succ_eq_append_getElem hlt, W.nth_lt ss k hlt]
        have Hnx := gcNext_set Hset.out k hlt
        have Hyes := fun hc => (gcTo_yes (ss := ss) (k := k) hc).2
        have Hno := fun hc => (gcTo_no (ss := ss) (k := k) hc).2
        rw [htk] at Hnx Hyes Hno
        have htl : (ss.take (k + 1)).length = k + 1 := by rw [List.length_take]; omega
        have hcall := impl_isCode A (ss.take (k + 1)) c wr (by rw [← strs_take]; exact ((h.out.below hO.out).more hz).front _) Hnx
        rw [htl] at hcall
        replace Hyes := Lib.hid Hyes
        replace Hno := Lib.hid Hno
        replace hcall := Lib.hid hcall
        clear hall htk Hnx htl
        cases hic : isCd (ss.take (k + 1))
        · rw [hic] at hcall
          have hfr := Hno.out hic
          rw [hf.out, if_pos (by decide)] at hfr
          have hst := fr_stays ss (k + 1) (by rw [hfr]; omega) (ss.length - (k + 1))
          rw [show k + 1 + (ss.length - (k + 1)) = ss.length by omega, hfr] at hst
          have Hfy := Lib.hid (frOf_yes Hset.out (by rw [hst]; omega))
          have Hst := Lib.hid hst
          clear hfr hst hic
          go_wp2_with fail
          refine hcall.out.mono ?_
          rintro e w2 ⟨rfl, hB2⟩
          have H2 := Lib.hid (hO.out.trans (hB2.mono hz))
          clear hB2
          go_wp2
          go_ret2
          exact ⟨by rw [Hfy.out.1, Hfy.out.2, Hst.out]; rfl, H2.out⟩
        · rw [hic] at hcall
          have hfr : Hid (frTo ss (k + 1) = -1) := by
            show _ = _
            rw [Hyes.out hic]
            exact hf.out
          clear hic
          go_wp2_with fail
          refine hcall.out.mono ?_
          rintro e w2 ⟨rfl, hB2⟩
          have H2 := Lib.hid (hO.out.trans (hB2.mono hz))
          clear hB2
          go_wp2
          go_roundw
          case rel => exact ⟨k + 1, by omega, by go_num, hfr, H2.out⟩
          case measure => simp [intOf]; omega
      · have hke : k = ss.length := by omega
        subst hke
        have hno : frOk ss = false := by
          unfold frOk
          rw [hf.out]
          simp
        have Hno := Lib.hid (And.intro hno (frOf_no hno))
        clear hno
        go_wp2
        go_ret2
        exact ⟨by rw [Hno.out.1, Hno.out.2]; rfl, hO.out⟩

theorem spec_GreatestCode (A : Option Addr) (ss : List ByteArray) (c : Nat) (w : World) (h : Row w w.heap.size A (strs ss)) (hl : ss.length ≤ 9223372036854775807) (hs : ∀ s ∈ ss, s.size ≤ 9223372036854775807) :
    Calls Tryd.prog 16 #[.slice A ss.length c] w (OkStrs w (gcOf ss) (W.isSet ss)) := by
  have hc := spec_wdSet A ss c w h hl hs
  cases hq : W.isSet ss
  · rw [gcOf_no hq]
    rw [hq] at hc
    replace hc := Lib.hid hc
    clear h hs hq
    go_enter Tryd.func16, Tryd.ntmps16
    go_wp2_with (go_at_call 29; refine hc.out.mono ?_; rintro e w' ⟨rfl, rfl⟩)
    go_ret2
    exact okStrs_nil _ _ _ (Below.refl _ _)
  · rw [gcOf_yes hq]
    have hd := Lib.hid (spec_dcGreatest A ss c w h hq)
    rw [hq] at hc
    replace hc := Lib.hid hc
    clear h hs hq
    generalize gcTo ss ss.length = xs at hd ⊢
    generalize frTo ss ss.length = f at hd
    go_enter Tryd.func16, Tryd.ntmps16
    go_wp2_with fail
    refine hc.out.mono ?_
    rintro e w' ⟨rfl, rfl⟩
    go_wp2_with fail
    refine hd.out.mono ?_
    rintro e w1 ⟨A1, c1, rfl, ho, hB⟩
    have HB := Lib.hid (And.intro ho hB)
    clear ho hB
    go_wp2
    go_ret2
    exact okStrs_of HB.out.1 rfl HB.out.2
theorem spec_FirstRefused (A : Option Addr) (ss : List ByteArray) (c : Nat) (w : World) (h : Row w w.heap.size A (strs ss)) (_hcap : ss.length ≤ c) (hl : ss.length ≤ 9223372036854775807) (hs : ∀ s ∈ ss, s.size ≤ 9223372036854775807) :
    Calls Tryd.prog 20 #[.slice A ss.length c] w fun e w' => e = .returned (.tuple #[.int .i64 (frOf ss : Nat), .bool (frOk ss)]) ∧ Below w.heap.size w w' := by
  have hc := spec_wdSet A ss c w h hl hs
  cases hq : W.isSet ss
  · have hno : frOk ss = false := by unfold frOk; rw [hq]; rfl
    rw [frOf_no hno, hno]
    rw [hq] at hc
    replace hc := Lib.hid hc
    clear h hs hq hno
    go_enter Tryd.func20, Tryd.ntmps20
    go_wp2_with (go_at_call 29; refine hc.out.mono ?_; rintro e w' ⟨rfl, rfl⟩)
    go_ret2
    exact ⟨rfl, Below.refl _ _⟩
  · have hd := Lib.hid (spec_dcGreatest A ss c w h hq)
    have hr := frTo_range ss ss.length
    rw [hq] at hc
    replace hc := Lib.hid hc
    by_cases hneg : frTo ss ss.length < 0
    · have hno : frOk ss = false := by
        unfold frOk
        rw [decide_eq_false (by omega)]
        simp
      rw [frOf_no hno, hno]
      clear h hs hq hno hr
      generalize gcTo ss ss.length = xs at hd
      generalize frTo ss ss.length = f at hd hneg
      go_enter Tryd.func20, Tryd.ntmps20
      go_wp2_with fail
      refine hc.out.mono ?_
      rintro e w' ⟨rfl, rfl⟩
      go_wp2_with fail
      refine hd.out.mono ?_
      rintro e w1 ⟨A1, c1, rfl, ho, hB⟩
      have HB := Lib.hid hB
      clear ho hB
      go_wp2
      go_ret2
      exact ⟨rfl, HB.out⟩
    · obtain ⟨hok, hv⟩ := frOf_yes hq (by omega)
      rw [hok, hv]
      clear h hs hq hr hok hv
      generalize gcTo ss ss.length = xs at hd
      generalize frTo ss ss.length = f at hd hneg ⊢
      go_enter Tryd.func20, Tryd.ntmps20
      go_wp2_with fail
      refine hc.out.mono ?_
      rintro e w' ⟨rfl, rfl⟩
      go_wp2_with fail
      refine hd.out.mono ?_
      rintro e w1 ⟨A1, c1, rfl, ho, hB⟩
      have HB := Lib.hid hB
      clear ho hB
      go_wp2
      go_ret2
      exact ⟨rfl, HB.out⟩

end Go.Proofs.YtiemoocdffobgaaDoor
