/-
  WHAT THIS FILE PROVES: a set is read back from its text: the specification's and the program's functions give the same; asked: a text of at most a million letters, a library's number in its place.
-/
import Derived.Test.YtdcobmgamlhglaaDoorIsSet
import Derived.Test.YtdcobmgamlhglaaDoorCuts
namespace Go.Proofs.YtdcobmgamlhglaaDoor
open Go.RowKit Go.Shelf

theorem extract_two (s : ByteArray) (f i : Nat) : (s.extract f i).data.toList = (s.data.toList.drop f).take (i - f) := by
  rw [Lib.extract_eq]

theorem info4 : ∃ i0, Tryd.prog.info? 9 = some i0 ∧ i0.zero = some (.string ByteArray.empty) ∧ i0.size = 1 ∧ i0.bytes = 16 := by
  obtain ⟨i0, hi, h⟩ := info_parts infoStr
  exact ⟨i0, hi, h⟩

theorem byte_at (s : ByteArray) (i : Nat) (h : i < s.size) : s.data.toList[i]'(by simpa using h) = s[i] := rfl

theorem step_at (s : ByteArray) (f i : Nat) (ps : List ByteArray) (_hf : f ≤ i) (hi : i < s.size) (hc : s[i] = 44)
    (h : ps.map (fun x => x.data.toList) ++ W.ahead ((s.data.toList.drop f).take (i - f)) (W.cuts (s.data.toList.drop i)) = W.cuts s.data.toList) :
    (ps ++ [s.extract f i]).map (fun x => x.data.toList) ++ W.ahead ((s.data.toList.drop (i + 1)).take (i + 1 - (i + 1))) (W.cuts (s.data.toList.drop (i + 1))) = W.cuts s.data.toList := by
  rw [W.cuts_at _ i (by simpa using hi) _ (by rw [byte_at s i hi]; exact hc)] at h
  rw [← h, List.map_append, Nat.sub_self, List.take_zero, W.ahead_nil _ (W.cuts_ne _), List.append_assoc]
  simp
theorem step_past (s : ByteArray) (f i : Nat) (ps : List ByteArray) (hf : f ≤ i) (hi : i < s.size) (hc : ¬ s[i] = 44)
    (h : ps.map (fun x => x.data.toList) ++ W.ahead ((s.data.toList.drop f).take (i - f)) (W.cuts (s.data.toList.drop i)) = W.cuts s.data.toList) :
    ps.map (fun x => x.data.toList) ++ W.ahead ((s.data.toList.drop f).take (i + 1 - f)) (W.cuts (s.data.toList.drop (i + 1))) = W.cuts s.data.toList := by
  have hl : i < s.data.toList.length := by simpa using hi
  rw [W.cuts_past _ i hl _ (by rw [byte_at s i hi]; exact hc)] at h
  rw [← h]
  congr 2
  rw [show i + 1 - f = i - f + 1 by omega, List.take_succ_eq_append_getElem (by rw [List.length_drop]; omega)]
  congr 2
  rw [List.getElem_drop]
  congr 1
  omega
theorem step_end (s : ByteArray) (f : Nat) (ps : List ByteArray) (_hf : f ≤ s.size)
    (h : ps.map (fun x => x.data.toList) ++ W.ahead ((s.data.toList.drop f).take (s.size - f)) (W.cuts (s.data.toList.drop s.size)) = W.cuts s.data.toList) :
    ps ++ [s.extract f s.size] = W.parts s := by
  refine W.parts_of s _ ?_
  have e : s.data.toList.drop s.size = s.data.toList.drop s.data.toList.length := by rw [← Lib.size_eq]
  rw [e, W.cuts_end] at h
  rw [← h, List.map_append]
  simp

set_option maxHeartbeats 1600000 in
theorem spec_l1Split (s : ByteArray) (w : World) (hs : s.size ≤ 1048576) :
    Calls Tryd.prog 56 #[.string s, .int .u8 44] w (GivesStrs w (W.parts s)) := by
  obtain ⟨i0, hinfo⟩ := info4
  have HR := Lib.hid hinfo
  clear hinfo
  go_enter Tryd.func56, Tryd.ntmps56
  go_wp2
  go_loopw [5, 6, 7] (fun v fv iv wr => ∃ (i f : Nat) (ps : List ByteArray), f ≤ i ∧ i ≤ s.size ∧ ps.length ≤ i ∧ iv = .int .i64 i ∧ fv = .int .i64 f ∧ wr.ownsRow w.heap.size 9 1 v ps.length (strs ps) ∧ Below w.heap.size w wr ∧
      Hid (ps.map (fun x => x.data.toList) ++ W.ahead ((s.data.toList.drop f).take (i - f)) (W.cuts (s.data.toList.drop i)) = W.cuts s.data.toList)) (fun _ _ iv _ => s.size - (intOf iv).toNat)
  case atStart => exact ⟨0, 0, [], Nat.le_refl _, Nat.zero_le _, Nat.le_refl _, rfl, rfl, World.ownsRow_nil _ _ _ _, Below.refl _ _, by
    show [] ++ W.ahead _ (W.cuts s.data.toList) = _
    rw [List.nil_append]
    exact W.ahead_nil _ (W.cuts_ne _)⟩
  case round =>
    obtain ⟨i, f, ps, hfi, hi, hps, rfl, rfl, ho, hB, hcut⟩ := hrel
    have hO := Lib.hid (And.intro ho hB)
    clear ho hB
    have hfi' : (f : Int) ≤ (i : Int) := by omega
    have hi' : (i : Int) ≤ (s.size : Int) := by omega
    by_cases hlt : i < s.size
    · by_cases hc : s[i] = 44
      · have hcut' := Lib.hid (step_at s f i ps hfi hlt hc hcut.out)
        have hb : ((s[i].toNat : Int) == 44) = true := by rw [hc]; rfl
        clear hcut hc
        go_wp2_with (at_builtin; refine wpList_append_own _ rfl _ _ 22 rfl w.heap.size 9 i0 (.string ByteArray.empty) 1 16 Tryd.underlying22 HR.out.1 HR.out.2.1 HR.out.2.2.1 HR.out.2.2.2 rfl (by decide) _ _ _ rfl (hO.out.1.alloc _) ⟨wr.heap.size, 0, none⟩ 1 1 [.string (s.extract f i)] rfl rfl ?c1 ?c2 ?c3 ?c4 ?c5 ?_)
        case c1 => exact cell_one_new _ _ _
        case c2 => exact one_text _
        case c3 => unfold maxLen; omega
        case c4 => omega
        case c5 => have := hO.out.2.size; simp; omega
        intro v' w1 hown' hgrow _
        have hO2 := Lib.hid (And.intro hown' hgrow)
        clear hown' hgrow
        go_wp2
        go_roundw
        case rel =>
          refine ⟨i + 1, i + 1, ps ++ [s.extract f i], Nat.le_refl _, by omega, by simp; omega, by go_num, by go_num, ?_, ?_, hcut'⟩
          · rw [strs_snoc, List.length_append]
            exact hO2.out.1
          · have hlt := hO.out.1.lt
            exact (hO.out.2.alloc hO.out.2.size _).grown hO2.out.2 (by have := hO.out.2.size; simp; omega) (fun g hg => (hlt g hg).1)
        case measure => simp [intOf]; omega
      · have hcut' := Lib.hid (step_past s f i ps hfi hlt hc hcut.out)
        have hb : ((s[i].toNat : Int) == 44) = false := beq_eq_false_iff_ne.2 (fun e => hc (UInt8.toNat_inj.1 (by show s[i].toNat = 44; omega)))
        clear hcut hc
        go_wp2
        go_roundw
        case rel => exact ⟨i + 1, f, ps, by omega, by omega, by omega, by go_num, rfl, hO.out.1, hO.out.2, hcut'⟩
        case measure => simp [intOf]; omega
    · obtain rfl : i = s.size := by omega
      have hfin := Lib.hid (step_end s f ps hfi hcut.out)
      clear hcut
      go_wp2_with (at_builtin; refine wpList_append_own _ rfl _ _ 22 rfl w.heap.size 9 i0 (.string ByteArray.empty) 1 16 Tryd.underlying22 HR.out.1 HR.out.2.1 HR.out.2.2.1 HR.out.2.2.2 rfl (by decide) _ _ _ rfl (hO.out.1.alloc _) ⟨wr.heap.size, 0, none⟩ 1 1 [.string (s.extract f s.size)] rfl rfl ?c1 ?c2 ?c3 ?c4 ?c5 ?_)
      case c1 => exact cell_one_new _ _ _
      case c2 => exact one_text _
      case c3 => unfold maxLen; omega
      case c4 => omega
      case c5 => have := hO.out.2.size; simp; omega
      intro v' w1 hown' hgrow _
      have hO2 := Lib.hid (And.intro hown' hgrow)
      clear hown' hgrow
      go_wp2
      go_ret
      rw [← hfin.out]
      refine givesStrs_of (base := w.heap.size) ?_ rfl ?_
      · rw [strs_snoc, List.length_append]
        exact hO2.out.1
      · have hlt := hO.out.1.lt
        exact (hO.out.2.alloc hO.out.2.size _).grown hO2.out.2 (by have := hO.out.2.size; simp; omega) (fun g hg => (hlt g hg).1)

theorem spec_wdIf_yes (A : Option Addr) (ss : List ByteArray) (c : Nat) (w : World) (h : Row w w.heap.size A (strs ss)) (hl : ss.length ≤ 9223372036854775807) (hs : ∀ s ∈ ss, s.size ≤ 9223372036854775807) (hq : W.isSet ss = true) :
    Calls Tryd.prog 57 #[.slice A ss.length c] w fun e w' => e = .returned (.tuple #[.slice A ss.length c, .bool true]) ∧ w = w' := by
  have hc := spec_wdSet A ss c w h hl hs
  rw [hq] at hc
  replace hc := Lib.hid hc
  clear h hs hq
  go_enter Tryd.func57, Tryd.ntmps57
  go_wp2_with (go_at_call 29; refine hc.out.mono ?_; rintro e w' ⟨rfl, rfl⟩)
  go_ret2
  exact ⟨rfl, rfl⟩
theorem spec_wdIf_no (A : Option Addr) (ss : List ByteArray) (c : Nat) (w : World) (h : Row w w.heap.size A (strs ss)) (hl : ss.length ≤ 9223372036854775807) (hs : ∀ s ∈ ss, s.size ≤ 9223372036854775807) (hq : W.isSet ss = false) :
    Calls Tryd.prog 57 #[.slice A ss.length c] w fun e w' => e = .returned (.tuple #[.slice none 0 0, .bool false]) ∧ w = w' := by
  have hc := spec_wdSet A ss c w h hl hs
  rw [hq] at hc
  replace hc := Lib.hid hc
  clear h hs hq
  go_enter Tryd.func57, Tryd.ntmps57
  go_wp2_with (go_at_call 29; refine hc.out.mono ?_; rintro e w' ⟨rfl, rfl⟩)
  go_ret2
  exact ⟨rfl, rfl⟩

theorem parts_sizes (s : ByteArray) (hs : s.size ≤ 1048576) : ∀ x ∈ W.parts s, x.size ≤ 9223372036854775807 := fun x hx => by
  unfold W.parts at hx
  rw [List.mem_map] at hx
  obtain ⟨l, hl, rfl⟩ := hx
  have hle : ∀ (m : List UInt8), ∀ q ∈ W.cuts m, q.length ≤ m.length := by
    intro m
    induction m with
    | nil => intro q hq; simp [W.cuts] at hq; subst hq; exact Nat.le_refl _
    | cons a r ih =>
      intro q hq
      unfold W.cuts at hq
      split at hq
      · rw [List.mem_cons] at hq
        rcases hq with rfl | hq
        · exact Nat.zero_le _
        · have := ih q hq; simp; omega
      · have hne := W.cuts_ne r
        cases hcr : W.cuts r with
        | nil => exact absurd hcr hne
        | cons p ps =>
          rw [hcr] at hq
          unfold W.ahead at hq
          rw [List.mem_cons] at hq
          rcases hq with rfl | hq
          · have := ih p (by rw [hcr]; exact List.mem_cons_self); simp; omega
          · have := ih q (by rw [hcr]; exact List.mem_cons_of_mem _ hq); simp; omega
  have := hle _ l hl
  rw [← Lib.size_eq] at this
  have e : (⟨l.toArray⟩ : ByteArray).size = l.length := by show l.toArray.size = _; simp
  omega

set_option maxHeartbeats 1600000 in
theorem spec_wdParse (s : ByteArray) (w : World) (hs : s.size ≤ 1048576) :
    Calls Tryd.prog 43 #[.string s] w (OkStrs w (W.parseOf s) (W.parseOk s)) := by
  cases hd : W.isDash s
  · have hv : W.parseOf s = if W.isSet (W.parts s) then W.parts s else [] := by unfold W.parseOf; rw [hd]; rfl
    have hk : W.parseOk s = W.isSet (W.parts s) := by unfold W.parseOk; rw [hd]; rfl
    have hd' : (s.toList == [45]) = false := hd
    have hc := fun W1 => spec_l1Split s W1 hs
    have hle := W.parts_le s
    have hsz := parts_sizes s hs
    generalize W.parts s = ps at hc hv hk hle hsz
    obtain ⟨i0, hinfo⟩ := info4
    have HR := Lib.hid hinfo
    have HV := Lib.hid (And.intro hv hk)
    replace hc := Lib.hid hc
    replace hsz := Lib.hid hsz
    clear hinfo hv hk hd
    go_enter Tryd.func43, Tryd.ntmps43
    go_wp2_with fail
    refine (hc.out _).mono ?_
    rintro e w0 ⟨A1, k1, rfl, ho1, hB1⟩
    have H1 := Lib.hid (And.intro (Row.of_own ho1) hB1)
    clear ho1 hB1
    go_wp2_with fail
    go_loopw [4, 12] (fun v iv wr => ∃ k : Nat, k ≤ ps.length ∧ k ≤ 12 ∧ iv = .int .i64 k ∧ wr.ownsRow w0.heap.size 9 1 v k (strs (ps.take k)) ∧ Below w0.heap.size w0 wr) (fun _ iv _ => ps.length - (intOf iv).toNat)
    case atStart => exact ⟨0, Nat.zero_le _, Nat.zero_le _, rfl, World.ownsRow_nil _ _ _ _, Below.refl _ _⟩
    case round =>
      obtain ⟨k, hk, hk12, rfl, ho, hB⟩ := hrel
      obtain ⟨A, c, hv⟩ := own_slice ho
      have hww : w.heap.size ≤ wr.heap.size := Nat.le_trans H1.out.2.size hB.size
      have hO := Lib.hid (And.intro ho hB)
      clear ho hB
      by_cases hlt : k < ps.length
      · obtain ⟨b, off, rfl, hb, hcc⟩ := H1.out.1 (by rw [strs_length]; omega)
        have hlt' : (k : Int) < (ps.length : Int) := by omega
        have c1 := (hO.out.2.cell (p := ⟨b, off + k, none⟩) hb).trans (hcc k _ (strs_nth ps k hlt))
        clear hcc
        have hnn : W.nth ps k = ps[k] := W.nth_lt ps k hlt
        have hst : Hid (strs (ps.take (k + 1)) = strs (ps.take k) ++ [.string (W.nth ps k)]) := by
          show strs (ps.take (k + 1)) = _
          rw [List.take_succ_eq_append_getElem hlt, strs_snoc, hnn]
        clear hnn
        generalize W.nth ps k = x at c1 hst
        by_cases h12 : k = 12
        · have hno : Hid (W.isSet ps = false) := by
            show W.isSet ps = false
            unfold W.isSet
            rw [decide_eq_false (by omega)]
            rfl
          subst hv
          have h12' : ((k : Int) == 12) = true := beq_iff_eq.2 (by omega)
          clear h12
          go_wp2
          go_ret2
          rw [HV.out.1, HV.out.2, hno.out]
          exact okStrs_nil _ _ _ (H1.out.2.trans (hO.out.2.mono H1.out.2.size))
        · subst hv
          have hk12' : k < 12 := by omega
          have h12' : ((k : Int) == 12) = false := beq_eq_false_iff_ne.2 (by omega)
          clear h12
          go_wp2_with (at_builtin; refine wpList_append_own _ rfl _ _ 22 rfl w0.heap.size 9 i0 (.string ByteArray.empty) 1 16 Tryd.underlying22 HR.out.1 HR.out.2.1 HR.out.2.2.1 HR.out.2.2.2 rfl (by decide) _ _ _ rfl (hO.out.1.alloc _) ⟨wr.heap.size, 0, none⟩ 1 1 [.string x] rfl rfl ?c1 ?c2 ?c3 ?c4 ?c5 ?_)
          case c1 => exact cell_one_new _ _ _
          case c2 => exact one_text _
          case c3 => unfold maxLen; omega
          case c4 => omega
          case c5 => have := hO.out.2.size; simp; omega
          intro v' w1 hown' hgrow _
          have hO2 := Lib.hid (And.intro hown' hgrow)
          clear hown' hgrow
          go_wp2
          go_roundw
          case rel =>
            refine ⟨k + 1, by omega, by omega, by go_num, ?_, ?_⟩
            · rw [hst.out]
              exact hO2.out.1
            · have hlt := hO.out.1.lt
              exact (hO.out.2.alloc hO.out.2.size _).grown hO2.out.2 (by have := hO.out.2.size; simp; omega) (fun g hg => (hlt g hg).1)
          case measure => simp [intOf]; omega
      · obtain rfl : k = ps.length := by omega
        have hfin := hO.out.1
        rw [List.take_length] at hfin
        subst hv
        have hrow := Lib.hid (Row.of_own hfin)
        have HF := Lib.hid (And.intro (own_base hfin H1.out.2.size) (H1.out.2.trans (hO.out.2.mono H1.out.2.size)))
        clear hfin
        cases hq : W.isSet ps
        · have hc3 := Lib.hid (spec_wdIf_no A ps c wr hrow.out (by omega) hsz.out hq)
          replace hq := Lib.hid hq
          go_wp2_with (go_at_call 57; refine hc3.out.mono ?_; rintro e w' ⟨rfl, rfl⟩)
          go_ret2
          rw [HV.out.1, HV.out.2, hq.out]
          exact okStrs_nil _ _ _ HF.out.2
        · have hc3 := Lib.hid (spec_wdIf_yes A ps c wr hrow.out (by omega) hsz.out hq)
          replace hq := Lib.hid hq
          go_wp2_with (go_at_call 57; refine hc3.out.mono ?_; rintro e w' ⟨rfl, rfl⟩)
          go_ret2
          rw [HV.out.1, HV.out.2, hq.out]
          exact okStrs_of HF.out.1 rfl HF.out.2
  · have hv : W.parseOf s = [] := by unfold W.parseOf; rw [hd]; rfl
    have hk : W.parseOk s = true := by unfold W.parseOk; rw [hd]; rfl
    have hd' : (s.toList == [45]) = true := hd
    rw [hv, hk]
    clear hv hk hd
    go_enter Tryd.func43, Tryd.ntmps43
    go_wp2
    go_ret2
    exact okStrs_nil _ _ _ (Below.refl _ _)

theorem spec_ParseSet (s : ByteArray) (w : World) (hs : s.size ≤ 1048576) :
    Calls Tryd.prog 27 #[.string s] w (OkStrs w (W.parseOf s) (W.parseOk s)) := by
  have hc := Lib.hid (spec_wdParse s w hs)
  go_enter Tryd.func27, Tryd.ntmps27
  go_wp2_with fail
  refine hc.out.mono ?_
  rintro e w1 ⟨A, c, rfl, ho, hB⟩
  have HF := Lib.hid (And.intro ho hB)
  clear ho hB
  go_wp2
  go_ret2
  exact okStrs_of HF.out.1 rfl HF.out.2

theorem own_cells (w : World) (ps : List ByteArray) (N : Nat) (h : ps.length ≤ N) (hN : N ≤ 1048577) :
    (w.alloc (.cells (Lib.cellsOf ps N) 9)).ownsRow w.heap.size 9 1 (.slice (some ⟨w.heap.size, 0, none⟩) ps.length N) ps.length (strs ps) := by
  refine ⟨by rw [strs_length]; omega, .inr ⟨w.heap.size, N, _, rfl, Nat.le_refl _, heap_alloc_new w _, h, by unfold maxLen; omega, by rw [Lib.cellsOf_size h]; omega, ?_⟩⟩
  unfold Lib.cellsOf strs
  rw [Nat.mul_one]
  have hl : (ps.map Value.string).length = ps.length := List.length_map _
  simp [hl]

theorem split_sizes : ∀ (k : Nat) (s x : ByteArray), x ∈ Lib.splitB ⟨#[44]⟩ 0 k s → x.size ≤ s.size
  | 0, s, x, h => by
    rw [Lib.splitB_zero, List.mem_singleton] at h
    rw [h]
    exact Nat.le_refl _
  | k + 1, s, x, h => by
    unfold Lib.splitB at h
    split at h
    · rw [List.mem_singleton] at h
      rw [h]
      exact Nat.le_refl _
    · rw [List.mem_cons] at h
      rcases h with rfl | h
      · rw [ByteArray.size_extract]
        omega
      · have h1 := split_sizes k _ x h
        rw [ByteArray.size_extract] at h1
        omega

set_option maxHeartbeats 1600000 in
theorem impl_ParseSet (m : Int) (s : ByteArray) (w : World) (hm : Row w w.heap.size (some ⟨0, 0, none⟩) [.int .i64 m]) (hs : s.size ≤ 1048576) :
    Calls Tryd.prog 28 #[.string s] w (OkStrs w (W.parseOf s) (W.parseOk s)) := by
  cases hd : W.isDash s
  · have hv : W.parseOf s = if W.isSet (W.parts s) then W.parts s else [] := by unfold W.parseOf; rw [hd]; rfl
    have hk : W.parseOk s = W.isSet (W.parts s) := by unfold W.parseOk; rw [hd]; rfl
    have hd' : (s.toList == [45]) = false := hd
    obtain ⟨b, off, he, _, hcm⟩ := hm (by simp)
    injection he with he
    injection he with e1 e2
    subst e1
    subst e2
    have hcell : w.cell? ⟨0, 0, none⟩ = some (.int .i64 m) := hcm 0 _ rfl
    have hsp0 := Tryd.strings_SplitN s ⟨#[44]⟩ 13 m w (by omega) hcell (by decide) (by omega) (by omega)
    have hsp : Calls Tryd.prog 44 #[.string s, .string ⟨#[44]⟩, .int .i64 13] w fun e w' => e = .returned (.slice (some ⟨w.heap.size, 0, none⟩) (Lib.splitB ⟨#[44]⟩ 0 (min 13 (s.size + 1) - 1) s).length (min 13 (s.size + 1))) ∧
      w.alloc (.cells (Lib.cellsOf (Lib.splitB ⟨#[44]⟩ 0 (min 13 (s.size + 1) - 1) s) (min 13 (s.size + 1))) 9) = w' := hsp0.mono fun _ _ h => ⟨h.1, h.2.symm⟩
    have hset := W.split_set s
    have hLN : (Lib.splitB ⟨#[44]⟩ 0 (min 13 (s.size + 1) - 1) s).length ≤ min 13 (s.size + 1) := by
      have := Lib.splitB_length_le ⟨#[44]⟩ 0 (min 13 (s.size + 1) - 1) s
      omega
    have hsz : ∀ x ∈ Lib.splitB ⟨#[44]⟩ 0 (min 13 (s.size + 1) - 1) s, x.size ≤ 9223372036854775807 := fun x hx => by
      have := split_sizes (min 13 (s.size + 1) - 1) s x hx
      omega
    generalize Lib.splitB ⟨#[44]⟩ 0 (min 13 (s.size + 1) - 1) s = L at hsp hset hLN hsz
    generalize hN : min 13 (s.size + 1) = N at hsp hLN
    have hN' : N ≤ 13 := by omega
    have hown := own_cells w L N hLN (by omega)
    have his := impl_IsSet (some ⟨w.heap.size, 0, none⟩) L N _ (Row.of_own hown) (by omega) hsz
    have hB1 : Below w.heap.size w (w.alloc (.cells (Lib.cellsOf L N) 9)) := (Below.refl _ _).alloc (Nat.le_refl _) _
    generalize w.alloc (.cells (Lib.cellsOf L N) 9) = w1 at hsp hown his hB1
    have HV := Lib.hid (And.intro hv (And.intro hk (And.intro hown hB1)))
    replace hsp := Lib.hid hsp
    clear hv hk hd hN hm hcm hcell hsp0 hsz hown hB1
    cases hq : W.isSet (W.parts s)
    · have hq2 := hset.1
      rw [hq] at hq2
      rw [hq2] at his
      have Hq := Lib.hid hq
      replace his := Lib.hid his
      clear hset hq hq2
      go_enter Tryd.func28, Tryd.ntmps28
      go_wp2_with fail
      refine hsp.out.mono ?_
      rintro e w' ⟨rfl, rfl⟩
      go_wp2_with fail
      refine his.out.mono ?_
      rintro e w2 ⟨rfl, hB2⟩
      go_wp2
      go_ret2
      rw [HV.out.1, HV.out.2.1, Hq.out]
      exact okStrs_nil _ _ _ (HV.out.2.2.2.trans (hB2.mono HV.out.2.2.2.size))
    · have hq2 := hset.1
      have hL := Lib.hid (hset.2 hq)
      rw [hq] at hq2
      rw [hq2] at his
      have Hq := Lib.hid hq
      replace his := Lib.hid his
      clear hset hq hq2
      go_enter Tryd.func28, Tryd.ntmps28
      go_wp2_with fail
      refine hsp.out.mono ?_
      rintro e w' ⟨rfl, rfl⟩
      go_wp2_with fail
      refine his.out.mono ?_
      rintro e w2 ⟨rfl, hB2⟩
      replace hB2 := Lib.hid hB2
      go_wp2
      go_ret2
      rw [HV.out.1, HV.out.2.1, Hq.out]
      have ho := own_below HV.out.2.2.1 hB2.out
      rw [← hL.out]
      exact okStrs_of ho rfl (HV.out.2.2.2.trans (hB2.out.mono HV.out.2.2.2.size))
  · have hv : W.parseOf s = [] := by unfold W.parseOf; rw [hd]; rfl
    have hk : W.parseOk s = true := by unfold W.parseOk; rw [hd]; rfl
    have hd' : (s.toList == [45]) = true := hd
    rw [hv, hk]
    clear hv hk hd
    go_enter Tryd.func28, Tryd.ntmps28
    go_wp2
    go_ret2
    exact okStrs_nil _ _ _ (Below.refl _ _)

end Go.Proofs.YtdcobmgamlhglaaDoor
