/-
  WHAT THIS FILE PROVES: what is left of a set's words behind another set's words: the specification's and the program's functions hand back slices of their own that read the same; asked: rows that lie in memory, lengths that an int holds.
-/
import Derived.Test.YtjopbmhldpcpdaaGreatDoorFit
import Derived.OwnWalk
import Derived.Maps.AppendAt
namespace Go.Proofs.YtjopbmhldpcpdaaGreatDoor
open Go.RowKit Go.Shelf

/-- what is left of t behind s, if it is not empty -/
def restOf (s t : ByteArray) : List ByteArray := if Lib.hasPrefix t.data.toList s.data.toList && decide (s.size < t.size) then [t.extract s.size t.size] else []
/-- what is left of words behind one word -/
def restsOf (s : ByteArray) (ts : List ByteArray) : List ByteArray := ts.flatMap (restOf s)
/-- what is left of words behind words -/
def rests (ss ts : List ByteArray) : List ByteArray := ss.flatMap fun s => restsOf s ts
theorem restOf_len (s t : ByteArray) : (restOf s t).length ≤ 1 := by unfold restOf; split <;> simp
theorem restsOf_len (s : ByteArray) (ts : List ByteArray) : (restsOf s ts).length ≤ ts.length := by
  induction ts with
  | nil => simp [restsOf]
  | cons a r ih =>
    have := restOf_len s a
    unfold restsOf at ih ⊢
    rw [List.flatMap_cons, List.length_append, List.length_cons]
    omega
theorem rests_len (ss ts : List ByteArray) : (rests ss ts).length ≤ ss.length * ts.length := by
  induction ss with
  | nil => simp [rests]
  | cons a r ih =>
    have := restsOf_len a ts
    unfold rests at ih ⊢
    rw [List.flatMap_cons, List.length_append, List.length_cons, Nat.succ_mul]
    omega
theorem restsOf_succ (s : ByteArray) (ts : List ByteArray) (k : Nat) (h : k < ts.length) : restsOf s (ts.take (k + 1)) = restsOf s (ts.take k) ++ restOf s (W.nth ts k) := by
  unfold restsOf
  rw [List.take_succ_eq_append_getElem h, List.flatMap_append, W.nth_lt ts k h]
  simp
theorem rests_succ (ss ts : List ByteArray) (k : Nat) (h : k < ss.length) : rests (ss.take (k + 1)) ts = rests (ss.take k) ts ++ restsOf (W.nth ss k) ts := by
  unfold rests
  rw [List.take_succ_eq_append_getElem h, List.flatMap_append, W.nth_lt ss k h]
  simp
theorem restOf_yes {s t : ByteArray} (h1 : Lib.hasPrefix t.data.toList s.data.toList = true) (h2 : s.size < t.size) : restOf s t = [t.extract s.size t.size] := by unfold restOf; rw [h1, decide_eq_true h2]; rfl
theorem restOf_pre {s t : ByteArray} (h1 : Lib.hasPrefix t.data.toList s.data.toList = false) : restOf s t = [] := by unfold restOf; rw [h1]; rfl
theorem restOf_size {s t : ByteArray} (h2 : ¬ s.size < t.size) : restOf s t = [] := by unfold restOf; rw [decide_eq_false h2]; simp
theorem cut_rest {s t : ByteArray} (h : Lib.hasPrefix t.data.toList s.data.toList = true) :
    (⟨(Lib.trimPrefix t.data.toList s.data.toList).toArray⟩ : ByteArray) = t.extract s.size t.size ∧ (s.size < t.size → ((t.extract s.size t.size).toList == []) = false) ∧ (¬ s.size < t.size → ((t.extract s.size t.size).toList == []) = true) := by
  have e : (t.extract s.size t.size).data.toList = t.data.toList.drop s.size := Lib.extract_to_end t s.size
  have l1 : t.data.toList.length = t.size := (Lib.size_eq t).symm
  have l2 : s.data.toList.length = s.size := (Lib.size_eq s).symm
  refine ⟨data_inj ?_, fun hlt => ?_, fun hge => ?_⟩
  · rw [e]
    show Lib.trimPrefix t.data.toList s.data.toList = _
    unfold Lib.trimPrefix
    rw [h, ← l2]
    rfl
  · rw [Lib.toList_data, e]
    refine beq_eq_false_iff_ne.2 fun hn => ?_
    have := congrArg List.length hn
    rw [List.length_drop, l1, List.length_nil] at this
    omega
  · rw [Lib.toList_data, e, List.drop_eq_nil_of_le (by omega)]
    rfl
def quOk (s0 s1 : List ByteArray) : Bool := W.isSet s0 && W.isSet s1
def quOf (s0 s1 : List ByteArray) : List ByteArray := if quOk s0 s1 then ordB (rests s0 s1) else []
theorem quOf_no {s0 s1 : List ByteArray} (h : quOk s0 s1 = false) : quOf s0 s1 = [] := by unfold quOf; rw [h]; rfl
theorem quOf_yes {s0 s1 : List ByteArray} (h : quOk s0 s1 = true) : quOf s0 s1 = ordB (rests s0 s1) := by unfold quOf; rw [h]; rfl
theorem rests_144 {s0 s1 : List ByteArray} (h0 : s0.length ≤ 500) (h1 : s1.length ≤ 500) : (rests s0 s1).length ≤ 250000 := by
  have := rests_len s0 s1
  have h2 : s0.length * s1.length ≤ 500 * 500 := Nat.mul_le_mul h0 h1
  omega
theorem quOf_len (s0 s1 : List ByteArray) : (quOf s0 s1).length ≤ 1048576 := by
  cases h : quOk s0 s1
  · rw [quOf_no h]; simp
  · rw [quOf_yes h]
    have h' := h
    unfold quOk at h'
    rw [Bool.and_eq_true] at h'
    have l0 := W.isSet_len _ h'.1
    have l1 := W.isSet_len _ h'.2
    have := rests_144 (show s0.length ≤ 500 by omega) (show s1.length ≤ 500 by omega)
    have := ord_length (rests s0 s1)
    omega
theorem take_len (ss : List ByteArray) (k : Nat) (h : ss.length ≤ 500) : (ss.take k).length ≤ 500 := by
  rw [List.length_take]; omega
/-- what has been gathered when k words of the first list, and j of the second behind one more, have been seen -/
def part (s0 s1 : List ByteArray) (k : Nat) (s : ByteArray) (j : Nat) : List ByteArray := rests (s0.take k) s1 ++ restsOf s (s1.take j)
theorem part_len (s0 s1 : List ByteArray) (k : Nat) (s : ByteArray) (j : Nat) (h0 : s0.length ≤ 500) (h1 : s1.length ≤ 500) : (part s0 s1 k s j).length ≤ 250500 := by
  unfold part
  have h2 := rests_144 (take_len s0 k h0) h1
  have h3 := restsOf_len s (s1.take j)
  have h4 := take_len s1 j h1
  rw [List.length_append]
  omega
theorem part_zero (s0 s1 : List ByteArray) (k : Nat) (s : ByteArray) : part s0 s1 k s 0 = rests (s0.take k) s1 := by simp [part, restsOf]
theorem part_succ (s0 s1 : List ByteArray) (k : Nat) (s : ByteArray) (j : Nat) (h : j < s1.length) : part s0 s1 k s (j + 1) = part s0 s1 k s j ++ restOf s (W.nth s1 j) := by
  unfold part
  rw [restsOf_succ s s1 j h, List.append_assoc]
theorem part_all (s0 s1 : List ByteArray) (k : Nat) (h : k < s0.length) : part s0 s1 k (W.nth s0 k) s1.length = rests (s0.take (k + 1)) s1 := by
  unfold part
  rw [rests_succ s0 s1 k h, List.take_length]

set_option maxHeartbeats 3200000 in
theorem spec_wdQuotient (A : Option Addr) (s0 : List ByteArray) (c : Nat) (A' : Option Addr) (s1 : List ByteArray) (c' : Nat) (w : World) (h : Row w w.heap.size A (strs s0)) (h' : Row w w.heap.size A' (strs s1)) (h12 : s0.length ≤ 500) (h12' : s1.length ≤ 500) :
    Calls Tryz.prog 28 #[.slice A s0.length c, .slice A' s1.length c'] w (GivesStrs w (ordB (rests s0 s1))) := by
  replace h := Lib.hid h
  replace h' := Lib.hid h'
  have hbeg := fun (s t : ByteArray) W => spec_wdBegins t s W
  go_enter Tryz.func28, Tryz.ntmps28
  go_wp2
  go_loopw [5, 12] (fun v i wr => ∃ k : Nat, k ≤ s0.length ∧ i = .int .i64 k ∧ wr.ownsRow w.heap.size 9 1 v (ordB (rests (s0.take k) s1)).length (strs (ordB (rests (s0.take k) s1))) ∧ Below w.heap.size w wr)
    (fun _ i _ => s0.length - (intOf i).toNat)
  case atStart => exact ⟨0, Nat.zero_le _, rfl, World.ownsRow_nil _ _ _ _, Below.refl _ _⟩
  case round =>
    obtain ⟨k, hk, rfl, ho, hB⟩ := hrel
    obtain ⟨Ar, cr, rfl⟩ := own_slice ho
    have hO := Lib.hid (And.intro ho hB)
    clear ho hB
    by_cases hlt : k < s0.length
    · obtain ⟨b, off, rfl, hb, hcc⟩ := h.out (by rw [strs_length]; omega)
      have hlt' : (k : Int) < (s0.length : Int) := by omega
      have c1 := (hO.out.2.cell (p := ⟨b, off + k, none⟩) hb).trans (hcc k _ (strs_nth s0 k hlt))
      clear hcc
      have Hall := Lib.hid (part_all s0 s1 k hlt)
      have Hlen := Lib.hid (fun s j => part_len s0 s1 k s j h12 h12')
      have Hpz := Lib.hid (fun s => part_zero s0 s1 k s)
      have Hps := Lib.hid (fun s j hj => part_succ s0 s1 k s j hj)
      generalize W.nth s0 k = s at c1 Hall
      rw [← Hpz.out s] at hO ⊢
      go_wp2_with fail
      go_loopw [5, 18] (fun v i wr => ∃ j : Nat, j ≤ s1.length ∧ i = .int .i64 j ∧ wr.ownsRow w.heap.size 9 1 v (ordB (part s0 s1 k s j)).length (strs (ordB (part s0 s1 k s j))) ∧ Below w.heap.size w wr)
        (fun _ i _ => s1.length - (intOf i).toNat)
      case atStart => exact ⟨0, Nat.zero_le _, rfl, hO.out.1, hO.out.2⟩
      case round =>
        clear hO
        obtain ⟨j, hj, rfl, ho, hB⟩ := hrel
        obtain ⟨Aj, cj, rfl⟩ := own_slice ho
        have hO := Lib.hid (And.intro ho hB)
        clear ho hB
        by_cases hlj : j < s1.length
        · obtain ⟨b', off', rfl, hb', hcc'⟩ := h'.out (by rw [strs_length]; omega)
          have hlj' : (j : Int) < (s1.length : Int) := by omega
          have c2 := (hO.out.2.cell (p := ⟨b', off' + j, none⟩) hb').trans (hcc' j _ (strs_nth s1 j hlj))
          clear hcc'
          have Hs := Lib.hid (Hps.out s j hlj)
          have hn := ord_length (part s0 s1 k s j)
          have hnn := Hlen.out s j
          have Hput := Lib.hid (fun x => spec_wdPut w.heap.size Aj (ordB (part s0 s1 k s j)) cj x wr hO.out.1 hO.out.2.size (by omega))
          generalize W.nth s1 j = t at c2 Hs
          have Hq := Lib.hid (hbeg s t)
          by_cases hsz : s.size < t.size
          · have hsz' : (s.size : Int) < (t.size : Int) := by omega
            have hsz2 : (s.size : Int) ≤ (t.size : Int) := by omega
            cases hp : Lib.hasPrefix t.data.toList s.data.toList
            · have Hr := Lib.hid (restOf_pre hp)
              have Hq2 := Hq.out
              rw [hp] at Hq2
              replace Hq2 := Lib.hid Hq2
              clear hp Hput
              generalize ha : ordB (part s0 s1 k s j) = acc at hO hn
              have Ha := Lib.hid ha
              clear ha
              go_wp2_with (go_at_call 39; refine (Hq2.out _).mono ?_; rintro e w' ⟨rfl, rfl⟩)
              go_roundw
              case rel => exact ⟨j + 1, by omega, by go_num, by rw [Hs.out, Hr.out, List.append_nil, Ha.out]; exact hO.out.1, hO.out.2⟩
              case measure => simp [intOf]; omega
            · have Hr := Lib.hid (restOf_yes hp hsz)
              have Hq2 := Hq.out
              rw [hp] at Hq2
              replace Hq2 := Lib.hid Hq2
              have Hord := Lib.hid (ord_snoc (part s0 s1 k s j) (t.extract s.size t.size))
              clear hp
              generalize ordB (part s0 s1 k s j) = acc at hO hn Hput Hord
              go_wp2_with (first | (go_at_call 39; refine (Hq2.out _).mono ?_; rintro e w' ⟨rfl, rfl⟩) | (go_at_call 40; refine (Hput.out (t.extract s.size t.size)).mono ?_; rintro e w2 ⟨A2, c2', rfl, ho2, hB2⟩))
              have hO2 := Lib.hid (And.intro ho2 hB2)
              clear ho2 hB2
              go_roundw
              case rel => exact ⟨j + 1, by omega, by go_num, by rw [Hs.out, Hr.out, Hord.out]; exact hO2.out.1, hO.out.2.trans (hO2.out.2.mono hO.out.2.size)⟩
              case measure => simp [intOf]; omega
          · have hsz' : ¬ (s.size : Int) < (t.size : Int) := by omega
            have Hr := Lib.hid (restOf_size hsz)
            clear Hput
            generalize ha : ordB (part s0 s1 k s j) = acc at hO hn
            have Ha := Lib.hid ha
            clear ha
            go_wp2
            go_roundw
            case rel => exact ⟨j + 1, by omega, by go_num, by rw [Hs.out, Hr.out, List.append_nil, Ha.out]; exact hO.out.1, hO.out.2⟩
            case measure => simp [intOf]; omega
        · have hje : j = s1.length := by omega
          subst hje
          have ho := hO.out
          rw [Hall.out] at ho
          have HO := Lib.hid ho
          clear ho hO
          rw [Hall.out]
          generalize hg : ordB (rests (s0.take (k + 1)) s1) = acc at HO ⊢
          have Hg := Lib.hid hg
          clear hg
          go_wp2
          go_roundw
          case rel => exact ⟨k + 1, by omega, by go_num, by rw [Hg.out]; exact HO.out.1, HO.out.2⟩
          case measure => simp [intOf]; omega
    · have hke : k = s0.length := by omega
      subst hke
      have ho := hO.out
      rw [List.take_length] at ho
      have HO := Lib.hid ho
      clear ho hO
      rw [List.take_length]
      generalize hg : ordB (rests s0 s1) = acc at HO
      have Hg := Lib.hid hg
      clear hg
      go_wp2
      go_ret
      rw [Hg.out]
      exact ⟨Ar, cr, rfl, HO.out.1, HO.out.2⟩


set_option maxHeartbeats 3200000 in
theorem impl_restsOf (A : Option Addr) (s0 : List ByteArray) (c : Nat) (A' : Option Addr) (s1 : List ByteArray) (c' : Nat) (w : World) (h : Row w w.heap.size A (strs s0)) (h' : Row w w.heap.size A' (strs s1)) (h12 : s0.length ≤ 500) (h12' : s1.length ≤ 500) :
    Calls Tryz.prog 51 #[.slice A s0.length c, .slice A' s1.length c'] w (GivesStrs w (rests s0 s1)) := by
  replace h := Lib.hid h
  replace h' := Lib.hid h'
  obtain ⟨i0, hi, hz0, hz1, hz2⟩ := info_parts infoStr
  have HR := Lib.hid (And.intro hi (And.intro hz0 (And.intro hz1 hz2)))
  clear hi hz0 hz1 hz2
  have hcut := fun (s t : ByteArray) W => (Tryz.strings_CutPrefix t s W).mono fun _ _ h => And.intro h.1 h.2.symm
  go_enter Tryz.func51, Tryz.ntmps51
  go_wp2_with fail
  go_loopw [5, 14] (fun v i wr => ∃ k : Nat, k ≤ s0.length ∧ i = .int .i64 k ∧ wr.ownsRow w.heap.size 9 1 v (rests (s0.take k) s1).length (strs (rests (s0.take k) s1)) ∧ Below w.heap.size w wr)
    (fun _ i _ => s0.length - (intOf i).toNat)
  case atStart => exact ⟨0, Nat.zero_le _, rfl, World.ownsRow_nil _ _ _ _, Below.refl _ _⟩
  case round =>
    obtain ⟨k, hk, rfl, ho, hB⟩ := hrel
    obtain ⟨Ar, cr, rfl⟩ := own_slice ho
    have hO := Lib.hid (And.intro ho hB)
    clear ho hB
    by_cases hlt : k < s0.length
    · obtain ⟨b, off, rfl, hb, hcc⟩ := h.out (by rw [strs_length]; omega)
      have hlt' : (k : Int) < (s0.length : Int) := by omega
      have c1 := (hO.out.2.cell (p := ⟨b, off + k, none⟩) hb).trans (hcc k _ (strs_nth s0 k hlt))
      clear hcc
      have Hall := Lib.hid (part_all s0 s1 k hlt)
      have Hlen := Lib.hid (fun s j => part_len s0 s1 k s j h12 h12')
      have Hpz := Lib.hid (fun s => part_zero s0 s1 k s)
      have Hps := Lib.hid (fun s j hj => part_succ s0 s1 k s j hj)
      generalize W.nth s0 k = s at c1 Hall
      rw [← Hpz.out s] at hO ⊢
      go_wp2_with fail
      go_loopw [5, 20] (fun v i wr => ∃ j : Nat, j ≤ s1.length ∧ i = .int .i64 j ∧ wr.ownsRow w.heap.size 9 1 v (part s0 s1 k s j).length (strs (part s0 s1 k s j)) ∧ Below w.heap.size w wr)
        (fun _ i _ => s1.length - (intOf i).toNat)
      case atStart => exact ⟨0, Nat.zero_le _, rfl, hO.out.1, hO.out.2⟩
      case round =>
        clear hO
        obtain ⟨j, hj, rfl, ho, hB⟩ := hrel
        have hO := Lib.hid (And.intro ho hB)
        clear ho hB
        by_cases hlj : j < s1.length
        · obtain ⟨b', off', rfl, hb', hcc'⟩ := h'.out (by rw [strs_length]; omega)
          have hlj' : (j : Int) < (s1.length : Int) := by omega
          have c2 := (hO.out.2.cell (p := ⟨b', off' + j, none⟩) hb').trans (hcc' j _ (strs_nth s1 j hlj))
          clear hcc'
          have Hs := Lib.hid (Hps.out s j hlj)
          have hnn := Hlen.out s j
          generalize W.nth s1 j = t at c2 Hs
          have Hq := Lib.hid (hcut s t)
          cases hp : Lib.hasPrefix t.data.toList s.data.toList
          · have Hr := Lib.hid (restOf_pre hp)
            have Hq2 := Hq.out
            rw [hp] at Hq2
            replace Hq2 := Lib.hid Hq2
            clear hp
            generalize ha : part s0 s1 k s j = acc at hO hnn
            have Ha := Lib.hid ha
            clear ha
            go_wp2_with (go_at_call 71; refine (Hq2.out _).mono ?_; rintro e w' ⟨rfl, rfl⟩)
            go_roundw
            case rel => exact ⟨j + 1, by omega, by go_num, by rw [Hs.out, Hr.out, List.append_nil, Ha.out]; exact hO.out.1, hO.out.2⟩
            case measure => simp [intOf]; omega
          · have Hcp := Lib.hid (cut_rest hp)
            by_cases hsz : s.size < t.size
            · have Hr := Lib.hid (restOf_yes hp hsz)
              have Hq2 := Hq.out
              rw [hp, Hcp.out.1] at Hq2
              replace Hq2 := Lib.hid Hq2
              have hne : ((t.extract s.size t.size).toList == []) = false := Hcp.out.2.1 hsz
              clear hp
              generalize t.extract s.size t.size = x at Hq2 Hr hne
              generalize ha : part s0 s1 k s j = acc at hO hnn
              have Ha := Lib.hid ha
              clear ha
              go_wp2_with (first | (go_at_call 71; refine (Hq2.out _).mono ?_; rintro e w' ⟨rfl, rfl⟩) | (at_builtin; refine wpList_append_own _ rfl _ _ 22 rfl w.heap.size 9 i0 (.string ByteArray.empty) 1 16 Tryz.underlying22 HR.out.1 HR.out.2.1 HR.out.2.2.1 HR.out.2.2.2 rfl (by decide) _ _ _ rfl (hO.out.1.alloc _) ⟨wr.heap.size, 0, none⟩ 1 1 [.string x] rfl rfl ?c1 ?c2 ?c3 ?c4 ?c5 ?_))
              case c1 => exact cell_one_new _ _ _
              case c2 => exact one_text _
              case c3 => unfold maxLen; omega
              case c4 => omega
              case c5 => have := hO.out.2.size; simp; omega
              intro v' w1 hown' hgrow _
              have hO2 := Lib.hid (And.intro hown' hgrow)
              clear hown' hgrow
              go_wp2
              go_roundw
              case rel =>
                refine ⟨j + 1, by omega, by go_num, ?_, ?_⟩
                · rw [Hs.out, Hr.out, Ha.out, strs_snoc, List.length_append]
                  exact hO2.out.1
                · have hlt := hO.out.1.lt
                  exact (hO.out.2.alloc hO.out.2.size _).grown hO2.out.2 (by have := hO.out.2.size; simp; omega) (fun g hg => (hlt g hg).1)
              case measure => simp [intOf]; omega
            · have Hr := Lib.hid (restOf_size hsz)
              have Hq2 := Hq.out
              rw [hp, Hcp.out.1] at Hq2
              replace Hq2 := Lib.hid Hq2
              have hne : ((t.extract s.size t.size).toList == []) = true := Hcp.out.2.2 hsz
              clear hp
              generalize t.extract s.size t.size = x at Hq2 hne
              generalize ha : part s0 s1 k s j = acc at hO hnn
              have Ha := Lib.hid ha
              clear ha
              go_wp2_with (go_at_call 71; refine (Hq2.out _).mono ?_; rintro e w' ⟨rfl, rfl⟩)
              go_roundw
              case rel => exact ⟨j + 1, by omega, by go_num, by rw [Hs.out, Hr.out, List.append_nil, Ha.out]; exact hO.out.1, hO.out.2⟩
              case measure => simp [intOf]; omega
        · have hje : j = s1.length := by omega
          subst hje
          have ho := hO.out
          rw [Hall.out] at ho
          have HO := Lib.hid ho
          clear ho hO
          go_wp2
          go_roundw
          case rel => exact ⟨k + 1, by omega, by go_num, HO.out.1, HO.out.2⟩
          case measure => simp [intOf]; omega
    · have hke : k = s0.length := by omega
      subst hke
      have ho := hO.out
      rw [List.take_length] at ho
      have HO := Lib.hid ho
      clear ho hO
      rw [List.take_length]
      generalize hg : rests s0 s1 = rs at HO
      have Hg := Lib.hid hg
      clear hg
      go_wp2
      go_ret
      rw [Hg.out]
      exact ⟨Ar, cr, rfl, HO.out.1, HO.out.2⟩


end Go.Proofs.YtjopbmhldpcpdaaGreatDoor
