/-
  WHAT THIS FILE PROVES: the set of a set's words backwards: the specification's and the program's functions hand back slices of their own that read the same; asked: a row that lies in memory, lengths that an int holds.
-/
import Derived.Test.YtojcnalgjeojdaaDoorFit
import Derived.Test.YtojcnalgjeojdaaDoorShelfB
import Derived.OwnWalk
import Derived.Maps.AppendAt
import Derived.Lib.AtoiErrMem
import Derived.Lib.ConvBytes
import Derived.Laws.IdiomStrings
import Derived.Shelf.SlicesE.Reverse
namespace Go.Proofs.YtojcnalgjeojdaaDoor
open Go.RowKit Go.Shelf Go.Sort

/-- a text backwards -/
def backB (s : ByteArray) : ByteArray := ⟨s.data.toList.reverse.toArray⟩
/-- the bytes of a text from place k on, backwards -/
def bk (s : ByteArray) (k : Nat) : ByteArray := ⟨(s.data.toList.drop k).reverse.toArray⟩
theorem bk_all (s : ByteArray) : bk s 0 = backB s := rfl
theorem bk_none (s : ByteArray) : bk s s.size = ⟨#[]⟩ := by
  unfold bk
  rw [List.drop_eq_nil_of_le (by rw [← Lib.size_eq]; exact Nat.le_refl _)]
  rfl
theorem bk_size (s : ByteArray) (k : Nat) : (bk s k).size = s.size - k := by
  rw [Lib.size_eq, Lib.size_eq]
  simp [bk]
theorem bk_step (s : ByteArray) (m : Nat) (h : m < s.size) : bk s (m + 1) ++ s.extract m (m + 1) = bk s m := by
  apply data_inj
  have hl : m < s.data.toList.length := by rw [← Lib.size_eq]; exact h
  have e : (s.extract m (m + 1)).data.toList = [s.data.toList[m]] := by
    rw [ByteArray.data_extract, Array.toList_extract]
    simp only [List.extract_eq_take_drop, Nat.add_sub_cancel_left]
    rw [List.drop_eq_getElem_cons hl]
    rfl
  rw [ByteArray.data_append, Array.toList_append, e]
  show (s.data.toList.drop (m + 1)).reverse ++ _ = (s.data.toList.drop m).reverse
  rw [List.drop_eq_getElem_cons hl, List.reverse_cons]

set_option maxHeartbeats 800000 in
theorem spec_wdBack (s : ByteArray) (w : World) (hs : s.size ≤ 60) :
    Calls Tryd.prog 70 #[.string s] w fun e w' => e = .returned (.string (backB s)) ∧ w = w' := by
  have Hst := Lib.hid (fun m (h : m < s.size) => bk_step s m h)
  have Hsz := Lib.hid (fun m => bk_size s m)
  have Hn := Lib.hid (bk_none s)
  rw [← bk_all s]
  go_enter Tryd.func70, Tryd.ntmps70
  go_wp2
  go_loop [3, 4] (fun z i => ∃ k : Nat, k ≤ s.size ∧ i = .int .i64 ((k : Int) - 1) ∧ z = .string (bk s k)) (fun _ i => (intOf i + 1).toNat)
  case atStart => exact ⟨s.size, Nat.le_refl _, by first | rfl | (congr 1; omega), by rw [Hn.out]⟩
  case round =>
    obtain ⟨k, hk, rfl, rfl⟩ := hrel
    rcases k with _ | m
    · go_wp2
      go_ret
      exact ⟨rfl, rfl⟩
    · have hm : (((m + 1 : Nat) : Int) - 1) = (m : Int) := by omega
      have hlt : m < s.size := by omega
      have H1 := Lib.hid (Hst.out m hlt)
      have hz := Hsz.out (m + 1)
      have h0 : (0 : Int) ≤ (m : Int) := by omega
      have hms : (m : Int) + 1 ≤ (s.size : Int) := by omega
      have hmt : ((m : Int) + 1).toNat = m + 1 := by omega
      rw [hm]
      generalize bk s (m + 1) = y at H1 hz
      go_wp2
      go_round
      case rel => exact ⟨m, by omega, by go_num, by rw [← H1.out]⟩
      case measure => simp [intOf]

theorem sizesOf (ss : List ByteArray) (h : W.isSet ss = true) (k : Nat) (hk : k < ss.length) : (W.nth ss k).size ≤ 60 := by
  have := W.short_size _ (W.isSet_short ss h k hk)
  omega
/-- texts backwards -/
def backs (ss : List ByteArray) : List ByteArray := ss.map backB
theorem backs_length (ss : List ByteArray) : (backs ss).length = ss.length := by simp [backs]
theorem backs_succ (ss : List ByteArray) (k : Nat) (h : k < ss.length) : backs (ss.take (k + 1)) = backs (ss.take k) ++ [backB (W.nth ss k)] := by
  unfold backs
  rw [List.take_succ_eq_append_getElem h, List.map_append, W.nth_lt ss k h]
  rfl
def baOf (ss : List ByteArray) : List ByteArray := if W.isSet ss then ordB (backs ss) else []
theorem baOf_no {ss : List ByteArray} (h : W.isSet ss = false) : baOf ss = [] := by unfold baOf; rw [h]; rfl
theorem baOf_yes {ss : List ByteArray} (h : W.isSet ss = true) : baOf ss = ordB (backs ss) := by unfold baOf; rw [h]; rfl
theorem baOf_len (ss : List ByteArray) : (baOf ss).length ≤ 1048576 := by
  cases h : W.isSet ss
  · rw [baOf_no h]; simp
  · rw [baOf_yes h]
    have h1 := ord_length (backs ss)
    have h2 := W.isSet_len ss h
    rw [backs_length] at h1
    omega
theorem fit_backs {ss : List ByteArray} (h : ss.length ≤ 12) : fitOk (backs ss) = true ∧ fitOf (backs ss) = ordB (backs ss) := by
  have h1 := ord_length (backs ss)
  rw [backs_length] at h1
  have e : fitOk (backs ss) = true := decide_eq_true (by omega)
  refine ⟨e, ?_⟩
  unfold fitOf
  rw [e]
  rfl

set_option maxHeartbeats 1600000 in
theorem spec_wdReverse (A : Option Addr) (ss : List ByteArray) (c : Nat) (w : World) (h : Row w w.heap.size A (strs ss)) (hq : W.isSet ss = true) :
    Calls Tryd.prog 38 #[.slice A ss.length c] w (GivesStrs w (ordB (backs ss))) := by
  have h12 := W.isSet_len ss hq
  have Hz := Lib.hid (sizesOf ss hq)
  replace h := Lib.hid h
  clear hq
  go_enter Tryd.func38, Tryd.ntmps38
  go_wp2
  go_loopw [3, 8] (fun v i wr => ∃ k : Nat, k ≤ ss.length ∧ i = .int .i64 k ∧ wr.ownsRow w.heap.size 9 1 v (ordB (backs (ss.take k))).length (strs (ordB (backs (ss.take k)))) ∧ Below w.heap.size w wr)
    (fun _ i _ => ss.length - (intOf i).toNat)
  case atStart => exact ⟨0, Nat.zero_le _, rfl, World.ownsRow_nil _ _ _ _, Below.refl _ _⟩
  case round =>
    obtain ⟨k, hk, rfl, ho, hB⟩ := hrel
    obtain ⟨Ar, cr, rfl⟩ := own_slice ho
    have hO := Lib.hid (And.intro ho hB)
    clear ho hB
    by_cases hlt : k < ss.length
    · obtain ⟨b, off, rfl, hb, hcc⟩ := h.out (by rw [strs_length]; omega)
      have hlt' : (k : Int) < (ss.length : Int) := by omega
      have c1 := (hO.out.2.cell (p := ⟨b, off + k, none⟩) hb).trans (hcc k _ (strs_nth ss k hlt))
      clear hcc
      have Hs := Lib.hid (show ordB (backs (ss.take (k + 1))) = putB (ordB (backs (ss.take k))) (backB (W.nth ss k)) by rw [backs_succ ss k hlt, ord_snoc])
      have hn := ord_length (backs (ss.take k))
      rw [backs_length, List.length_take] at hn
      have hput := Lib.hid (spec_wdPut w.heap.size Ar (ordB (backs (ss.take k))) cr (backB (W.nth ss k)) wr hO.out.1 hO.out.2.size (by omega))
      have hbk := Lib.hid (fun W' => spec_wdBack (W.nth ss k) W' (Hz.out k hlt))
      generalize backB (W.nth ss k) = y at Hs hput hbk
      generalize W.nth ss k = x at c1 hbk
      generalize ordB (backs (ss.take k)) = acc at hO Hs hput
      go_wp2_with (first | (go_at_call 70; refine (hbk.out _).mono ?_; rintro e w' ⟨rfl, rfl⟩) | (go_at_call 47; refine hput.out.mono ?_; rintro e w2 ⟨A2, c2, rfl, ho2, hB2⟩))
      have hO2 := Lib.hid (And.intro ho2 hB2)
      clear ho2 hB2
      go_roundw
      case rel => exact ⟨k + 1, by omega, by go_num, by rw [Hs.out]; exact hO2.out.1, hO.out.2.trans (hO2.out.2.mono hO.out.2.size)⟩
      case measure => simp [intOf]; omega
    · have hke : k = ss.length := by omega
      subst hke
      have ho := hO.out
      rw [List.take_length] at ho
      have HO := Lib.hid ho
      clear ho hO
      rw [List.take_length]
      generalize hg : ordB (backs ss) = acc at HO
      have Hg := Lib.hid hg
      clear hg
      go_wp2
      go_ret
      rw [Hg.out]
      exact ⟨Ar, cr, rfl, HO.out.1, HO.out.2⟩


abbrev encB : UInt8 → Value := fun b => .int .u8 (b.toNat : Int)
theorem holds_bytes (w : World) (s : ByteArray) : Holds encB (Lib.bytesWorld w 5 s) w.heap.size 0 s.data.toList.toArray := fun j hj => by
  have hj' : j < s.size := by rw [Lib.size_eq]; simpa using hj
  have hjl : j < s.data.toList.length := by rw [← Lib.size_eq]; exact hj'
  rw [Nat.zero_add]
  refine ⟨?_, ?_⟩
  · rw [Lib.bytesWorld_cell w _ s j hj', List.getD_eq_getElem?_getD, List.getElem?_eq_getElem hjl, getElem!_pos (s.data.toList.toArray) j hj]
    simp
  · have hcs : s.size ≤ (Lib.bytesCells w 5 s).size := by
      unfold Lib.bytesCells
      rw [Array.size_append, Array.size_map]
      show s.data.size ≤ _
      omega
    have hge : ¬ (Lib.bytesCells w 5 s).size ≤ j := by omega
    unfold World.frozen?
    simp only [Lib.bytesWorld_at_new]
    simp [hge]

set_option maxHeartbeats 1600000 in
theorem impl_backwards (s : ByteArray) (w : World) (hs : s.size ≤ 60) :
    Calls Tryd.prog 71 #[.string s] w fun e w' => e = .returned (.string (backB s)) ∧ Below w.heap.size w w' := by
  have hcv := Lib.run_convert_string_bytes w 52 66 5 s Tryd.underlying52 Tryd.underlying66 Tryd.underlying5
  have hsl : s.data.toList.length = s.size := (Lib.size_eq s).symm
  have hrev := fun c => AnyE.slices_Reverse Tryd.revB encB (fun _ => rfl) w.heap.size 0 c s.data.toList (Lib.bytesWorld w 5 s) (holds_bytes w s) (by omega)
  rw [hsl] at hrev
  have hb0 := Lib.bytesWorld_below w 5 s
  have hH := holds_bytes w s
  have Hb := Lib.hid (And.intro hb0 hH)
  replace hrev := Lib.hid hrev
  clear hb0 hH
  generalize Lib.bytesWorld w 5 s = wb at hcv hrev Hb
  go_enter Tryd.func71, Tryd.ntmps71
  go_wp2_with fail
  refine (hrev.out _).mono ?_
  rintro e w2 ⟨rfl, n, rfl⟩
  have hH2 := holds_putRow encB (Sort.ahead wb n) w.heap.size 0 s.data.toList.toArray s.data.toList.reverse.toArray (holds_ahead _ _ _ _ _ _ Hb.out.2) (by simp)
  have hB2 := Lib.below_putRow (q := n) (enc := encB) (d := s.data.toList.reverse.toArray) Hb.out.1 (Nat.le_refl _)
  have hcv2 := fun cap => run_convert_bytes_back (P := Tryd.prog) (putRow encB (Sort.ahead wb n) w.heap.size 0 s.data.toList.reverse.toArray) 66 9 5 ⟨w.heap.size, 0, none⟩ cap s.data.toList.reverse Tryd.underlying66 Tryd.underlying5 Tryd.underlying9 (fun j hj => by
    have h1 := (hH2 j (by simpa using hj)).1
    rw [addr_at, h1, getElem!_pos (s.data.toList.reverse.toArray) j (by simpa using hj)]
    simp)
  rw [List.length_reverse, hsl] at hcv2
  have HB := Lib.hid hB2
  clear hH2 hB2 hcv hrev Hb
  generalize putRow encB (Sort.ahead wb n) w.heap.size 0 s.data.toList.reverse.toArray = w2 at hcv2 HB
  go_wp2
  go_ret
  exact ⟨rfl, HB.out⟩

set_option maxHeartbeats 1600000 in
theorem listOf_backwards (A : Option Addr) (ss : List ByteArray) (c : Nat) (w : World) (h : Row w w.heap.size A (strs ss)) (hq : W.isSet ss = true) :
    Calls Tryd.prog 51 #[.slice A ss.length c, .func (.func 71) #[] #[]] w (GivesStrs w (backs ss)) := by
  obtain ⟨i0, hi, hz0, hz1, hz2⟩ := info_parts infoStr
  have HR := Lib.hid (And.intro hi (And.intro hz0 (And.intro hz1 hz2)))
  have h12 := W.isSet_len ss hq
  have Hz := Lib.hid (sizesOf ss hq)
  clear hi hz0 hz1 hz2 hq
  replace h := Lib.hid h
  go_enter Tryd.func51, Tryd.ntmps51
  go_wp2_with (at_make; refine wpList_make_own _ rfl _ _ 22 rfl w.heap.size 9 i0 (.string ByteArray.empty) 1 Tryd.underlying22 HR.out.1 HR.out.2.1 HR.out.2.2.1 _ _ _ ss.length rfl rfl rfl ?b1 ?b2 ?b3 ?_)
  case b1 => rw [HR.out.2.2.2]; omega
  case b2 => unfold maxLen; omega
  case b3 => exact Nat.le_refl _
  intro w1 hown1 hgrow1
  have hB1 : Below w.heap.size w w1 := (Below.refl _ w).grown hgrow1 (Nat.le_refl _) (fun g hg => by cases hg)
  replace hown1 := Lib.hid (And.intro hown1 hB1)
  clear hgrow1 hB1
  go_wp2
  go_loopw [5, 13] (fun v i wr => ∃ k : Nat, k ≤ ss.length ∧ i = .int .i64 k ∧ wr.ownsRow w.heap.size 9 1 v k (strs (backs (ss.take k))) ∧ Below w.heap.size w wr)
    (fun _ i _ => ss.length - (intOf i).toNat)
  case atStart => exact ⟨0, Nat.zero_le _, rfl, hown1.out.1, hown1.out.2⟩
  case round =>
    obtain ⟨k, hk, rfl, ho, hB⟩ := hrel
    have hO := Lib.hid (And.intro ho hB)
    clear ho hB
    by_cases hlt : k < ss.length
    · obtain ⟨b, off, rfl, hb, hcc⟩ := h.out (by rw [strs_length]; omega)
      have hlt' : (k : Int) < (ss.length : Int) := by omega
      have c1 := (hO.out.2.cell (p := ⟨b, off + k, none⟩) hb).trans (hcc k _ (strs_nth ss k hlt))
      clear hcc
      have Hs := Lib.hid (backs_succ ss k hlt)
      have hbk := Lib.hid (fun W' => impl_backwards (W.nth ss k) W' (Hz.out k hlt))
      generalize backB (W.nth ss k) = y at Hs hbk
      generalize W.nth ss k = x at c1 hbk
      go_wp2_with fail
      refine (hbk.out _).mono ?_
      rintro e w2 ⟨rfl, hB2⟩
      have hO1 := Lib.hid (And.intro (own_below hO.out.1 hB2) (hO.out.2.trans (hB2.mono hO.out.2.size)))
      clear hB2 hO c1
      go_wp2_with (at_builtin; refine wpList_append_own _ rfl _ _ 22 rfl w.heap.size 9 i0 (.string ByteArray.empty) 1 16 Tryd.underlying22 HR.out.1 HR.out.2.1 HR.out.2.2.1 HR.out.2.2.2 rfl (by decide) _ _ _ rfl (hO1.out.1.alloc _) ⟨w2.heap.size, 0, none⟩ 1 1 [.string y] rfl rfl ?c1 ?c2 ?c3 ?c4 ?c5 ?_)
      case c1 => exact cell_one_new _ _ _
      case c2 => exact one_text _
      case c3 => unfold maxLen; omega
      case c4 => omega
      case c5 => have := hO1.out.2.size; simp; omega
      intro v' w3 hown' hgrow _
      have hO2 := Lib.hid (And.intro hown' hgrow)
      clear hown' hgrow
      go_wp2
      go_roundw
      case rel =>
        refine ⟨k + 1, by omega, by go_num, ?_, ?_⟩
        · rw [Hs.out, strs_snoc]
          exact hO2.out.1
        · have hlt := hO1.out.1.lt
          exact (hO1.out.2.alloc hO1.out.2.size _).grown hO2.out.2 (by have := hO1.out.2.size; simp; omega) (fun g hg => (hlt g hg).1)
      case measure => simp [intOf]; omega
    · obtain rfl : k = ss.length := by omega
      go_wp2
      go_ret
      have hfin := hO.out.1
      rw [List.take_length] at hfin
      exact givesStrs_of (by rw [backs_length]; exact hfin) rfl hO.out.2


end Go.Proofs.YtojcnalgjeojdaaDoor
