/-
  WHAT THIS FILE PROVES: how many readings a word has, whether it has one, whether just one: the specification's and the program's functions give the same; asked: a slice of texts in memory, lengths that an int holds.
-/
import Derived.Test.YtbdhgeefeelflaaGreatDoorCntI
namespace Go.Proofs.YtbdhgeefeelflaaGreatDoor
open Go.RowKit Go.Shelf

/-- a set and a word are asked for -/
def askOk (ss : List ByteArray) (s : ByteArray) : Bool := W.isSet ss && W.good s.data.toList
/-- what CountReadings tells -/
def cntOf (ss : List ByteArray) (s : ByteArray) : Nat := if askOk ss s then W.ways ss s.data.toList else 0
theorem cntOf_no {ss : List ByteArray} {s : ByteArray} (h : askOk ss s = false) : cntOf ss s = 0 := by unfold cntOf; rw [h]; rfl
theorem cntOf_yes {ss : List ByteArray} {s : ByteArray} (h : askOk ss s = true) : cntOf ss s = W.ways ss s.data.toList := by unfold cntOf; rw [h]; rfl
theorem ask_both {ss : List ByteArray} {s : ByteArray} (h : askOk ss s = true) : W.isSet ss = true ∧ W.good s.data.toList = true := by
  unfold askOk at h
  simpa using h
theorem good_60 {s : ByteArray} (h : W.good s.data.toList = true) : s.size ≤ 60 := by
  unfold W.good at h
  simp only [Bool.and_eq_true, decide_eq_true_eq] at h
  rw [Lib.size_eq]
  exact h.1
theorem cntOf_bd (ss : List ByteArray) (s : ByteArray) : cntOf ss s ≤ 1152921504606846976 := by
  cases h : askOk ss s
  · rw [cntOf_no h]; omega
  · rw [cntOf_yes h]
    exact W.ways_bound (ask_both h).1 _ (by rw [← Lib.size_eq]; exact good_60 (ask_both h).2)



theorem impl_number (A : Option Addr) (ss : List ByteArray) (c : Nat) (s : ByteArray) (g base : Nat) (w : World) (ho : w.ownsRow base 3 1 (.slice (some ⟨g, 0, none⟩) (s.size + 1) (s.size + 1)) (s.size + 1) (ints (W.tfull 0 (W.tab ss s.data.toList)))) :
    Calls Tryz.prog 63 #[.agg #[.slice A ss.length c, .string s, .slice (some ⟨g, 0, none⟩) (s.size + 1) (s.size + 1)]] w fun e w' => e = .returned (.int .i64 ((W.ways ss s.data.toList : Nat) : Int)) ∧ Below w.heap.size w w' := by
  have hg := (ho.lt g rfl).2
  have c1 := ho.cellAt 0 (by omega)
  have Hh := W.tfull_head ss s.data.toList
  rw [List.drop_zero] at Hh
  rw [ints_get _ _ _ Hh] at c1
  clear Hh ho
  go_enter Tryz.func63, Tryz.ntmps63
  go_wp2
  go_ret
  exact ⟨rfl, (Below.refl _ _).alloc (Nat.le_refl _) _⟩

set_option maxHeartbeats 400000 in
theorem impl_CountReadings (A : Option Addr) (ss : List ByteArray) (c : Nat) (s : ByteArray) (w : World) (h : Row w w.heap.size A (strs ss)) (hl : ss.length ≤ 9223372036854775807) (hs : ∀ s ∈ ss, s.size ≤ 9223372036854775807) (ht : s.size ≤ 9223372036854775807) :
    Calls Tryz.prog 49 #[.slice A ss.length c, .string s] w fun e w' => e = .returned (.tuple #[.int .i64 ((cntOf ss s : Nat) : Int), .bool (askOk ss s)]) ∧ Below w.heap.size w w' := by
  have hc := impl_IsSet A ss c w h hl hs
  have hg := fun w => impl_IsWord s w ht
  cases hq : W.isSet ss
  · have hno : askOk ss s = false := by unfold askOk; rw [hq]; rfl
    rw [cntOf_no hno, hno]
    rw [hq] at hc
    replace hc := Lib.hid hc
    clear h hs hq hno hg
    go_enter Tryz.func49, Tryz.ntmps49
    go_wp2_with (go_at_call 17; refine hc.out.mono ?_; rintro e w1 ⟨rfl, hB⟩)
    go_ret2
    exact ⟨rfl, hB⟩
  · cases hw : W.good s.data.toList
    · have hno : askOk ss s = false := by unfold askOk; rw [hw]; simp
      rw [cntOf_no hno, hno]
      rw [hq] at hc
      rw [hw] at hg
      replace hc := Lib.hid hc
      replace hg := Lib.hid hg
      clear h hs hq hno hw
      go_enter Tryz.func49, Tryz.ntmps49
      go_wp2_with (first | (go_at_call 17; refine hc.out.mono ?_; rintro e w1 ⟨rfl, hB⟩) | (go_at_call 62; refine (hg.out _).mono ?_; rintro e w2 ⟨rfl, hB2⟩))
      go_ret2
      exact ⟨rfl, hB.trans (hB2.mono hB.size)⟩
    · have hok : askOk ss s = true := by unfold askOk; rw [hq, hw]; rfl
      rw [cntOf_yes hok, hok]
      have h60 := good_60 hw
      have ht := Lib.hid (fun W hr => impl_readingsOf A ss c s W hr hq h60)
      rw [hq] at hc
      rw [hw] at hg
      replace hc := Lib.hid hc
      replace hg := Lib.hid hg
      replace h := Lib.hid h
      clear hs hq hok hw
      go_enter Tryz.func49, Tryz.ntmps49
      go_wp2_with fail
      refine hc.out.mono ?_
      rintro e w1 ⟨rfl, hB⟩
      have HB := Lib.hid hB
      clear hB
      go_wp2_with fail
      refine (hg.out _).mono ?_
      rintro e w2 ⟨rfl, hB⟩
      have HB2 := Lib.hid (HB.out.trans (hB.mono HB.out.size))
      clear hB HB
      go_wp2_with fail
      refine (ht.out _ ((h.out.below HB2.out).more HB2.out.size)).mono ?_
      rintro e w3 ⟨g, rfl, ho, hB⟩
      have HB3 := Lib.hid (HB2.out.trans (hB.mono HB2.out.size))
      have HO := Lib.hid ho
      clear hB ho HB2
      go_wp2_with fail
      refine (impl_number A ss c s g _ w3 HO.out).mono ?_
      rintro e w4 ⟨rfl, hB⟩
      have HB4 := Lib.hid (HB3.out.trans (hB.mono HB3.out.size))
      clear hB
      go_wp2
      go_ret2
      exact ⟨rfl, HB4.out⟩
theorem impl_CanRead (A : Option Addr) (ss : List ByteArray) (c : Nat) (s : ByteArray) (w : World) (h : Row w w.heap.size A (strs ss)) (hl : ss.length ≤ 9223372036854775807) (hs : ∀ s ∈ ss, s.size ≤ 9223372036854775807) (ht : s.size ≤ 9223372036854775807) :
    Calls Tryz.prog 35 #[.slice A ss.length c, .string s] w fun e w' => e = .returned (.tuple #[.bool (decide (0 < ((cntOf ss s : Nat) : Int))), .bool (askOk ss s)]) ∧ Below w.heap.size w w' := by
  have hc := Lib.hid (impl_CountReadings A ss c s w h hl hs ht)
  clear h hs
  generalize ((cntOf ss s : Nat) : Int) = n at hc ⊢
  generalize askOk ss s = x at hc ⊢
  go_enter Tryz.func35, Tryz.ntmps35
  go_wp2_with (go_at_call 49; refine hc.out.mono ?_; rintro e w1 ⟨rfl, hB⟩)
  go_ret2
  exact ⟨rfl, hB⟩

end Go.Proofs.YtbdhgeefeelflaaGreatDoor
