/-
  WHAT THIS FILE PROVES: how many readings a word has, whether it has one, whether just one: the specification's and the program's functions give the same; asked: a slice of texts in memory, lengths that an int holds.
-/
import Derived.Test.YtiemoocdffobgaaDoorCntI
namespace Go.Proofs.YtiemoocdffobgaaDoor
open Go.RowKit Go.Shelf

/-- a set and a word are asked for -/
def askOk (ss : List ByteArray) (s : ByteArray) : Bool := W.isSet ss && W.good s.data.toList
/-- what CountReadings tells -/
def cntOf (ss : List ByteArray) (s : ByteArray) : Nat := if askOk ss s then W.ways ss s.data.toList else 0
theorem cntOf_no {ss : List ByteArray} {s : ByteArray} (h : askOk ss s = false) : cntOf ss s = 0 := by unfold cntOf; rw [h]; rfl
theorem cntOf_yes {ss : List ByteArray} {s : ByteArray} (h : askOk ss s = true) : cntOf ss s = W.ways ss s.data.toList := by unfold cntOf; rw [h]; rfl
theorem ask_both {ss : List ByteArray} {s : ByteArray} (h : askOk ss s = true) : W.isSet ss = true ∧ W.good s.data.toList = true := by
  unfold askOk at h
  simpa using h
theorem good_60 {s : ByteArray} (h : W.good s.data.toList = true) : s.size ≤ 60 := by
  unfold W.good at h
  simp only [Bool.and_eq_true, decide_eq_true_eq] at h
  rw [Lib.size_eq]
  exact h.1
theorem cntOf_bd (ss : List ByteArray) (s : ByteArray) : cntOf ss s ≤ 1152921504606846976 := by
  cases h : askOk ss s
  · rw [cntOf_no h]; omega
  · rw [cntOf_yes h]
    exact W.ways_bound (ask_both h).1 _ (by rw [← Lib.size_eq]; exact good_60 (ask_both h).2)





end Go.Proofs.YtiemoocdffobgaaDoor
