/-
  WHAT THIS FILE PROVES: plain facts on the beginnings of words that are shorter than these, and on sets of them; no program in sight.
-/
import Derived.Test.YthhiegcdocjfkaaDoorFit
namespace Go.Proofs.YthhiegcdocjfkaaDoor

/-- the first k beginnings of a word -/
def begs (s : ByteArray) (k : Nat) : List ByteArray := (List.range k).map fun j => s.extract 0 j
/-- the beginnings of the first i words -/
def begsTo (ss : List ByteArray) (i : Nat) : List ByteArray := (List.range i).flatMap fun j => begs (W.nth ss j) (W.nth ss j).size
/-- the inner words, in order -/
def inB (ss : List ByteArray) : List ByteArray := ordB (begsTo ss ss.length)
theorem begs_succ (s : ByteArray) (k : Nat) : begs s (k + 1) = begs s k ++ [s.extract 0 k] := by
  unfold begs
  rw [List.range_succ, List.map_append]
  rfl
theorem begs_len (s : ByteArray) (k : Nat) : (begs s k).length = k := by simp [begs]
theorem begsTo_succ (ss : List ByteArray) (i : Nat) : begsTo ss (i + 1) = begsTo ss i ++ begs (W.nth ss i) (W.nth ss i).size := by
  unfold begsTo
  rw [List.range_succ, List.flatMap_append]
  simp
theorem nth_size8 {ss : List ByteArray} (h : ∀ s ∈ ss, s.size ≤ 8) (i : Nat) : (W.nth ss i).size ≤ 8 := by
  by_cases hi : i < ss.length
  · rw [W.nth_lt ss i hi]; exact h _ (List.getElem_mem hi)
  · unfold W.nth
    rw [List.getD_eq_getElem?_getD, List.getElem?_eq_none (by omega)]
    show (0 : Nat) ≤ 8
    omega
theorem begsTo_len (ss : List ByteArray) (h : ∀ s ∈ ss, s.size ≤ 8) : ∀ i, (begsTo ss i).length ≤ 8 * i
  | 0 => Nat.le_refl _
  | i + 1 => by
    have := begsTo_len ss h i
    have := begs_len (W.nth ss i) (W.nth ss i).size
    have := nth_size8 h i
    rw [begsTo_succ, List.length_append]
    omega
theorem short_le {ss : List ByteArray} (h : W.isSet ss = true) : ∀ s ∈ ss, s.size ≤ 8 := fun s hs => (W.short_size s (set_mem h s hs)).2
theorem inB_len {ss : List ByteArray} (h : W.isSet ss = true) : (inB ss).length ≤ 96 := by
  have h1 := begsTo_len ss (short_le h) ss.length
  have h2 := W.isSet_len ss h
  have h3 := ord_length (begsTo ss ss.length)
  unfold inB
  omega
/-- what InnerWords tells -/
def inOf (ss : List ByteArray) : List ByteArray := if W.isSet ss then inB ss else []
theorem inOf_no {ss : List ByteArray} (h : W.isSet ss = false) : inOf ss = [] := by unfold inOf; rw [h]; rfl
theorem inOf_yes {ss : List ByteArray} (h : W.isSet ss = true) : inOf ss = inB ss := by unfold inOf; rw [h]; rfl
theorem inOf_len (ss : List ByteArray) : (inOf ss).length ≤ 1048576 := by
  cases h : W.isSet ss
  · rw [inOf_no h]; simp
  · rw [inOf_yes h]; have := inB_len h; omega
end Go.Proofs.YthhiegcdocjfkaaDoor
