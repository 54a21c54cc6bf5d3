/-
  WHAT THIS FILE PROVES: plain facts on sets no word of which is within another one; no program in sight.
-/
import Derived.Test.YtojcnalgjeojdaaDoorPfx
import Derived.Lib.IndexBytes
import Derived.Lib.IndexMore
namespace Go.Proofs.YtojcnalgjeojdaaDoor

/-- t is within s -/
def wth (s t : ByteArray) : Bool := Lib.contains s.data.toList t.data.toList
/-- the first j words, but for that with the index i, are not within it -/
def ptRow (ss : List ByteArray) (i j : Nat) : Bool := (List.range j).all fun k => decide (k = i) || !wth (W.nth ss i) (W.nth ss k)
/-- so are the first i -/
def ptTo (ss : List ByteArray) (i : Nat) : Bool := (List.range i).all fun k => ptRow ss k ss.length
/-- no word is within another one -/
def ptB (ss : List ByteArray) : Bool := ptTo ss ss.length
theorem ptRow_succ (ss : List ByteArray) (i j : Nat) : ptRow ss i (j + 1) = (ptRow ss i j && (decide (j = i) || !wth (W.nth ss i) (W.nth ss j))) := by
  unfold ptRow
  rw [List.range_succ, List.all_append]
  simp
theorem ptTo_succ (ss : List ByteArray) (i : Nat) : ptTo ss (i + 1) = (ptTo ss i && ptRow ss i ss.length) := by
  unfold ptTo
  rw [List.range_succ, List.all_append]
  simp
theorem ptRow_no (ss : List ByteArray) (i j n : Nat) (h : j ≤ n) (hf : ptRow ss i j = false) : ptRow ss i n = false := W.all_mono _ j n h hf
theorem ptTo_no (ss : List ByteArray) (i n : Nat) (h : i ≤ n) (hf : ptTo ss i = false) : ptTo ss n = false := W.all_mono _ i n h hf
theorem set_ne {ss : List ByteArray} (h : W.isSet ss = true) {i j : Nat} (hi : i < ss.length) (hj : j < ss.length) (hij : i ≠ j) : W.nth ss i ≠ W.nth ss j := by
  rcases Nat.lt_or_gt_of_ne hij with hh | hh
  · exact (set_size_le h hh hj).2
  · exact fun e => (set_size_le h hh hi).2 e.symm
theorem toList_eqQ {s t : ByteArray} : (s.toList == t.toList) = decide (s = t) := by
  by_cases h : s = t
  · subst h; simp
  · rw [decide_eq_false h]
    exact beq_eq_false_iff_ne.2 (fun e => h (data_inj (by rw [Lib.toList_data, Lib.toList_data] at e; exact e)))
/-- the word t is another one, and within s -/
def partOf (s t : ByteArray) : Bool := decide (s ≠ t) && wth s t
/-- some word of the set is another one, and within s -/
def hasPt (ss : List ByteArray) (s : ByteArray) : Bool := ss.any (partOf s)
theorem pt_any {ss : List ByteArray} (h : W.isSet ss = true) : (!(ss.any (hasPt ss))) = ptB ss := by
  rw [Bool.eq_iff_iff, Bool.not_eq_true', List.any_eq_false]
  unfold ptB ptTo
  rw [List.all_eq_true]
  constructor
  · intro h1 i hi
    rw [List.mem_range] at hi
    unfold ptRow
    rw [List.all_eq_true]
    intro k hk
    rw [List.mem_range] at hk
    by_cases e : k = i
    · rw [decide_eq_true e]; rfl
    · rw [decide_eq_false e, Bool.false_or, Bool.not_eq_true']
      have h2 := h1 (W.nth ss i) (by rw [W.nth_lt ss i hi]; exact List.getElem_mem hi)
      unfold hasPt at h2
      rw [Bool.not_eq_true, List.any_eq_false] at h2
      have h3 := h2 (W.nth ss k) (by rw [W.nth_lt ss k hk]; exact List.getElem_mem hk)
      unfold partOf at h3
      rw [decide_eq_true (set_ne h hi hk (fun e2 => e e2.symm)), Bool.true_and, Bool.not_eq_true] at h3
      exact h3
  · intro h1 s hs
    obtain ⟨i, hi, rfl⟩ := List.getElem_of_mem hs
    rw [Bool.not_eq_true]
    unfold hasPt
    rw [List.any_eq_false]
    intro t ht
    obtain ⟨k, hk, rfl⟩ := List.getElem_of_mem ht
    have h2 := h1 i (by simpa using hi)
    unfold ptRow at h2
    rw [List.all_eq_true] at h2
    have h3 := h2 k (by simpa using hk)
    rw [W.nth_lt ss i hi, W.nth_lt ss k hk] at h3
    unfold partOf
    by_cases e : k = i
    · subst e; simp
    · rw [decide_eq_false e, Bool.false_or, Bool.not_eq_true'] at h3
      rw [h3]
      simp
/-- what IsPartFree tells -/
def pfOf (ss : List ByteArray) : Bool := W.isSet ss && ptB ss
end Go.Proofs.YtojcnalgjeojdaaDoor
