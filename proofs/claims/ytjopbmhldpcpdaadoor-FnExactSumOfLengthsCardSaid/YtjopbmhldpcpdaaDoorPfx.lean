/-
  WHAT THIS FILE PROVES: plain facts on sets no word of which begins with another one, told by what is left of words behind words, and by pairs in order; no program in sight.
-/
import Derived.Test.YtjopbmhldpcpdaaDoorQuot
namespace Go.Proofs.YtjopbmhldpcpdaaDoor
open Go.RowKit Go.Shelf

/-- t begins with s -/
def bgs (s t : ByteArray) : Bool := Lib.hasPrefix t.data.toList s.data.toList
theorem bgs_size {s t : ByteArray} (h : bgs s t = true) : s.size ≤ t.size := by
  have h1 : s.data.toList <+: t.data.toList := List.isPrefixOf_iff_prefix.1 h
  have := h1.length_le
  rw [← Lib.size_eq, ← Lib.size_eq] at this
  exact this
theorem bgs_same {s t : ByteArray} (h : bgs s t = true) (he : t.size ≤ s.size) : s = t := by
  have h1 : s.data.toList <+: t.data.toList := List.isPrefixOf_iff_prefix.1 h
  refine data_inj (h1.eq_of_length ?_)
  have := bgs_size h
  rw [← Lib.size_eq, ← Lib.size_eq]
  omega
theorem bgs_refl (s : ByteArray) : bgs s s = true := List.isPrefixOf_iff_prefix.2 (List.prefix_refl _)
theorem restOf_nil {s t : ByteArray} : restOf s t = [] ↔ ¬ (bgs s t = true ∧ s.size < t.size) := by
  unfold restOf bgs
  cases Lib.hasPrefix t.data.toList s.data.toList
  · simp
  · by_cases h : s.size < t.size
    · simp [h]
    · simp [h]
/-- no word begins with another one -/
def pfxB (ss : List ByteArray) : Bool := (rests ss ss).isEmpty
theorem pfxB_iff (ss : List ByteArray) : pfxB ss = true ↔ ∀ s ∈ ss, ∀ t ∈ ss, ¬ (bgs s t = true ∧ s.size < t.size) := by
  unfold pfxB rests restsOf
  rw [List.isEmpty_iff, List.flatMap_eq_nil_iff]
  constructor
  · intro h s hs t ht
    have := h s hs
    rw [List.flatMap_eq_nil_iff] at this
    exact restOf_nil.1 (this t ht)
  · intro h s hs
    rw [List.flatMap_eq_nil_iff]
    exact fun t ht => restOf_nil.2 (h s hs t ht)
theorem pfxB_mem {a b : List ByteArray} (h : ∀ x, x ∈ a ↔ x ∈ b) : pfxB a = pfxB b := by
  rw [Bool.eq_iff_iff, pfxB_iff, pfxB_iff]
  constructor
  · exact fun h1 s hs t ht => h1 s ((h s).2 hs) t ((h t).2 ht)
  · exact fun h1 s hs t ht => h1 s ((h s).1 hs) t ((h t).1 ht)
/-- the word with the index i begins none of the j words behind it -/
def prRow (ss : List ByteArray) (i j : Nat) : Bool := (List.range j).all fun k => !bgs (W.nth ss i) (W.nth ss (i + 1 + k))
/-- the first i words begin none behind them -/
def prTo (ss : List ByteArray) (i : Nat) : Bool := (List.range i).all fun k => prRow ss k (ss.length - (k + 1))
theorem prRow_succ (ss : List ByteArray) (i j : Nat) : prRow ss i (j + 1) = (prRow ss i j && !bgs (W.nth ss i) (W.nth ss (i + 1 + j))) := by
  unfold prRow
  rw [List.range_succ, List.all_append]
  simp
theorem prTo_succ (ss : List ByteArray) (i : Nat) : prTo ss (i + 1) = (prTo ss i && prRow ss i (ss.length - (i + 1))) := by
  unfold prTo
  rw [List.range_succ, List.all_append]
  simp
theorem prTo_no (ss : List ByteArray) (i n : Nat) (h : i ≤ n) (hf : prTo ss i = false) : prTo ss n = false := W.all_mono _ i n h hf
theorem prRow_no (ss : List ByteArray) (i j n : Nat) (h : j ≤ n) (hf : prRow ss i j = false) : prRow ss i n = false := W.all_mono _ j n h hf
/-- words of a set are in order -/
theorem set_less {ss : List ByteArray} (h : W.isSet ss = true) {i j : Nat} (hij : i < j) (hj : j < ss.length) : W.lessB (W.nth ss i) (W.nth ss j) = true := by
  have hstep : ∀ i, i + 1 < ss.length → W.less (W.nth ss i).data.toList (W.nth ss (i + 1)).data.toList = true := fun i hi => by
    have h' := h
    unfold W.isSet W.okTo W.chainTo at h'
    simp only [Bool.and_eq_true, List.all_eq_true, List.mem_range] at h'
    have := h'.2.2 (i + 1) hi
    simpa [W.lessB] using this
  have hall : ∀ d i, i + d + 1 < ss.length → W.less (W.nth ss i).data.toList (W.nth ss (i + d + 1)).data.toList = true := by
    intro d
    induction d with
    | zero => intro i hi; exact hstep i hi
    | succ d ih => intro i hi; exact W.less_trans (ih i (by omega)) (hstep (i + d + 1) (by omega))
  have := hall (j - i - 1) i (by omega)
  rw [show i + (j - i - 1) + 1 = j by omega] at this
  exact this
theorem set_size_le {ss : List ByteArray} (h : W.isSet ss = true) {i j : Nat} (hij : i < j) (hj : j < ss.length) : (W.nth ss i).size ≤ (W.nth ss j).size ∧ W.nth ss i ≠ W.nth ss j := by
  have hl := set_less h hij hj
  unfold W.lessB W.less at hl
  rw [← Lib.size_eq, ← Lib.size_eq] at hl
  refine ⟨?_, fun e => ?_⟩
  · simp only [Bool.or_eq_true, Bool.and_eq_true, decide_eq_true_eq] at hl
    omega
  · have h2 := set_less h hij hj
    rw [e] at h2
    unfold W.lessB at h2
    rw [W.less_irrefl] at h2
    cases h2
/-- of a set the two ways tell the same -/
theorem prTo_all {ss : List ByteArray} (h : W.isSet ss = true) : prTo ss ss.length = pfxB ss := by
  rw [Bool.eq_iff_iff, pfxB_iff]
  constructor
  · intro h1 s hs t ht hst
    obtain ⟨i, hi, rfl⟩ := List.mem_iff_getElem.1 hs
    obtain ⟨j, hj, rfl⟩ := List.mem_iff_getElem.1 ht
    rw [← W.nth_lt ss i hi, ← W.nth_lt ss j hj] at hst
    by_cases hij : i < j
    · have h2 := List.all_eq_true.1 h1 i (by simpa using hi)
      have h3 := List.all_eq_true.1 h2 (j - (i + 1)) (by simp; omega)
      rw [show i + 1 + (j - (i + 1)) = j by omega] at h3
      rw [hst.1] at h3
      cases h3
    · by_cases e : i = j
      · subst e
        omega
      · have := (set_size_le h (show j < i by omega) hi).1
        omega
  · intro h1
    unfold prTo
    rw [List.all_eq_true]
    intro i hi
    have hi : i < ss.length := by simpa using hi
    unfold prRow
    rw [List.all_eq_true]
    intro k hk
    have hk : k < ss.length - (i + 1) := by simpa using hk
    have hj : i + 1 + k < ss.length := by omega
    rw [Bool.not_eq_true']
    cases hb : bgs (W.nth ss i) (W.nth ss (i + 1 + k)) with
    | false => rfl
    | true =>
      exfalso
      have h2 := set_size_le h (show i < i + 1 + k by omega) hj
      have h3 : ¬ (W.nth ss (i + 1 + k)).size ≤ (W.nth ss i).size := fun he => h2.2 (bgs_same hb he)
      refine h1 (W.nth ss i) (by rw [W.nth_lt ss i hi]; exact List.getElem_mem _) (W.nth ss (i + 1 + k)) (by rw [W.nth_lt ss _ hj]; exact List.getElem_mem _) ⟨hb, by omega⟩
/-- what IsPrefixSet tells -/
def ipOf (ss : List ByteArray) : Bool := W.isSet ss && pfxB ss
end Go.Proofs.YtjopbmhldpcpdaaDoor
