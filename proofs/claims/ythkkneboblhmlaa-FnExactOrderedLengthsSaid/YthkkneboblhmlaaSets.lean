/-
  WHAT THIS FILE PROVES: plain facts about lists of texts that are sets (short words in strict order), with no program in sight; no conditions but those each theorem names.
-/
import Derived.Test.YthkkneboblhmlaaPure
namespace Go.Proofs.Ythkkneboblhmlaa.W

/-- a word that may be in a set -/
def short (s : ByteArray) : Bool := decide (1 ≤ s.size ∧ s.size ≤ 8) && isWd s.data.toList
/-- a word, of texts -/
def goodB (s : ByteArray) : Bool := good s.data.toList
/-- the order of words, of texts -/
def lessB (s t : ByteArray) : Bool := less s.data.toList t.data.toList
/-- the element with an index -/
def nth (ss : List ByteArray) (i : Nat) : ByteArray := ss.getD i ByteArray.empty
theorem nth_lt (ss : List ByteArray) (i : Nat) (h : i < ss.length) : nth ss i = ss[i] := by simp [nth, h]

/-- the first k are as p says -/
def allTo (p : ByteArray → Bool) (ss : List ByteArray) (k : Nat) : Bool := (List.range k).all fun i => p (nth ss i)
theorem allTo_succ (p : ByteArray → Bool) (ss : List ByteArray) (k : Nat) : allTo p ss (k + 1) = (allTo p ss k && p (nth ss k)) := by
  unfold allTo
  rw [List.range_succ, List.all_append]
  simp
/-- the first k are short -/
def shortTo (ss : List ByteArray) (k : Nat) : Bool := (List.range k).all fun i => short (nth ss i)
/-- each of the first k comes behind the one ahead of it -/
def chainTo (ss : List ByteArray) (k : Nat) : Bool := (List.range k).all fun i => decide (i = 0) || lessB (nth ss (i - 1)) (nth ss i)
/-- the first k are short, each behind the one ahead of it -/
def okTo (ss : List ByteArray) (k : Nat) : Bool := shortTo ss k && chainTo ss k
/-- a set: at most twelve short words in strict order -/
def isSet (ss : List ByteArray) : Bool := decide (ss.length ≤ 12) && okTo ss ss.length

theorem shortTo_succ (ss : List ByteArray) (k : Nat) : shortTo ss (k + 1) = (shortTo ss k && short (nth ss k)) := by
  unfold shortTo
  rw [List.range_succ, List.all_append]
  simp
theorem chainTo_succ (ss : List ByteArray) (k : Nat) : chainTo ss (k + 1) = (chainTo ss k && (decide (k = 0) || lessB (nth ss (k - 1)) (nth ss k))) := by
  unfold chainTo
  rw [List.range_succ, List.all_append]
  simp
theorem okTo_succ (ss : List ByteArray) (k : Nat) : okTo ss (k + 1) = (okTo ss k && (short (nth ss k) && (decide (k = 0) || lessB (nth ss (k - 1)) (nth ss k)))) := by
  unfold okTo
  rw [shortTo_succ, chainTo_succ]
  cases shortTo ss k <;> cases chainTo ss k <;> cases short (nth ss k) <;> simp
theorem all_mono (p : Nat → Bool) (k n : Nat) (h : k ≤ n) (hf : (List.range k).all p = false) : (List.range n).all p = false := by
  rw [List.all_eq_false] at hf ⊢
  obtain ⟨x, hx, hp⟩ := hf
  exact ⟨x, by simp at hx ⊢; omega, hp⟩
theorem allTo_no (p : ByteArray → Bool) (ss : List ByteArray) (k n : Nat) (h : k ≤ n) (hf : allTo p ss k = false) : allTo p ss n = false := all_mono _ k n h hf
theorem shortTo_no (ss : List ByteArray) (k n : Nat) (h : k ≤ n) (hf : shortTo ss k = false) : shortTo ss n = false := all_mono _ k n h hf
theorem chainTo_no (ss : List ByteArray) (k n : Nat) (h : k ≤ n) (hf : chainTo ss k = false) : chainTo ss n = false := all_mono _ k n h hf
theorem okTo_no (ss : List ByteArray) (k n : Nat) (h : k ≤ n) (hf : okTo ss k = false) : okTo ss n = false := by
  unfold okTo at hf ⊢
  cases h1 : shortTo ss k
  · rw [shortTo_no ss k n h h1]; rfl
  · rw [h1] at hf
    rw [chainTo_no ss k n h (by simpa using hf)]
    simp
theorem isSet_short (ss : List ByteArray) (h : isSet ss = true) (i : Nat) (hi : i < ss.length) : short (nth ss i) = true := by
  unfold isSet okTo at h
  simp only [Bool.and_eq_true] at h
  exact List.all_eq_true.1 h.2.1 i (by simpa using hi)
theorem isSet_len (ss : List ByteArray) (h : isSet ss = true) : ss.length ≤ 12 := by
  unfold isSet at h
  simp only [Bool.and_eq_true, decide_eq_true_eq] at h
  exact h.1
theorem short_size (s : ByteArray) (h : short s = true) : 1 ≤ s.size ∧ s.size ≤ 8 := by
  unfold short at h
  simp only [Bool.and_eq_true, decide_eq_true_eq] at h
  exact h.1
theorem short_good (s : ByteArray) : short s = (!s.toList.isEmpty && decide (s.size ≤ 8) && good s.data.toList) := by
  unfold short good
  have hl : s.data.toList.length = s.size := (Lib.size_eq s).symm
  have he : s.toList.isEmpty = decide (s.size = 0) := by
    rw [Lib.toList_data, ← hl]
    cases s.data.toList <;> simp
  rw [he, hl]
  by_cases h1 : s.size = 0
  · simp [h1]
  · by_cases h2 : s.size ≤ 8
    · have h3 : s.size ≤ 60 := by omega
      have h4 : 1 ≤ s.size := by omega
      simp [h1, h2, h3, h4]
    · simp [h2]

/-- the lengths of texts -/
def lens (ss : List ByteArray) : List Int := ss.map fun s => (s.size : Int)
/-- what LengthsOf tells -/
def lensOf (ss : List ByteArray) : List Int := if isSet ss then lens ss else []
theorem lens_succ (ss : List ByteArray) (k : Nat) (h : k < ss.length) : lens (ss.take (k + 1)) = lens (ss.take k) ++ [((nth ss k).size : Int)] := by
  unfold lens
  rw [List.take_succ_eq_append_getElem h, List.map_append, nth_lt ss k h]
  rfl
theorem lens_length (ss : List ByteArray) (k : Nat) (h : k ≤ ss.length) : (lens (ss.take k)).length = k := by
  unfold lens
  rw [List.length_map, List.length_take]
  omega

end Go.Proofs.Ythkkneboblhmlaa.W
