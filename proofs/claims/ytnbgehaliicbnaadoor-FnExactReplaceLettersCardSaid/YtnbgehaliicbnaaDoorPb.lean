/-
  WHAT THIS FILE PROVES: plain facts on the list of words of a set, one of them with other words behind it in its place; no program in sight.
-/
import Derived.Test.YtnbgehaliicbnaaDoorWdIf
import Derived.Test.YtnbgehaliicbnaaDoorPfx
import Derived.Test.YtnbgehaliicbnaaDoorSetOf
namespace Go.Proofs.YtnbgehaliicbnaaDoor

theorem short_le2 {ss : List ByteArray} (h : W.isSet ss = true) : ∀ s ∈ ss, s.size ≤ 8 := fun s hs => (W.short_size s (set_mem h s hs)).2
/-- a text in front of each -/
def bef (t : ByteArray) (ss : List ByteArray) : List ByteArray := ss.map fun s => t ++ s
theorem bef_length (t : ByteArray) (ss : List ByteArray) : (bef t ss).length = ss.length := by simp [bef]
theorem bef_succ (t : ByteArray) (ss : List ByteArray) (k : Nat) (h : k < ss.length) : bef t (ss.take (k + 1)) = bef t (ss.take k) ++ [t ++ W.nth ss k] := by
  unfold bef
  rw [List.take_succ_eq_append_getElem h, List.map_append, W.nth_lt ss k h]
  rfl
/-- what stands for the word with the index j -/
def pbRow (ss : List ByteArray) (n : Nat) (os : List ByteArray) (j : Nat) : List ByteArray := if j = n then bef (W.nth ss j) os else [W.nth ss j]
/-- what stands for the first k words -/
def pbTo (ss : List ByteArray) (n : Nat) (os : List ByteArray) (k : Nat) : List ByteArray := (List.range k).flatMap (pbRow ss n os)
theorem pbTo_succ (ss : List ByteArray) (n : Nat) (os : List ByteArray) (k : Nat) : pbTo ss n os (k + 1) = pbTo ss n os k ++ pbRow ss n os k := by
  unfold pbTo
  rw [List.range_succ, List.flatMap_append]
  simp
theorem pbRow_yes (ss : List ByteArray) (n : Nat) (os : List ByteArray) : pbRow ss n os n = bef (W.nth ss n) os := if_pos rfl
theorem pbRow_no (ss : List ByteArray) {n j : Nat} (os : List ByteArray) (h : ¬ j = n) : pbRow ss n os j = [W.nth ss j] := if_neg h
theorem pbTo_len (ss : List ByteArray) (n : Nat) (os : List ByteArray) (ho : os.length ≤ 12) : ∀ k, (pbTo ss n os k).length ≤ 12 * k
  | 0 => Nat.le_refl _
  | k + 1 => by
    have := pbTo_len ss n os ho k
    rw [pbTo_succ, List.length_append]
    by_cases h : k = n
    · subst h
      rw [pbRow_yes, bef_length]
      omega
    · rw [pbRow_no ss os h]
      simp
      omega
/-- the words that are kept, then those that are put -/
def pbL (ss : List ByteArray) (n : Nat) (os : List ByteArray) : List ByteArray := (ss.take n ++ ss.drop (n + 1)) ++ bef (W.nth ss n) os
theorem mem_take {ss : List ByteArray} {n : Nat} {x : ByteArray} : x ∈ ss.take n ↔ ∃ j, j < ss.length ∧ j < n ∧ x = W.nth ss j := by
  rw [List.mem_take_iff_getElem]
  constructor
  · rintro ⟨i, hi, rfl⟩
    exact ⟨i, by omega, by omega, (W.nth_lt ss i (by omega)).symm⟩
  · rintro ⟨j, hj, hn, rfl⟩
    exact ⟨j, by omega, (W.nth_lt ss j hj).symm⟩
theorem mem_drop {ss : List ByteArray} {n : Nat} {x : ByteArray} : x ∈ ss.drop n ↔ ∃ j, j < ss.length ∧ n ≤ j ∧ x = W.nth ss j := by
  rw [List.mem_drop_iff_getElem]
  constructor
  · rintro ⟨i, hi, rfl⟩
    exact ⟨n + i, by omega, by omega, (W.nth_lt ss _ (by omega)).symm⟩
  · rintro ⟨j, hj, hn, rfl⟩
    refine ⟨j - n, by omega, ?_⟩
    rw [W.nth_lt ss j hj]
    congr 1
    omega
theorem pb_mem (ss : List ByteArray) (n : Nat) (os : List ByteArray) (hn : n < ss.length) (x : ByteArray) : x ∈ pbTo ss n os ss.length ↔ x ∈ pbL ss n os := by
  unfold pbTo pbL
  rw [List.mem_flatMap, List.mem_append, List.mem_append, mem_take, mem_drop]
  constructor
  · rintro ⟨j, hj, hx⟩
    rw [List.mem_range] at hj
    by_cases h : j = n
    · subst h
      rw [pbRow_yes] at hx
      exact .inr hx
    · rw [pbRow_no ss os h] at hx
      simp only [List.mem_singleton] at hx
      rcases Nat.lt_or_gt_of_ne h with h | h
      · exact .inl (.inl ⟨j, hj, h, hx⟩)
      · exact .inl (.inr ⟨j, hj, h, hx⟩)
  · rintro ((⟨j, hj, h, rfl⟩ | ⟨j, hj, h, rfl⟩) | hx)
    · exact ⟨j, by simpa using hj, by rw [pbRow_no ss os (by omega)]; simp⟩
    · exact ⟨j, by simpa using hj, by rw [pbRow_no ss os (by omega)]; simp⟩
    · exact ⟨n, by simpa using hn, by rw [pbRow_yes]; exact hx⟩
theorem pbTo_size {ss os : List ByteArray} (hs : ∀ s ∈ ss, s.size ≤ 8) (ho : ∀ s ∈ os, s.size ≤ 8) (n k : Nat) (hk : k ≤ ss.length) : ∀ x ∈ pbTo ss n os k, x.size ≤ 16 := by
  intro x hx
  unfold pbTo at hx
  obtain ⟨j, hj, hx⟩ := List.mem_flatMap.1 hx
  rw [List.mem_range] at hj
  have h8 : (W.nth ss j).size ≤ 8 := by rw [W.nth_lt ss j (by omega)]; exact hs _ (List.getElem_mem _)
  by_cases h : j = n
  · subst h
    rw [pbRow_yes] at hx
    obtain ⟨y, hy, rfl⟩ := List.mem_map.1 hx
    have := ho y hy
    rw [ByteArray.size_append]
    omega
  · rw [pbRow_no ss os h] at hx
    simp only [List.mem_singleton] at hx
    subst hx
    omega
/-- what PutBehind tells -/
def pbAsk (ss : List ByteArray) (n : Int) (os : List ByteArray) : Bool := W.isSet ss && (W.isSet os && (pfxB ss && (pfxB os && decide (0 ≤ n ∧ n < ss.length))))
def pbOk (ss : List ByteArray) (n : Int) (os : List ByteArray) : Bool := pbAsk ss n os && anOk (pbL ss n.toNat os)
def pbOf (ss : List ByteArray) (n : Int) (os : List ByteArray) : List ByteArray := if pbAsk ss n os then anOf (pbL ss n.toNat os) else []
theorem pb_no {ss : List ByteArray} {n : Int} {os : List ByteArray} (h : pbAsk ss n os = false) : pbOk ss n os = false ∧ pbOf ss n os = [] := by
  unfold pbOk pbOf
  rw [h]
  exact ⟨rfl, rfl⟩
theorem pb_yes {ss : List ByteArray} {n : Int} {os : List ByteArray} (h : pbAsk ss n os = true) : pbOk ss n os = anOk (pbL ss n.toNat os) ∧ pbOf ss n os = anOf (pbL ss n.toNat os) := by
  unfold pbOk pbOf
  rw [h]
  exact ⟨rfl, rfl⟩
theorem pbOf_len (ss : List ByteArray) (n : Int) (os : List ByteArray) : (pbOf ss n os).length ≤ 1048576 := by
  unfold pbOf
  split
  · have := anOf_len (pbL ss n.toNat os); omega
  · simp
theorem so_an {ss : List ByteArray} (h : ss.length ≤ 40) : soOk ss = anOk ss ∧ soOf ss = anOf ss := by
  have h1 : W.allTo W.short ss ss.length = ss.all W.short := by
    rw [Bool.eq_iff_iff]
    constructor
    · intro h
      exact List.all_eq_true.2 (allTo_mem h)
    · intro h
      unfold W.allTo
      rw [List.all_eq_true] at h ⊢
      intro i hi
      have hi : i < ss.length := by simpa using hi
      rw [W.nth_lt ss i hi]
      exact h _ (List.getElem_mem hi)
  have e : soOk ss = anOk ss := by
    unfold soOk anOk
    rw [decide_eq_true h, h1, Bool.true_and]
  refine ⟨e, ?_⟩
  unfold soOf anOf
  rw [e]
end Go.Proofs.YtnbgehaliicbnaaDoor
