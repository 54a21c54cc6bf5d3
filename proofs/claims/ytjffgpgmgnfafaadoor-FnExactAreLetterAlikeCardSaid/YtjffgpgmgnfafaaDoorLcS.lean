/-
  WHAT THIS FILE PROVES: the counts of all words of a set: the specification hands back a slice of slices of its own; asked: slices in memory, lengths that an int holds.
-/
import Derived.Test.YtjffgpgmgnfafaaDoorLets
import Derived.Test.YtjffgpgmgnfafaaDoorIsSet
import Derived.Test.YtjffgpgmgnfafaaDoorSiM
import Derived.Maps.AppendAt
import Derived.OwnWalk
namespace Go.Proofs.YtjffgpgmgnfafaaDoor
open Go.RowKit Go.Shelf

/-- the counts of a word -/
def ltN (s : ByteArray) : List Int := [cl s 97 s.size, cl s 98 s.size, cl s 99 s.size]
def lcOf (ss : List ByteArray) : List (List Int) := if W.isSet ss then ss.map ltN else []
theorem lcOf_no {ss : List ByteArray} (h : W.isSet ss = false) : lcOf ss = [] := by unfold lcOf; rw [h]; rfl
theorem lcOf_yes {ss : List ByteArray} (h : W.isSet ss = true) : lcOf ss = ss.map ltN := by unfold lcOf; rw [h]; rfl
theorem lcOf_len (ss : List ByteArray) : (lcOf ss).length ≤ 1048576 := by
  cases h : W.isSet ss
  · rw [lcOf_no h]; simp
  · rw [lcOf_yes h, List.length_map]
    have := W.isSet_len ss h
    omega
theorem lcOf_three (ss : List ByteArray) : ∀ x ∈ lcOf ss, x.length ≤ 3 := by
  intro x hx
  unfold lcOf at hx
  split at hx
  · obtain ⟨s, _, rfl⟩ := List.mem_map.1 hx
    exact Nat.le_refl _
  · simp at hx
theorem lcOf_bd (ss : List ByteArray) : offI (lcOf ss) (lcOf ss).length ≤ 549755813888 ∧ ∀ x ∈ lcOf ss, x.length ≤ 549755813888 := by
  have h3 := lcOf_three ss
  refine ⟨?_, fun x hx => by have := h3 x hx; omega⟩
  have h1 := offI_bd (lcOf ss) 3 h3 (lcOf ss).length (Nat.le_refl _)
  have h2 := lcOf_len ss
  omega
theorem set_good {ss : List ByteArray} (h : W.isSet ss = true) (k : Nat) (hk : k < ss.length) : W.good (W.nth ss k).data.toList = true ∧ (W.nth ss k).size ≤ 8 := by
  have h1 := W.isSet_short ss h k hk
  refine ⟨?_, (W.short_size _ h1).2⟩
  rw [W.short_good, Bool.and_eq_true] at h1
  exact h1.2
theorem map_take_succC (ss : List ByteArray) (k : Nat) (h : k < ss.length) : (ss.map ltN).take (k + 1) = (ss.map ltN).take k ++ [ltN (W.nth ss k)] := by
  rw [List.take_succ_eq_append_getElem (by simpa using h), List.getElem_map, W.nth_lt ss k h]
theorem map_take_lenC (ss : List ByteArray) (k : Nat) (h : k ≤ ss.length) : (intss ((ss.map ltN).take k)).length = k := by
  rw [intss_length, List.length_take, List.length_map]; omega
theorem spec_letters (s : ByteArray) (w : World) (hs : s.size ≤ 1099511627776) (hg : W.good s.data.toList = true) :
    Calls Tryd.prog 16 #[.string s] w (GivesInts w (ltN s)) :=
  (spec_wdLetters s w hs hg).mono fun e w' h => by
    obtain ⟨rfl, rfl⟩ := h
    exact givesInts_three w w _ _ _ (Below.refl _ _)
end Go.Proofs.YtjffgpgmgnfafaaDoor
