/-
  WHAT THIS FILE PROVES: the specification hands an ordered list on just if it is a set, whatever words it has; asked: a slice of the call's own in memory, lengths that an int holds.
-/
import Derived.Test.YtlapmjligdjniaaGreatDoorFit
namespace Go.Proofs.YtlapmjligdjniaaGreatDoor
open Go.RowKit Go.Shelf

/-- the set of a list of words, if it is one -/
def anOk (ss : List ByteArray) : Bool := ss.all W.short && fitOk ss
def anOf (ss : List ByteArray) : List ByteArray := if anOk ss then ordB ss else []
theorem anOf_no {ss : List ByteArray} (h : anOk ss = false) : anOf ss = [] := by unfold anOf; rw [h]; rfl
theorem anOf_yes {ss : List ByteArray} (h : anOk ss = true) : anOf ss = ordB ss := by unfold anOf; rw [h]; rfl
theorem anOf_len (ss : List ByteArray) : (anOf ss).length ≤ 12 := by
  cases h : anOk ss
  · rw [anOf_no h]; simp
  · rw [anOf_yes h]
    unfold anOk fitOk at h
    simp only [Bool.and_eq_true, decide_eq_true_eq] at h
    exact h.2
theorem isSet_an (ss : List ByteArray) : W.isSet (ordB ss) = anOk ss := by
  unfold anOk
  cases h : ss.all W.short
  · rw [Bool.false_and]
    rw [List.all_eq_false] at h
    obtain ⟨x, hx, hp⟩ := h
    cases hs : W.isSet (ordB ss)
    · rfl
    · exact absurd (set_mem hs x ((mem_ord ss x).2 hx)) hp
  · rw [Bool.true_and]
    rw [List.all_eq_true] at h
    exact isSet_ord ss h
/-- of lists with the same words the sets are the same -/
theorem ord_mem {a b : List ByteArray} (h : ∀ x, x ∈ a ↔ x ∈ b) : ordB a = ordB b :=
  raw_inj (W.inc_unique (inc_ord a) (inc_ord b) fun x => by
    rw [raw_ord, raw_ord, W.mem_puts, W.mem_puts]
    unfold raw
    simp only [List.mem_map, List.not_mem_nil, false_or]
    exact ⟨fun ⟨y, hy, e⟩ => ⟨y, (h y).1 hy, e⟩, fun ⟨y, hy, e⟩ => ⟨y, (h y).2 hy, e⟩⟩)
theorem an_mem {a b : List ByteArray} (h : ∀ x, x ∈ a ↔ x ∈ b) : anOk a = anOk b ∧ anOf a = anOf b := by
  have e : anOk a = anOk b := by rw [← isSet_an, ← isSet_an, ord_mem h]
  refine ⟨e, ?_⟩
  unfold anOf
  rw [e, ord_mem h]
end Go.Proofs.YtlapmjligdjniaaGreatDoor
