/-
  WHAT THIS FILE PROVES: an ordered list of short words is a set if it has at most twelve; the specification's test of it, and the program's function that puts words in order and refuses too many; asked: a row that lies in memory, room.
-/
import Derived.Test.YthhiegcdocjfkaaDoorInOrder
import Derived.Test.YthhiegcdocjfkaaDoorIsSet
namespace Go.Proofs.YthhiegcdocjfkaaDoor
open Go.RowKit Go.Shelf

theorem inc_ord (ss : List ByteArray) : W.Inc (raw (ordB ss)) := by
  rw [raw_ord]
  exact W.inc_puts _ _ List.Pairwise.nil
theorem mem_raw {ss : List ByteArray} {x : ByteArray} : x.data.toList ∈ raw ss ↔ x ∈ ss := by
  unfold raw
  rw [List.mem_map]
  constructor
  · rintro ⟨y, hy, e⟩
    rwa [← data_inj e]
  · exact fun h => ⟨x, h, rfl⟩
theorem mem_ord (ss : List ByteArray) (x : ByteArray) : x ∈ ordB ss ↔ x ∈ ss := by
  rw [← mem_raw, raw_ord, W.mem_puts, mem_raw]
  simp
theorem ord_snoc (ss : List ByteArray) (x : ByteArray) : ordB (ss ++ [x]) = putB (ordB ss) x := by
  unfold ordB
  rw [List.foldl_append]
  rfl
theorem ord_succ (ss : List ByteArray) (k : Nat) (h : k < ss.length) : ordB (ss.take (k + 1)) = putB (ordB (ss.take k)) (W.nth ss k) := by
  rw [List.take_succ_eq_append_getElem h, ord_snoc, W.nth_lt ss k h]
theorem ord_succ2 (ts ss : List ByteArray) (k : Nat) (h : k < ss.length) : ordB (ts ++ ss.take (k + 1)) = putB (ordB (ts ++ ss.take k)) (W.nth ss k) := by
  rw [List.take_succ_eq_append_getElem h, ← List.append_assoc, ord_snoc, W.nth_lt ss k h]
theorem allTo_mem {p : ByteArray → Bool} {ss : List ByteArray} (h : W.allTo p ss ss.length = true) : ∀ x ∈ ss, p x = true := fun x hx => by
  obtain ⟨i, hi, rfl⟩ := List.mem_iff_getElem.1 hx
  rw [← W.nth_lt ss i hi]
  exact List.all_eq_true.1 h i (by simpa using hi)
theorem set_mem {ss : List ByteArray} (h : W.isSet ss = true) : ∀ x ∈ ss, W.short x = true := fun x hx => by
  obtain ⟨i, hi, rfl⟩ := List.mem_iff_getElem.1 hx
  rw [← W.nth_lt ss i hi]
  exact W.isSet_short ss h i hi
theorem isSet_inc (ss : List ByteArray) (h : ∀ x ∈ ss, W.short x = true) (hi : W.Inc (raw ss)) : W.isSet ss = decide (ss.length ≤ 12) := by
  unfold W.isSet
  have h1 : W.okTo ss ss.length = true := by
    unfold W.okTo W.shortTo W.chainTo
    rw [Bool.and_eq_true, List.all_eq_true, List.all_eq_true]
    refine ⟨fun i hm => ?_, fun i hm => ?_⟩
    · have hlt : i < ss.length := by simpa using hm
      rw [W.nth_lt ss i hlt]
      exact h _ (List.getElem_mem hlt)
    · have hlt : i < ss.length := by simpa using hm
      by_cases h0 : i = 0
      · simp [h0]
      · rw [decide_eq_false h0, Bool.false_or, W.nth_lt ss i hlt, W.nth_lt ss (i - 1) (by omega)]
        have := List.pairwise_iff_getElem.1 hi (i - 1) i (by rw [raw_length]; omega) (by rw [raw_length]; exact hlt) (by omega)
        simpa [raw, W.lessB] using this
  rw [h1, Bool.and_true]
def fitOk (ss : List ByteArray) : Bool := decide ((ordB ss).length ≤ 12)
def fitOf (ss : List ByteArray) : List ByteArray := if fitOk ss then ordB ss else []
theorem isSet_ord (ss : List ByteArray) (h : ∀ x ∈ ss, W.short x = true) : W.isSet (ordB ss) = fitOk ss :=
  isSet_inc _ (fun x hx => h x ((mem_ord ss x).1 hx)) (inc_ord ss)



end Go.Proofs.YthhiegcdocjfkaaDoor
