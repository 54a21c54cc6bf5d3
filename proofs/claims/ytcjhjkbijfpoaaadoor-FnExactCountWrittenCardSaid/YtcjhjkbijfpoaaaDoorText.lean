/-
  WHAT THIS FILE PROVES: the texts of sets, and words that are put one behind the other: the specification's and the program's functions give the same; asked: a row that lies in memory, lengths that an int holds.
-/
import Derived.Test.YtcjhjkbijfpoaaaDoorIsSet
import Derived.Test.YtcjhjkbijfpoaaaDoorTexts
namespace Go.Proofs.YtcjhjkbijfpoaaaDoor
open Go.RowKit Go.Shelf

theorem set_sizes8 (ss : List ByteArray) (h : W.isSet ss = true) (k : Nat) (hk : k < ss.length) : 1 ≤ (W.nth ss k).size ∧ (W.nth ss k).size ≤ 8 := W.short_size _ (W.isSet_short ss h k hk)
theorem isEmpty_size (x : ByteArray) : x.toList.isEmpty = decide (x.size = 0) := by
  rw [Lib.toList_data, Lib.size_eq]
  cases x.data.toList <;> simp
theorem row_cells {w : World} {B b off : Nat} {ss : List ByteArray} (h : Row w B (some ⟨b, off, none⟩) (strs ss)) : ∀ (j : Nat) x, ss[j]? = some x → w.cell? ⟨b, off + j, none⟩ = some (.string x) := fun j x hx => by
  have hj : j < ss.length := (List.getElem?_eq_some_iff.1 hx).1
  obtain ⟨b', off', e, _, hc⟩ := h (by rw [strs_length]; omega)
  injection e with e
  injection e with e1 e2
  subst e1
  subst e2
  refine hc j _ ?_
  unfold strs
  rw [List.getElem?_map, hx]
  rfl






end Go.Proofs.YtcjhjkbijfpoaaaDoor
