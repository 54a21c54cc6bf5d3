/-
  WHAT THIS FILE PROVES: the texts of sets, and words that are put one behind the other: the specification's and the program's functions give the same; asked: a row that lies in memory, lengths that an int holds.
-/
import Derived.Test.YtjopbmhldpcpdaaDoorIsSet
import Derived.Test.YtjopbmhldpcpdaaDoorTexts
namespace Go.Proofs.YtjopbmhldpcpdaaDoor
open Go.RowKit Go.Shelf

theorem set_sizes8 (ss : List ByteArray) (h : W.isSet ss = true) (k : Nat) (hk : k < ss.length) : 1 ≤ (W.nth ss k).size ∧ (W.nth ss k).size ≤ 8 := W.short_size _ (W.isSet_short ss h k hk)
theorem isEmpty_size (x : ByteArray) : x.toList.isEmpty = decide (x.size = 0) := by
  rw [Lib.toList_data, Lib.size_eq]
  cases x.data.toList <;> simp
theorem row_cells {w : World} {B b off : Nat} {ss : List ByteArray} (h : Row w B (some ⟨b, off, none⟩) (strs ss)) : ∀ (j : Nat) x, ss[j]? = some x → w.cell? ⟨b, off + j, none⟩ = some (.string x) := fun j x hx => by
  have hj : j < ss.length := (List.getElem?_eq_some_iff.1 hx).1
  obtain ⟨b', off', e, _, hc⟩ := h (by rw [strs_length]; omega)
  injection e with e
  injection e with e1 e2
  subst e1
  subst e2
  refine hc j _ ?_
  unfold strs
  rw [List.getElem?_map, hx]
  rfl

/-- strings.Join, whatever the list. -/
theorem join_any (A : Option Addr) (ss : List ByteArray) (c : Nat) (sep : ByteArray) (w : World) (h : Row w w.heap.size A (strs ss)) (hcap : ss.length ≤ c) (hN : ss.length ≤ 1048576)
    (hlen : (Lib.join (W.bytes ss) sep.data.toList).length ≤ 1048576) :
    Calls Tryd.prog 39 #[.slice A ss.length c, .string sep] w fun e w' => e = .returned (.string ⟨(Lib.join (W.bytes ss) sep.data.toList).toArray⟩) ∧ Below w.heap.size w w' := by
  by_cases h0 : ss.length = 0
  · have hn : ss = [] := List.eq_nil_of_length_eq_zero h0
    subst hn
    refine (Tryd.strings_Join_none A c sep w).mono fun e w' ⟨he, hw⟩ => ⟨he, by rw [hw]; exact Below.refl _ _⟩
  · obtain ⟨b, off, rfl, hb, _⟩ := h (by rw [strs_length]; omega)
    exact Tryd.strings_Join b off c ss sep w (row_cells h) hb (by omega) hcap (by show (Lib.join (W.bytes ss) sep.data.toList).length ≤ _; omega)





end Go.Proofs.YtjopbmhldpcpdaaDoor
