/-
  WHAT THIS FILE PROVES: a slice of slices of the call's own, another one appended whole; asked: that the second one's rows were made later than the first one's.
-/
import Derived.Test.YtnfimfapdmkobaaSSMem
namespace Go.Proofs.Ytnfimfapdmkobaa
open Go.RowKit

theorem OwnAt.append {w w' : World} {base mid : Nat} {E e : TypeId} {v v2 v' : Value} {vs us : List Value} {xss yss : List (List Value)} (hne : e ≠ E) (h : OwnAt w base E e v vs xss) (h2 : OwnAt w mid E e v2 us yss)
    (hbm : base ≤ mid) (hlow : ∀ u ∈ vs, ∀ g, u.ownBlock = some g → g < mid) (ho : w'.ownsRow base E 1 v' (xss.length + yss.length) (vs ++ us)) (hg : w.grownBy w' v.ownBlock) :
    OwnAt w' base E e v' (vs ++ us) (xss ++ yss) := by
  have hlen := h.len
  have hlen2 := h2.len
  refine ⟨by rw [List.length_append]; exact ho, fun i zs hz => ?_, fun i j u u' hij hu hu' => ?_⟩
  · by_cases hi : i < xss.length
    · rw [List.getElem?_append_left hi] at hz
      obtain ⟨A', c', h3, h4⟩ := h.inner i zs hz
      exact ⟨A', c', by rw [List.getElem?_append_left (by omega)]; exact h3, h4.kept hg (h.ne hne _ (List.mem_of_getElem? h3))⟩
    · rw [List.getElem?_append_right (by omega)] at hz
      obtain ⟨A', c', h3, h4⟩ := h2.inner _ zs hz
      refine ⟨A', c', by rw [List.getElem?_append_right (by omega), hlen]; exact h3, (own_base h4 hbm).kept hg (own_apart h4 h.own hne)⟩
  · by_cases hi : i < vs.length
    · rw [List.getElem?_append_left hi] at hu
      by_cases hj : j < vs.length
      · rw [List.getElem?_append_left hj] at hu'
        exact h.sep i j u u' hij hu hu'
      · rw [List.getElem?_append_right (by omega)] at hu'
        cases hb : u.ownBlock with
        | none => exact .inl rfl
        | some g =>
          right
          intro eq
          have h3 := hlow u (List.mem_of_getElem? hu) g hb
          have h4 := (h2.lt u' (List.mem_of_getElem? hu') g eq.symm).1
          omega
    · rw [List.getElem?_append_right (by omega)] at hu
      by_cases hj : j < vs.length
      · rw [List.getElem?_append_left hj] at hu'
        cases hb : u.ownBlock with
        | none => exact .inl rfl
        | some g =>
          right
          intro eq
          have h3 := hlow u' (List.mem_of_getElem? hu') g eq.symm
          have h4 := (h2.lt u (List.mem_of_getElem? hu) g hb).1
          omega
      · rw [List.getElem?_append_right (by omega)] at hu'
        exact h2.sep _ _ u u' (by omega) hu hu'
end Go.Proofs.Ytnfimfapdmkobaa
