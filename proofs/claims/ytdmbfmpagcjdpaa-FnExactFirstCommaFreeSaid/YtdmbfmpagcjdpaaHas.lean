/-
  WHAT THIS FILE PROVES: whether a slice of texts has a text: the specification's function and the library's tell it; asked: a slice of texts in memory.
-/
import Derived.Test.YtdmbfmpagcjdpaaDang
import Derived.Test.YtdmbfmpagcjdpaaMemS
import Derived.Lib.SlicesS
namespace Go.Proofs.Ytdmbfmpagcjdpaa
open Go.RowKit Go.Shelf

theorem hasB_nil (x : ByteArray) : hasB [] x = false := rfl
theorem toList_eq {s t : ByteArray} : (s.toList == t.toList) = decide (s = t) := by
  by_cases h : s = t
  · subst h; simp
  · rw [decide_eq_false h]
    exact beq_eq_false_iff_ne.2 (fun e => h (data_inj (by rw [Lib.toList_data, Lib.toList_data] at e; exact e)))

theorem row_getD {w : World} {B b off : Nat} {ss : List ByteArray} (h : Row w B (some ⟨b, off, none⟩) (strs ss)) : ∀ j, j < ss.length → w.cell? ⟨b, off + j, none⟩ = some (.string (ss.getD j ByteArray.empty)) := fun j hj => by
  obtain ⟨b', off', e, _, hc⟩ := h (by rw [strs_length]; omega)
  simp only [Option.some.injEq, Addr.mk.injEq, and_true] at e
  obtain ⟨rfl, rfl⟩ := e
  exact hc j _ (strs_nth ss j hj)
theorem containsS_hasB (l : List ByteArray) (x : ByteArray) : Lib.containsS l x = hasB l x := by
  have h1 := Lib.containsS_iff l x
  have h2 := hasB_mem (l := l) (x := x)
  cases h3 : Lib.containsS l x <;> cases h4 : hasB l x
  · rfl
  · rw [h3] at h1; exact absurd (h1.2 (h2.1 h4)) (by simp)
  · rw [h4] at h2; exact absurd (h2.2 (h1.1 h3)) (by simp)
  · rfl

end Go.Proofs.Ytdmbfmpagcjdpaa
