/-
  WHAT THIS FILE PROVES: the set of two sets' words: the specification's and the program's functions hand back slices of their own that read the same; asked: rows that lie in memory, lengths that an int holds.
-/
import Derived.Test.YtojcnalgjeojdaaDoorFit
import Derived.Test.YtojcnalgjeojdaaDoorSConcat
namespace Go.Proofs.YtojcnalgjeojdaaDoor
open Go.RowKit Go.Shelf

def joOk (s0 s1 : List ByteArray) : Bool := W.isSet s0 && W.isSet s1 && fitOk (s0 ++ s1)
def joOf (s0 s1 : List ByteArray) : List ByteArray := if joOk s0 s1 then ordB (s0 ++ s1) else []
theorem joOf_no {s0 s1 : List ByteArray} (h : joOk s0 s1 = false) : joOf s0 s1 = [] := by unfold joOf; rw [h]; rfl
theorem joOf_fit {s0 s1 : List ByteArray} (h0 : W.isSet s0 = true) (h1 : W.isSet s1 = true) : joOk s0 s1 = fitOk (s0 ++ s1) ∧ joOf s0 s1 = fitOf (s0 ++ s1) := by
  have e : joOk s0 s1 = fitOk (s0 ++ s1) := by unfold joOk; rw [h0, h1]; rfl
  refine ⟨e, ?_⟩
  unfold joOf fitOf
  rw [e]
theorem joOk_len {s0 s1 : List ByteArray} (h : joOk s0 s1 = true) : s0.length ≤ 12 ∧ s1.length ≤ 12 := by
  unfold joOk at h
  simp only [Bool.and_eq_true] at h
  exact ⟨W.isSet_len _ h.1.1, W.isSet_len _ h.1.2⟩

/-- the call that the program makes: the two slices lie in a block of its own. -/
theorem concat2_here (A1 A2 : Option Addr) (s1 s2 : List ByteArray) (c1 c2 : Nat) (w w1 W2 : World) (hW : W2 = w1.alloc (.cells #[.slice A1 s1.length c1, .slice A2 s2.length c2] 22) ∨ W2 = (w1.alloc (.cells #[.slice A1 s1.length c1, .slice A2 s2.length c2] 22)).drew) (hB : Below w.heap.size w w1)
    (h1 : Row w w.heap.size A1 (strs s1)) (h2 : Row w w.heap.size A2 (strs s2)) (l1 : s1.length ≤ 12) (l2 : s2.length ≤ 12) :
    Calls Tryd.prog 54 #[.slice (some ⟨w1.heap.size, 0, none⟩) 2 2] W2
      fun e w2 => ∃ A c, e = .returned (.slice A (s1 ++ s2).length c) ∧ Row w2 w2.heap.size A (strs (s1 ++ s2)) ∧ Below w.heap.size w w2 := by
  have hBa : Below w.heap.size w W2 := by
    rcases hW with rfl | rfl
    · exact hB.alloc hB.size _
    · exact (hB.alloc hB.size _).drew
  refine (slices_Concat2 w1.heap.size A1 A2 s1 s2 c1 c2 _ ?_ ?_ ?_ ((h1.below hBa).more hBa.size) ((h2.below hBa).more hBa.size) (by omega) (by omega)).mono ?_
  · rcases hW with rfl | rfl
    · show w1.heap.size < (w1.heap.push _).size
      rw [Array.size_push]; omega
    · show w1.heap.size < (w1.heap.push _).size
      rw [Array.size_push]; omega
  · have : (w1.alloc (.cells #[.slice A1 s1.length c1, .slice A2 s2.length c2] 22)).cell? ⟨w1.heap.size, 0, none⟩ = some (.slice A1 s1.length c1) := by
      rw [World.cell?_alloc_at _ _ _ _ rfl]
      rfl
    rcases hW with rfl | rfl
    · exact this
    · exact this
  · have : (w1.alloc (.cells #[.slice A1 s1.length c1, .slice A2 s2.length c2] 22)).cell? ⟨w1.heap.size, 1, none⟩ = some (.slice A2 s2.length c2) := by
      rw [World.cell?_alloc_at _ _ _ _ rfl]
      rfl
    rcases hW with rfl | rfl
    · exact this
    · exact this
  · rintro e w2 ⟨A, c, rfl, ho, hB2⟩
    exact ⟨A, c, rfl, Row.of_own ho, hBa.trans (hB2.mono hBa.size)⟩

end Go.Proofs.YtojcnalgjeojdaaDoor
