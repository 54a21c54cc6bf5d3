/-
  WHAT THIS FILE PROVES: the words of a set come in order, and some of them, in their order, are a set; no program in sight.
-/
import Derived.Test.YtiemoocdffobgaaDoorFit
namespace Go.Proofs.YtiemoocdffobgaaDoor
open Go.Sort

theorem set_incr {ss : List ByteArray} (h : W.isSet ss = true) : W.Inc (raw ss) := by
  have hstep : ∀ i, i + 1 < ss.length → W.less (W.nth ss i).data.toList (W.nth ss (i + 1)).data.toList = true := fun i hi => by
    have h' := h
    unfold W.isSet W.okTo W.chainTo at h'
    simp only [Bool.and_eq_true, List.all_eq_true, List.mem_range] at h'
    have := h'.2.2 (i + 1) hi
    simpa [W.lessB] using this
  have hall : ∀ d i, i + d + 1 < ss.length → W.less (W.nth ss i).data.toList (W.nth ss (i + d + 1)).data.toList = true := by
    intro d
    induction d with
    | zero => intro i hi; exact hstep i hi
    | succ d ih => intro i hi; exact W.less_trans (ih i (by omega)) (hstep (i + d + 1) (by omega))
  refine List.pairwise_iff_getElem.2 fun i j hi hj hij => ?_
  rw [raw_length] at hi hj
  have := hall (j - i - 1) i (by omega)
  rw [show i + (j - i - 1) + 1 = j by omega, W.nth_lt ss i hi, W.nth_lt ss j hj] at this
  simpa [raw] using this
theorem set_sub {ss l : List ByteArray} (h : W.isSet ss = true) (hl : l.Sublist ss) : W.isSet l = true := by
  rw [isSet_inc l (fun x hx => set_mem h x (hl.subset hx)) ((set_incr h).sublist (hl.map _))]
  have h1 := W.isSet_len ss h
  have h2 := hl.length_le
  exact decide_eq_true (by omega)

end Go.Proofs.YtiemoocdffobgaaDoor
