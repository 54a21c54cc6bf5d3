/-
  WHAT THIS FILE PROVES: plain facts on the order of words: it is strict and total; no program in sight.
-/
import Derived.Test.YthhiegcdocjfkaaDoorPure
import Derived.Sort.Walk0
namespace Go.Proofs.YthhiegcdocjfkaaDoor.W
open Go.Sort

theorem less_def (l m : List UInt8) : less l m = (decide (l.length < m.length) || (decide (l.length = m.length) && decide (l < m))) := by
  unfold less
  rw [compareBytes_neg, bytesLess_eq]
theorem less_irrefl (l : List UInt8) : less l l = false := by
  rw [less_def]
  simp [List.lt_irrefl]
theorem less_trans {l m n : List UInt8} (h1 : less l m = true) (h2 : less m n = true) : less l n = true := by
  rw [less_def] at *
  simp only [Bool.or_eq_true, Bool.and_eq_true, decide_eq_true_eq] at *
  rcases h1 with h1 | ⟨h1, k1⟩ <;> rcases h2 with h2 | ⟨h2, k2⟩
  · left; omega
  · left; omega
  · left; omega
  · exact .inr ⟨by omega, List.lt_trans k1 k2⟩
theorem less_total {l m : List UInt8} (h1 : less l m = false) (h2 : less m l = false) : l = m := by
  rw [less_def] at *
  simp only [Bool.or_eq_false_iff, Bool.and_eq_false_iff, decide_eq_false_iff_not] at *
  have e : l.length = m.length := by omega
  have k1 : ¬ l < m := by rcases h1.2 with h | h; (· exact absurd e h); (· exact h)
  have k2 : ¬ m < l := by rcases h2.2 with h | h; (· exact absurd e.symm h); (· exact h)
  exact List.le_antisymm (List.not_lt.1 k2) (List.not_lt.1 k1)
theorem less_asymm {l m : List UInt8} (h : less l m = true) : less m l = false := by
  cases h2 : less m l with
  | false => rfl
  | true => have := less_trans h h2; rw [less_irrefl] at this; cases this

end Go.Proofs.YthhiegcdocjfkaaDoor.W
