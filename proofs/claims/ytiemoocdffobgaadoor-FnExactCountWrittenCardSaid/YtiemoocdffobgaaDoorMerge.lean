/-
  WHAT THIS FILE PROVES: plain facts on merging two lists of texts in strict order into one: it is in strict order and has their members; no program in sight.
-/
import Derived.Test.YtiemoocdffobgaaDoorDang
namespace Go.Proofs.YtiemoocdffobgaaDoor

/-- texts in strict order of their letters -/
def LInc (m : List ByteArray) : Prop := m.Pairwise fun x y => x.data.toList < y.data.toList
theorem LInc.nodup {m : List ByteArray} (h : LInc m) : m.Nodup := by
  unfold LInc at h
  exact h.imp (fun {a b} hab e => by subst e; exact List.lt_irrefl _ hab)
theorem LInc.short {m : List ByteArray} (h : m.length < 2) : LInc m := by
  unfold LInc
  match m, h with
  | [], _ => exact List.Pairwise.nil
  | [a], _ => exact List.pairwise_singleton _ _
  | a :: b :: r, h => simp only [List.length_cons] at h; omega
theorem LInc.lt {m : List ByteArray} (h : LInc m) {i j : Nat} (hij : i < j) (hj : j < m.length) : (W.nth m i).data.toList < (W.nth m j).data.toList := by
  rw [W.nth_lt m i (by omega), W.nth_lt m j hj]
  exact List.pairwise_iff_getElem.1 h i j (by omega) hj hij
/-- what has been merged of the first i and j texts -/
structure MInv (a b out : List ByteArray) (i j : Nat) : Prop where
  inc : LInc out
  mem : ∀ x, x ∈ out ↔ x ∈ a.take i ∨ x ∈ b.take j
  lowA : ∀ x, x ∈ out → ∀ k, i ≤ k → k < a.length → ¬ (W.nth a k).data.toList < x.data.toList
  lowB : ∀ x, x ∈ out → ∀ k, j ≤ k → k < b.length → ¬ (W.nth b k).data.toList < x.data.toList
  len : out.length ≤ i + j
theorem MInv.start (a b : List ByteArray) : MInv a b [] 0 0 := ⟨List.Pairwise.nil, fun x => by simp, fun x h => by simp at h, fun x h => by simp at h, Nat.le_refl _⟩
/-- the last text of a list is another one -/
def newAt (out : List ByteArray) (s : ByteArray) : Bool := decide (out.length = 0) || !decide (W.nth out (out.length - 1) = s)
theorem take_mem {a : List ByteArray} {i : Nat} (hi : i < a.length) (x : ByteArray) : x ∈ a.take (i + 1) ↔ x ∈ a.take i ∨ x = W.nth a i := by
  rw [List.take_succ_eq_append_getElem hi, List.mem_append, List.mem_singleton, W.nth_lt a i hi]
theorem notlt_trans {l m n : List UInt8} (h1 : ¬ m < l) (h2 : ¬ n < m) : ¬ n < l := by
  rw [List.not_lt] at *
  exact List.le_trans h1 h2
section
variable {a b out : List ByteArray} {i j : Nat}
theorem MInv.push (h : MInv a b out i j) {s : ByteArray} (hs : ∀ x, x ∈ out → ¬ s.data.toList < x.data.toList) (hn : newAt out s = true) : LInc (out ++ [s]) := by
  unfold LInc
  rw [List.pairwise_append]
  refine ⟨h.inc, List.pairwise_singleton _ _, fun x hx y hy => ?_⟩
  rw [List.mem_singleton] at hy
  subst hy
  have h1 := hs x hx
  by_cases e : x = y
  · exfalso
    subst e
    obtain ⟨k, hk, e⟩ := List.getElem_of_mem hx
    have h0 : ¬ out.length = 0 := by omega
    unfold newAt at hn
    rw [decide_eq_false h0, Bool.false_or, Bool.not_eq_true', decide_eq_false_iff_not] at hn
    by_cases hl : k = out.length - 1
    · exact hn (by rw [W.nth_lt out _ (by omega)]; subst hl; exact e)
    · have h2 := h.inc.lt (i := k) (j := out.length - 1) (by omega) (by omega)
      rw [W.nth_lt out k hk, e] at h2
      exact hs _ (by rw [W.nth_lt out _ (by omega)]; exact List.getElem_mem _) h2
  · have h3 : ¬ y.data.toList = x.data.toList := fun e2 => e (data_inj e2.symm)
    rw [List.not_lt] at h1
    by_cases h4 : x.data.toList < y.data.toList
    · exact h4
    · exact absurd (List.le_antisymm (List.not_lt.1 h4) h1) h3
theorem newAt_mem {s : ByteArray} (hn : newAt out s = false) : s ∈ out := by
  unfold newAt at hn
  rw [Bool.or_eq_false_iff, decide_eq_false_iff_not, Bool.not_eq_false', decide_eq_true_eq] at hn
  rw [← hn.2, W.nth_lt out _ (by omega)]
  exact List.getElem_mem _
theorem MInv.takeA (h : MInv a b out i j) (ha : LInc a) (hb : LInc b) (hi : i < a.length) (hle : j < b.length → ¬ (W.nth b j).data.toList < (W.nth a i).data.toList) :
    (newAt out (W.nth a i) = true → MInv a b (out ++ [W.nth a i]) (i + 1) j) ∧ (newAt out (W.nth a i) = false → MInv a b out (i + 1) j) := by
  have hs : ∀ x, x ∈ out → ¬ (W.nth a i).data.toList < x.data.toList := fun x hx => h.lowA x hx i (Nat.le_refl _) hi
  have hA : ∀ k, i + 1 ≤ k → k < a.length → ¬ (W.nth a k).data.toList < (W.nth a i).data.toList := fun k h1 h2 h3 => List.lt_asymm (ha.lt (i := i) (j := k) (by omega) h2) h3
  have hB : ∀ k, j ≤ k → k < b.length → ¬ (W.nth b k).data.toList < (W.nth a i).data.toList := fun k h1 h2 => by
    by_cases e : j = k
    · subst e
      exact hle h2
    · exact notlt_trans (hle (by omega)) (fun h3 => List.lt_asymm (hb.lt (i := j) (j := k) (by omega) h2) h3)
  refine ⟨fun hn => ⟨h.push hs hn, fun x => ?_, fun x hx k h1 h2 => ?_, fun x hx k h1 h2 => ?_, by rw [List.length_append, List.length_singleton]; have := h.len; omega⟩,
    fun hn => ⟨h.inc, fun x => ?_, fun x hx k h1 h2 => h.lowA x hx k (by omega) h2, h.lowB, by have := h.len; omega⟩⟩
  · rw [List.mem_append, List.mem_singleton, h.mem, take_mem hi]
    constructor
    · rintro ((h1 | h1) | h1)
      · exact .inl (.inl h1)
      · exact .inr h1
      · exact .inl (.inr h1)
    · rintro ((h1 | h1) | h1)
      · exact .inl (.inl h1)
      · exact .inr h1
      · exact .inl (.inr h1)
  · rcases List.mem_append.1 hx with hx | hx
    · exact h.lowA x hx k (by omega) h2
    · rw [List.mem_singleton.1 hx]; exact hA k h1 h2
  · rcases List.mem_append.1 hx with hx | hx
    · exact h.lowB x hx k h1 h2
    · rw [List.mem_singleton.1 hx]; exact hB k h1 h2
  · have hmem := newAt_mem hn
    rw [h.mem] at hmem ⊢
    rw [take_mem hi]
    constructor
    · rintro (h1 | h1)
      · exact .inl (.inl h1)
      · exact .inr h1
    · rintro ((h1 | h1) | h1)
      · exact .inl h1
      · rw [h1]; exact hmem
      · exact .inr h1
theorem MInv.swap (h : MInv a b out i j) : MInv b a out j i := ⟨h.inc, fun x => by rw [h.mem]; exact Or.comm, h.lowB, h.lowA, by have := h.len; omega⟩
theorem MInv.takeB (h : MInv a b out i j) (ha : LInc a) (hb : LInc b) (hj : j < b.length) (hle : i < a.length → ¬ (W.nth a i).data.toList < (W.nth b j).data.toList) :
    (newAt out (W.nth b j) = true → MInv a b (out ++ [W.nth b j]) i (j + 1)) ∧ (newAt out (W.nth b j) = false → MInv a b out i (j + 1)) := by
  have := h.swap.takeA hb ha hj hle
  exact ⟨fun hn => (this.1 hn).swap, fun hn => (this.2 hn).swap⟩
theorem MInv.ended (h : MInv a b out a.length b.length) : LInc out ∧ ∀ x, x ∈ out ↔ x ∈ a ∨ x ∈ b := ⟨h.inc, fun x => by have := h.mem x; rwa [List.take_length, List.take_length] at this⟩
end

end Go.Proofs.YtiemoocdffobgaaDoor
