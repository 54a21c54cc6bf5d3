/-
  WHAT THIS FILE PROVES: the first reading of a word, and all readings: the specification's and the program's functions hand back slices of their own that read as the plain lists; asked: a slice of texts in memory, lengths that an int holds.
-/
import Derived.Test.YtiemoocdffobgaaDoorRdS
import Derived.Test.YtiemoocdffobgaaDoorRdI
namespace Go.Proofs.YtiemoocdffobgaaDoor
open Go.RowKit Go.Shelf

/-- a first reading is told -/
def rdOk (ss : List ByteArray) (s : ByteArray) : Bool := askOk ss s && decide (0 < W.ways ss s.data.toList)
def rdOf (ss : List ByteArray) (s : ByteArray) : List Int := if rdOk ss s then (W.reads ss s.data.toList).headD [] else []
theorem rdOf_no {ss : List ByteArray} {s : ByteArray} (h : rdOk ss s = false) : rdOf ss s = [] := by unfold rdOf; rw [h]; rfl
theorem rdOf_yes {ss : List ByteArray} {s : ByteArray} (h : rdOk ss s = true) : rdOf ss s = (W.reads ss s.data.toList).headD [] := by unfold rdOf; rw [h]; rfl
/-- all readings are told -/
def allOk (ss : List ByteArray) (s : ByteArray) : Bool := askOk ss s && decide (W.ways ss s.data.toList ≤ 100)
def allOf (ss : List ByteArray) (s : ByteArray) : List (List Int) := if allOk ss s then W.reads ss s.data.toList else []
theorem allOf_no {ss : List ByteArray} {s : ByteArray} (h : allOk ss s = false) : allOf ss s = [] := by unfold allOf; rw [h]; rfl
theorem allOf_yes {ss : List ByteArray} {s : ByteArray} (h : allOk ss s = true) : allOf ss s = W.reads ss s.data.toList := by unfold allOf; rw [h]; rfl
theorem reads_head {ss : List ByteArray} {l : List UInt8} (h : 0 < W.ways ss l) : (W.reads ss l).take 1 = [(W.reads ss l).headD []] ∧ (W.reads ss l)[0]? = some ((W.reads ss l).headD []) := by
  rw [← W.reads_length] at h
  cases hd : W.reads ss l with
  | nil => rw [hd] at h; simp at h
  | cons a r => exact ⟨rfl, rfl⟩
theorem reads_60 {ss : List ByteArray} {s : ByteArray} (h : askOk ss s = true) : ∀ r ∈ W.reads ss s.data.toList, r.length ≤ 60 := fun r hr => by
  have := W.reads_len (fun k hk => W.set_pos (ask_both h).1 k hk) _ s.data.toList rfl r hr
  have h60 := good_60 (ask_both h).2
  rw [← Lib.size_eq] at this
  omega
theorem rdOf_len (ss : List ByteArray) (s : ByteArray) : (rdOf ss s).length ≤ 1048576 := by
  cases h : rdOk ss s
  · rw [rdOf_no h]; simp
  · rw [rdOf_yes h]
    have hask : askOk ss s = true := by unfold rdOk at h; simp only [Bool.and_eq_true] at h; exact h.1
    have h6 := reads_60 hask
    cases hd : W.reads ss s.data.toList with
    | nil => simp
    | cons a r =>
      have := h6 a (by rw [hd]; simp)
      simp
      omega
theorem allOf_len (ss : List ByteArray) (s : ByteArray) : (allOf ss s).length ≤ 1048576 := by
  cases h : allOk ss s
  · rw [allOf_no h]; simp
  · rw [allOf_yes h, W.reads_length]
    unfold allOk at h
    simp only [Bool.and_eq_true, decide_eq_true_eq] at h
    omega
theorem allOf_bd (ss : List ByteArray) (s : ByteArray) : offI (allOf ss s) (allOf ss s).length ≤ 549755813888 ∧ ∀ x ∈ allOf ss s, x.length ≤ 549755813888 := by
  have h60 : ∀ x ∈ allOf ss s, x.length ≤ 60 := fun x hx => by
    cases h : allOk ss s
    · rw [allOf_no h] at hx; simp at hx
    · rw [allOf_yes h] at hx
      have hask : askOk ss s = true := by unfold allOk at h; simp only [Bool.and_eq_true] at h; exact h.1
      exact reads_60 hask x hx
  refine ⟨?_, fun x hx => by have := h60 x hx; omega⟩
  have h1 := offI_bd _ 60 h60 _ (Nat.le_refl _)
  have h2 := allOf_len ss s
  omega
/-- the one row of a slice of slices -/
theorem one_row {w : World} {base E e c : Nat} {A : Option Addr} {xs : List Value} (h : OwnSS w base E e (.slice A 1 c) [xs]) : ∃ g A' c', A = some ⟨g, 0, none⟩ ∧ w.cell? ⟨g, 0, none⟩ = some (.slice A' xs.length c') ∧ w.ownsRow base e 1 (.slice A' xs.length c') xs.length xs := by
  obtain ⟨vs, h⟩ := h
  obtain ⟨g, rfl, _, _⟩ := own_form h.own (by simp)
  obtain ⟨A', c', h1, h2⟩ := h.inner 0 xs rfl
  exact ⟨g, A', c', rfl, by rw [h.own.cellAt 0 (by simp)]; exact h1, h2⟩




end Go.Proofs.YtiemoocdffobgaaDoor
