/-
  WHAT THIS FILE PROVES: what is left of a set's words behind another set's words: the specification's and the program's functions hand back slices of their own that read the same; asked: rows that lie in memory, lengths that an int holds.
-/
import Derived.Test.YtjopbmhldpcpdaaDoorFit
import Derived.OwnWalk
import Derived.Maps.AppendAt
namespace Go.Proofs.YtjopbmhldpcpdaaDoor
open Go.RowKit Go.Shelf

/-- what is left of t behind s, if it is not empty -/
def restOf (s t : ByteArray) : List ByteArray := if Lib.hasPrefix t.data.toList s.data.toList && decide (s.size < t.size) then [t.extract s.size t.size] else []
/-- what is left of words behind one word -/
def restsOf (s : ByteArray) (ts : List ByteArray) : List ByteArray := ts.flatMap (restOf s)
/-- what is left of words behind words -/
def rests (ss ts : List ByteArray) : List ByteArray := ss.flatMap fun s => restsOf s ts
theorem restOf_len (s t : ByteArray) : (restOf s t).length ≤ 1 := by unfold restOf; split <;> simp
theorem restsOf_len (s : ByteArray) (ts : List ByteArray) : (restsOf s ts).length ≤ ts.length := by
  induction ts with
  | nil => simp [restsOf]
  | cons a r ih =>
    have := restOf_len s a
    unfold restsOf at ih ⊢
    rw [List.flatMap_cons, List.length_append, List.length_cons]
    omega
theorem rests_len (ss ts : List ByteArray) : (rests ss ts).length ≤ ss.length * ts.length := by
  induction ss with
  | nil => simp [rests]
  | cons a r ih =>
    have := restsOf_len a ts
    unfold rests at ih ⊢
    rw [List.flatMap_cons, List.length_append, List.length_cons, Nat.succ_mul]
    omega
theorem restsOf_succ (s : ByteArray) (ts : List ByteArray) (k : Nat) (h : k < ts.length) : restsOf s (ts.take (k + 1)) = restsOf s (ts.take k) ++ restOf s (W.nth ts k) := by
  unfold restsOf
  rw [List.take_succ_eq_append_getElem h, List.flatMap_append, W.nth_lt ts k h]
  simp
theorem rests_succ (ss ts : List ByteArray) (k : Nat) (h : k < ss.length) : rests (ss.take (k + 1)) ts = rests (ss.take k) ts ++ restsOf (W.nth ss k) ts := by
  unfold rests
  rw [List.take_succ_eq_append_getElem h, List.flatMap_append, W.nth_lt ss k h]
  simp
theorem restOf_yes {s t : ByteArray} (h1 : Lib.hasPrefix t.data.toList s.data.toList = true) (h2 : s.size < t.size) : restOf s t = [t.extract s.size t.size] := by unfold restOf; rw [h1, decide_eq_true h2]; rfl
theorem restOf_pre {s t : ByteArray} (h1 : Lib.hasPrefix t.data.toList s.data.toList = false) : restOf s t = [] := by unfold restOf; rw [h1]; rfl
theorem restOf_size {s t : ByteArray} (h2 : ¬ s.size < t.size) : restOf s t = [] := by unfold restOf; rw [decide_eq_false h2]; simp
theorem cut_rest {s t : ByteArray} (h : Lib.hasPrefix t.data.toList s.data.toList = true) :
    (⟨(Lib.trimPrefix t.data.toList s.data.toList).toArray⟩ : ByteArray) = t.extract s.size t.size ∧ (s.size < t.size → ((t.extract s.size t.size).toList == []) = false) ∧ (¬ s.size < t.size → ((t.extract s.size t.size).toList == []) = true) := by
  have e : (t.extract s.size t.size).data.toList = t.data.toList.drop s.size := Lib.extract_to_end t s.size
  have l1 : t.data.toList.length = t.size := (Lib.size_eq t).symm
  have l2 : s.data.toList.length = s.size := (Lib.size_eq s).symm
  refine ⟨data_inj ?_, fun hlt => ?_, fun hge => ?_⟩
  · rw [e]
    show Lib.trimPrefix t.data.toList s.data.toList = _
    unfold Lib.trimPrefix
    rw [h, ← l2]
    rfl
  · rw [Lib.toList_data, e]
    refine beq_eq_false_iff_ne.2 fun hn => ?_
    have := congrArg List.length hn
    rw [List.length_drop, l1, List.length_nil] at this
    omega
  · rw [Lib.toList_data, e, List.drop_eq_nil_of_le (by omega)]
    rfl
def quOk (s0 s1 : List ByteArray) : Bool := W.isSet s0 && W.isSet s1
def quOf (s0 s1 : List ByteArray) : List ByteArray := if quOk s0 s1 then ordB (rests s0 s1) else []
theorem quOf_no {s0 s1 : List ByteArray} (h : quOk s0 s1 = false) : quOf s0 s1 = [] := by unfold quOf; rw [h]; rfl
theorem quOf_yes {s0 s1 : List ByteArray} (h : quOk s0 s1 = true) : quOf s0 s1 = ordB (rests s0 s1) := by unfold quOf; rw [h]; rfl
theorem rests_144 {s0 s1 : List ByteArray} (h0 : s0.length ≤ 500) (h1 : s1.length ≤ 500) : (rests s0 s1).length ≤ 250000 := by
  have := rests_len s0 s1
  have h2 : s0.length * s1.length ≤ 500 * 500 := Nat.mul_le_mul h0 h1
  omega
theorem quOf_len (s0 s1 : List ByteArray) : (quOf s0 s1).length ≤ 1048576 := by
  cases h : quOk s0 s1
  · rw [quOf_no h]; simp
  · rw [quOf_yes h]
    have h' := h
    unfold quOk at h'
    rw [Bool.and_eq_true] at h'
    have l0 := W.isSet_len _ h'.1
    have l1 := W.isSet_len _ h'.2
    have := rests_144 (show s0.length ≤ 500 by omega) (show s1.length ≤ 500 by omega)
    have := ord_length (rests s0 s1)
    omega
theorem take_len (ss : List ByteArray) (k : Nat) (h : ss.length ≤ 500) : (ss.take k).length ≤ 500 := by
  rw [List.length_take]; omega
/-- what has been gathered when k words of the first list, and j of the second behind one more, have been seen -/
def part (s0 s1 : List ByteArray) (k : Nat) (s : ByteArray) (j : Nat) : List ByteArray := rests (s0.take k) s1 ++ restsOf s (s1.take j)
theorem part_len (s0 s1 : List ByteArray) (k : Nat) (s : ByteArray) (j : Nat) (h0 : s0.length ≤ 500) (h1 : s1.length ≤ 500) : (part s0 s1 k s j).length ≤ 250500 := by
  unfold part
  have h2 := rests_144 (take_len s0 k h0) h1
  have h3 := restsOf_len s (s1.take j)
  have h4 := take_len s1 j h1
  rw [List.length_append]
  omega
theorem part_zero (s0 s1 : List ByteArray) (k : Nat) (s : ByteArray) : part s0 s1 k s 0 = rests (s0.take k) s1 := by simp [part, restsOf]
theorem part_succ (s0 s1 : List ByteArray) (k : Nat) (s : ByteArray) (j : Nat) (h : j < s1.length) : part s0 s1 k s (j + 1) = part s0 s1 k s j ++ restOf s (W.nth s1 j) := by
  unfold part
  rw [restsOf_succ s s1 j h, List.append_assoc]
theorem part_all (s0 s1 : List ByteArray) (k : Nat) (h : k < s0.length) : part s0 s1 k (W.nth s0 k) s1.length = rests (s0.take (k + 1)) s1 := by
  unfold part
  rw [rests_succ s0 s1 k h, List.take_length]





end Go.Proofs.YtjopbmhldpcpdaaDoor
