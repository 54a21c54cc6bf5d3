/-
  WHAT THIS FILE PROVES: plain facts for the two walks over the texts that a set writes: lists that grow piece by piece, their lengths, and a slice of slices that begins with one row of one text.
-/
import Derived.Test.YtiemoocdffobgaaDoorWrt
import Derived.Test.YtiemoocdffobgaaDoorSSS
import Derived.Test.YtiemoocdffobgaaDoorFit
namespace Go.Proofs.YtiemoocdffobgaaDoor
open Go.RowKit

/-- the pieces of the first i texts -/
def nowTo (f : ByteArray → List ByteArray) (ss : List ByteArray) (i : Nat) : List ByteArray := (ss.take i).flatMap f
theorem nowTo_zero (f : ByteArray → List ByteArray) (ss : List ByteArray) : nowTo f ss 0 = [] := rfl
theorem nowTo_all (f : ByteArray → List ByteArray) (ss : List ByteArray) : nowTo f ss ss.length = ss.flatMap f := by unfold nowTo; rw [List.take_length]
theorem nowTo_succ (f : ByteArray → List ByteArray) (ss : List ByteArray) (i : Nat) (h : i < ss.length) : nowTo f ss (i + 1) = nowTo f ss i ++ f (W.nth ss i) := by
  unfold nowTo
  rw [List.take_succ_eq_append_getElem h, List.flatMap_append, W.nth_lt ss i h]
  simp
theorem nowTo_length (f : ByteArray → List ByteArray) (m : Nat) (hf : ∀ t, (f t).length ≤ m) (ss : List ByteArray) (i : Nat) (h : i ≤ ss.length) : (nowTo f ss i).length ≤ i * m := by
  induction i with
  | zero => simp [nowTo]
  | succ i ih =>
    have h1 := ih (by omega)
    have h2 := hf (W.nth ss i)
    rw [nowTo_succ f ss i h, List.length_append, Nat.add_mul, Nat.one_mul]
    omega
/-- the first j texts of a list, each with t behind -/
def rowTo (L : List ByteArray) (t : ByteArray) (j : Nat) : List ByteArray := (L.take j).map fun s => s ++ t
theorem rowTo_zero (L : List ByteArray) (t : ByteArray) : rowTo L t 0 = [] := rfl
theorem rowTo_all (L : List ByteArray) (t : ByteArray) : rowTo L t L.length = L.map fun s => s ++ t := by unfold rowTo; rw [List.take_length]
theorem rowTo_succ (L : List ByteArray) (t : ByteArray) (j : Nat) (h : j < L.length) : rowTo L t (j + 1) = rowTo L t j ++ [W.nth L j ++ t] := by
  unfold rowTo
  rw [List.take_succ_eq_append_getElem h, List.map_append, W.nth_lt L j h]
  rfl
theorem rowTo_length (L : List ByteArray) (t : ByteArray) (j : Nat) (h : j ≤ L.length) : (rowTo L t j).length = j := by
  unfold rowTo
  rw [List.length_map, List.length_take]
  omega
theorem behind_yes (T : List (List ByteArray)) (n : Nat) (t : ByteArray) (h : t.size ≤ n) : behind T n t = rowTo (T.getD (n - t.size) []) t (T.getD (n - t.size) []).length := by
  rw [rowTo_all]
  unfold behind
  rw [if_pos h]
theorem behind_no (T : List (List ByteArray)) (n : Nat) (t : ByteArray) (h : ¬ t.size ≤ n) : behind T n t = [] := by
  unfold behind
  rw [if_neg h]
theorem behind_few {ss : List ByteArray} (hset : W.isSet ss = true) {n : Nat} {T : List (List ByteArray)} (h : Tab ss n T) (hn : n ≤ 9) (k : Nat) (t : ByteArray) : (behind T k t).length ≤ 19683 := by
  unfold behind
  split
  · rw [List.length_map]; exact h.few hset hn _
  · simp
theorem before_few {ss : List ByteArray} (hset : W.isSet ss = true) {n : Nat} {T : List (List ByteArray)} (h : Tab ss n T) (hn : n ≤ 9) (k : Nat) (t : ByteArray) : (before T k t).length ≤ 19683 := by
  unfold before
  split
  · rw [List.length_map]; exact h.few hset hn _
  · simp
theorem before_yes (T : List (List ByteArray)) (n : Nat) (t : ByteArray) (h : t.size ≤ n) : before T n t = (T.getD (n - t.size) []).map fun s => t ++ s := by
  unfold before
  rw [if_pos h]
theorem before_no (T : List (List ByteArray)) (n : Nat) (t : ByteArray) (h : ¬ t.size ≤ n) : before T n t = [] := by
  unfold before
  rw [if_neg h]
/-- what is sorted out of all pieces makes the next row of the table -/
theorem Tab.next {ss : List ByteArray} (hset : W.isSet ss = true) {n : Nat} {T : List (List ByteArray)} (h : Tab ss n T) {m : List ByteArray} (hn : m.Nodup) (hm : ∀ x, x ∈ m ↔ x ∈ nowTo (behind T (n + 1)) ss ss.length) : Tab ss (n + 1) (T ++ [m]) :=
  h.snoc (fun x => by rw [hm, nowTo_all]; exact mem_behind hset h x) hn
theorem Tab.nextB {ss : List ByteArray} (hset : W.isSet ss = true) {n : Nat} {T : List (List ByteArray)} (h : Tab ss n T) {m : List ByteArray} (hn : m.Nodup) (hm : ∀ x, x ∈ m ↔ x ∈ nowTo (before T (n + 1)) ss ss.length) : Tab ss (n + 1) (T ++ [m]) :=
  h.snoc (fun x => by rw [hm, nowTo_all]; exact mem_before hset h x) hn
theorem Tab.at {ss : List ByteArray} {n : Nat} {T : List (List ByteArray)} (h : Tab ss n T) (j : Nat) (hj : j ≤ n) : (strss T)[j]? = some (strs (T.getD j [])) := by
  have hl := h.len
  rw [strss_at T j (by omega), List.getD_eq_getElem?_getD, List.getElem?_eq_getElem (by omega)]
  rfl
end Go.Proofs.YtiemoocdffobgaaDoor
