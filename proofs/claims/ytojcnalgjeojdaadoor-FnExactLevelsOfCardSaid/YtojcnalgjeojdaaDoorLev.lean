/-
  WHAT THIS FILE PROVES: plain facts on how many words of a list have a length, and on the levels of a set; no program in sight.
-/
import Derived.Test.YtojcnalgjeojdaaDoorInn
import Derived.Test.YtojcnalgjeojdaaDoorPfx
namespace Go.Proofs.YtojcnalgjeojdaaDoor

/-- how many words have so many letters -/
def cntL (ss : List ByteArray) (j : Nat) : Nat := (ss.filter fun s => decide (s.size = j)).length
theorem cntL_le (ss : List ByteArray) (j : Nat) : cntL ss j ≤ ss.length := List.length_filter_le ..
theorem cntL_succ (ss : List ByteArray) (k j : Nat) (h : k < ss.length) : cntL (ss.take (k + 1)) j = cntL (ss.take k) j + if (W.nth ss k).size = j then 1 else 0 := by
  unfold cntL
  rw [List.take_succ_eq_append_getElem h, List.filter_append, List.length_append, W.nth_lt ss k h]
  by_cases e : ss[k].size = j <;> simp [e]
/-- the greatest length of the first k -/
def mxTo (ss : List ByteArray) (k : Nat) : Nat := (ss.take k).foldl (fun m s => max m s.size) 0
theorem mxTo_succ (ss : List ByteArray) (k : Nat) (h : k < ss.length) : mxTo ss (k + 1) = max (mxTo ss k) (W.nth ss k).size := by
  unfold mxTo
  rw [List.take_succ_eq_append_getElem h, List.foldl_append, W.nth_lt ss k h]
  rfl
theorem mxTo_le {ss : List ByteArray} (h : ∀ s ∈ ss, s.size ≤ 8) : ∀ k, k ≤ ss.length → mxTo ss k ≤ 8
  | 0, _ => Nat.zero_le _
  | k + 1, hk => by
    have h1 := mxTo_le h k (by omega)
    rw [mxTo_succ ss k hk, W.nth_lt ss k hk]
    have := h _ (List.getElem_mem hk)
    omega
/-- of a set that has words it is the length of the last one -/
theorem mxTo_last {ss : List ByteArray} (h : W.isSet ss = true) : ∀ k, k < ss.length → mxTo ss (k + 1) = (W.nth ss k).size
  | 0, hk => by
    rw [mxTo_succ ss 0 hk]
    show max (mxTo ss 0) _ = _
    have : mxTo ss 0 = 0 := rfl
    rw [this]
    exact Nat.max_eq_right (Nat.zero_le _)
  | k + 1, hk => by
    rw [mxTo_succ ss (k + 1) hk, mxTo_last h k (by omega)]
    exact Nat.max_eq_right (set_size_le h (Nat.lt_succ_self k) hk).1
theorem inB_size {ss : List ByteArray} (h : W.isSet ss = true) : ∀ s ∈ inB ss, s.size ≤ 8 := fun s hs => by
  unfold inB at hs
  rw [mem_ord] at hs
  unfold begsTo at hs
  obtain ⟨j, hj, hs⟩ := List.mem_flatMap.1 hs
  unfold begs at hs
  obtain ⟨i, hi, rfl⟩ := List.mem_map.1 hs
  rw [List.mem_range] at hi
  have := nth_size8 (short_le h) j
  rw [ByteArray.size_extract]
  omega
/-- the row for a length -/
def lvRow (ss : List ByteArray) (j : Nat) : List Int := [(cntL ss j : Int), (cntL (inB ss) j : Int)]
def lvTo (ss : List ByteArray) (k : Nat) : List (List Int) := (List.range k).map (lvRow ss)
theorem lvTo_succ (ss : List ByteArray) (k : Nat) : lvTo ss (k + 1) = lvTo ss k ++ [lvRow ss k] := by
  unfold lvTo
  rw [List.range_succ, List.map_append]
  rfl
theorem lvTo_len (ss : List ByteArray) (k : Nat) : (lvTo ss k).length = k := by simp [lvTo]
/-- what LevelsOf tells -/
def lvOf (ss : List ByteArray) : List (List Int) := if W.isSet ss then lvTo ss (mxTo ss ss.length + 1) else []
theorem lvOf_no {ss : List ByteArray} (h : W.isSet ss = false) : lvOf ss = [] := by unfold lvOf; rw [h]; rfl
theorem lvOf_yes {ss : List ByteArray} (h : W.isSet ss = true) : lvOf ss = lvTo ss (mxTo ss ss.length + 1) := by unfold lvOf; rw [h]; rfl
theorem lvOf_len (ss : List ByteArray) : (lvOf ss).length ≤ 9 := by
  cases h : W.isSet ss
  · rw [lvOf_no h]; simp
  · rw [lvOf_yes h, lvTo_len]
    have := mxTo_le (short_le h) ss.length (Nat.le_refl _)
    omega
theorem lvOf_row (ss : List ByteArray) : ∀ x ∈ lvOf ss, x.length = 2 := by
  cases h : W.isSet ss
  · rw [lvOf_no h]; simp
  · rw [lvOf_yes h]
    intro x hx
    unfold lvTo at hx
    obtain ⟨j, _, rfl⟩ := List.mem_map.1 hx
    rfl
end Go.Proofs.YtojcnalgjeojdaaDoor
