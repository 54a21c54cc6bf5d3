/-
  WHAT THIS FILE PROVES: plain facts on least generators: a word of a set has one reading more by the set than by the set's other words; no program in sight.
-/
import Derived.Test.YtlmcemdbalhkiaaDoorSub
import Derived.Test.YtlmcemdbalhkiaaDoorWays
namespace Go.Proofs.YtlmcemdbalhkiaaDoor

/-- the words but for that with an index -/
def wo (ss : List ByteArray) (k : Nat) : List ByteArray := ss.take k ++ ss.drop (k + 1)
theorem wo_length (ss : List ByteArray) (k : Nat) (h : k < ss.length) : (wo ss k).length = ss.length - 1 := by
  unfold wo
  rw [List.length_append, List.length_take, List.length_drop]
  omega
theorem wo_split (ss : List ByteArray) (k : Nat) (h : k < ss.length) : ss = ss.take k ++ W.nth ss k :: ss.drop (k + 1) := by
  rw [W.nth_lt ss k h, ← List.drop_eq_getElem_cons h, List.take_append_drop]
theorem wo_sub (ss : List ByteArray) (k : Nat) : (wo ss k).Sublist ss := by
  unfold wo
  conv => rhs; rw [← List.take_append_drop k ss]
  refine (List.Sublist.refl _).append ?_
  rw [← List.tail_drop]
  exact List.tail_sublist _
theorem wo_set {ss : List ByteArray} (h : W.isSet ss = true) (k : Nat) : W.isSet (wo ss k) = true := set_sub h (wo_sub ss k)
theorem no_prefix {l p : List UInt8} (h : l.length < p.length) : Lib.hasPrefix l p = false := by
  cases hq : Lib.hasPrefix l p
  · rfl
  · have := congrArg List.length (W.prefix_take hq)
    rw [List.length_take] at this
    omega
theorem wsum_mid (T : List Nat) (l : List UInt8) (a b : List ByteArray) (s : ByteArray) : W.wsum T l (a ++ s :: b) = W.wsum T l (a ++ b) + W.wadd T l s := by
  unfold W.wsum
  rw [List.map_append, List.sum_append, List.map_cons, List.sum_cons, List.map_append, List.sum_append]
  omega
theorem tab_short (a b : List ByteArray) (s : ByteArray) : ∀ l : List UInt8, l.length < s.size → W.tab (a ++ s :: b) l = W.tab (a ++ b) l
  | [], _ => rfl
  | c :: r, h => by
    have ih := tab_short a b s r (by simp at h; omega)
    unfold W.tab
    rw [ih, wsum_mid, W.wadd_no (no_prefix (by rw [← Lib.size_eq]; exact h)), Nat.add_zero]
theorem hasPrefix_self (l : List UInt8) : Lib.hasPrefix l l = true := by
  induction l with
  | nil => rfl
  | cons a r ih => simp [Lib.hasPrefix] at ih ⊢
/-- the word alone is one reading, all others are by other words -/
theorem ways_mid (a b : List ByteArray) (s : ByteArray) (h : 1 ≤ s.size) : W.ways (a ++ s :: b) s.data.toList = W.ways (a ++ b) s.data.toList + 1 := by
  cases hl : s.data.toList with
  | nil =>
    rw [Lib.size_eq, hl] at h
    simp at h
  | cons c r =>
    have hr : r.length + 1 = s.size := by rw [Lib.size_eq, hl]; rfl
    rw [W.ways_cons, W.ways_cons, tab_short a b s r (by omega), wsum_mid, W.wadd_yes (by rw [hl]; exact hasPrefix_self _)]
    congr 1
    rw [W.tab_getD _ r (s.size - 1) (by omega), List.drop_eq_nil_of_le (by omega)]
    rfl
theorem ways_wo {ss : List ByteArray} (h : W.isSet ss = true) (k : Nat) (hk : k < ss.length) : W.ways ss (W.nth ss k).data.toList = W.ways (wo ss k) (W.nth ss k).data.toList + 1 := by
  conv => lhs; arg 1; rw [wo_split ss k hk]
  exact ways_mid _ _ _ (W.set_pos h k hk)

/-- words that are not written by two or more words of the list -/
def lg (ss : List ByteArray) (s : ByteArray) : Bool := decide (W.ways ss s.data.toList = 1)
/-- those of the first k -/
def lgTo (ss : List ByteArray) (k : Nat) : List ByteArray := (ss.take k).filter (lg ss)
/-- the least generators -/
def lgB (ss : List ByteArray) : List ByteArray := ss.filter (lg ss)
theorem lgTo_zero (ss : List ByteArray) : lgTo ss 0 = [] := rfl
theorem lgTo_succ (ss : List ByteArray) (k : Nat) (h : k < ss.length) : lgTo ss (k + 1) = lgTo ss k ++ if lg ss (W.nth ss k) then [W.nth ss k] else [] := by
  unfold lgTo
  rw [List.take_succ_eq_append_getElem h, List.filter_append, W.nth_lt ss k h]
  cases hq : lg ss ss[k] <;> simp [hq]
theorem lgTo_all (ss : List ByteArray) : lgTo ss ss.length = lgB ss := by
  unfold lgTo
  rw [List.take_length]
  rfl
theorem lgTo_length (ss : List ByteArray) (k : Nat) : (lgTo ss k).length ≤ k := by
  unfold lgTo
  have h1 := List.length_filter_le (lg ss) (ss.take k)
  rw [List.length_take] at h1
  omega
theorem lgB_sub (ss : List ByteArray) : (lgB ss).Sublist ss := List.filter_sublist
theorem lgB_set {ss : List ByteArray} (h : W.isSet ss = true) : W.isSet (lgB ss) = true := set_sub h (lgB_sub ss)
theorem lg_wo {ss : List ByteArray} (h : W.isSet ss = true) (k : Nat) (hk : k < ss.length) : lg ss (W.nth ss k) = decide (W.ways (wo ss k) (W.nth ss k).data.toList = 0) := by
  unfold lg
  rw [ways_wo h k hk]
  by_cases e : W.ways (wo ss k) (W.nth ss k).data.toList = 0
  · rw [e]; rfl
  · rw [decide_eq_false e, decide_eq_false (by omega)]
/-- what LeastGenerators tells -/
def lgOf (ss : List ByteArray) : List ByteArray := if W.isSet ss then lgB ss else []
theorem lgOf_no {ss : List ByteArray} (h : W.isSet ss = false) : lgOf ss = [] := by unfold lgOf; rw [h]; rfl
theorem lgOf_yes {ss : List ByteArray} (h : W.isSet ss = true) : lgOf ss = lgB ss := by unfold lgOf; rw [h]; rfl
theorem lgOf_len (ss : List ByteArray) : (lgOf ss).length ≤ 12 := by
  cases h : W.isSet ss
  · rw [lgOf_no h]; simp
  · rw [lgOf_yes h]
    exact W.isSet_len _ (lgB_set h)
end Go.Proofs.YtlmcemdbalhkiaaDoor
