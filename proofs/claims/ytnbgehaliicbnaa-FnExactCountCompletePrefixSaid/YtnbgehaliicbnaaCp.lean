/-
  WHAT THIS FILE PROVES: plain facts on the number of complete prefix sets, counted by their trees and counted letter by letter; no program in sight.
-/
import Derived.Test.YtnbgehaliicbnaaKr
namespace Go.Proofs.Ytnbgehaliicbnaa

/-- how many lists of so many trees with so many words together, where f tells the number of trees -/
def cpS (f : Nat → Nat) : Nat → Nat → Nat
  | 0, n => if n = 0 then 1 else 0
  | p + 1, n => ((List.range (n - p)).map fun k => f (k + 1) * cpS f p (n - (k + 1))).sum
/-- how many trees with so many words, all with at most m letters -/
def cpC (L : Nat) : Nat → Nat → Nat
  | 0, n => if n = 1 then 1 else 0
  | m + 1, n => (if n = 1 then 1 else 0) + cpS (cpC L m) L n
/-- the same, the first k numbers of words of the first tree alone -/
def cpTo (f : Nat → Nat) (p n k : Nat) : Nat := ((List.range k).map fun k => f (k + 1) * cpS f p (n - (k + 1))).sum
theorem cpTo_zero (f : Nat → Nat) (p n : Nat) : cpTo f p n 0 = 0 := rfl
theorem cpTo_succ (f : Nat → Nat) (p n k : Nat) : cpTo f p n (k + 1) = cpTo f p n k + f (k + 1) * cpS f p (n - (k + 1)) := by
  unfold cpTo
  rw [List.range_succ, List.map_append, List.sum_append]
  simp
theorem cpTo_all (f : Nat → Nat) (p n : Nat) : cpTo f p n (n - p) = cpS f (p + 1) n := rfl
theorem cpTo_mono (f : Nat → Nat) (p n : Nat) : ∀ k j, k ≤ j → cpTo f p n k ≤ cpTo f p n j := fun k j h => by
  induction j with
  | zero => obtain rfl : k = 0 := by omega
            exact Nat.le_refl _
  | succ j ih =>
    by_cases e : k = j + 1
    · subst e; exact Nat.le_refl _
    · have := ih (by omega)
      rw [cpTo_succ]
      omega
theorem cpS_congr {f g : Nat → Nat} {N : Nat} (h : ∀ k, k ≤ N → f k = g k) : ∀ p n, n ≤ N → cpS f p n = cpS g p n
  | 0, _, _ => rfl
  | p + 1, n, hn => by
    show ((List.range (n - p)).map _).sum = ((List.range (n - p)).map _).sum
    congr 1
    refine List.map_congr_left fun k hk => ?_
    have hk' : k < n - p := by simpa using hk
    rw [h (k + 1) (by omega), cpS_congr h p (n - (k + 1)) (by omega)]
def cpT2 : Nat → List Nat
  | 0 => [0, 1, 0, 0, 0, 0, 0, 0, 0, 0]
  | 1 => [0, 1, 1, 0, 0, 0, 0, 0, 0, 0]
  | 2 => [0, 1, 1, 2, 1, 0, 0, 0, 0, 0]
  | 3 => [0, 1, 1, 2, 5, 6, 6, 4, 1, 0]
  | 4 => [0, 1, 1, 2, 5, 14, 26, 44, 69, 94]
  | 5 => [0, 1, 1, 2, 5, 14, 42, 100, 221, 470]
  | 6 => [0, 1, 1, 2, 5, 14, 42, 132, 365, 950]
  | 7 => [0, 1, 1, 2, 5, 14, 42, 132, 429, 1302]
  | _ => []
def cpT3 : Nat → List Nat
  | 0 => [0, 1, 0, 0, 0, 0, 0, 0, 0, 0]
  | 1 => [0, 1, 0, 1, 0, 0, 0, 0, 0, 0]
  | 2 => [0, 1, 0, 1, 0, 3, 0, 3, 0, 1]
  | 3 => [0, 1, 0, 1, 0, 3, 0, 12, 0, 28]
  | 4 => [0, 1, 0, 1, 0, 3, 0, 12, 0, 55]
  | 5 => [0, 1, 0, 1, 0, 3, 0, 12, 0, 55]
  | 6 => [0, 1, 0, 1, 0, 3, 0, 12, 0, 55]
  | 7 => [0, 1, 0, 1, 0, 3, 0, 12, 0, 55]
  | _ => []
theorem cpT2_step : ∀ m, m ≤ 6 → ∀ n, n ≤ 9 → (if n = 1 then 1 else 0) + cpS (fun k => (cpT2 m).getD k 0) 2 n = (cpT2 (m + 1)).getD n 0 := by decide +kernel
theorem cpT3_step : ∀ m, m ≤ 6 → ∀ n, n ≤ 9 → (if n = 1 then 1 else 0) + cpS (fun k => (cpT3 m).getD k 0) 3 n = (cpT3 (m + 1)).getD n 0 := by decide +kernel
theorem cpT2_ok : ∀ m, m ≤ 7 → ∀ n, n ≤ 9 → cpC 2 m n = (cpT2 m).getD n 0
  | 0, _ => by decide +kernel
  | m + 1, hm => fun n hn => by
    rw [← cpT2_step m (by omega) n hn]
    show (if n = 1 then 1 else 0) + cpS (cpC 2 m) 2 n = _
    rw [cpS_congr (fun k hk => cpT2_ok m (by omega) k hk) 2 n hn]
theorem cpT3_ok : ∀ m, m ≤ 7 → ∀ n, n ≤ 9 → cpC 3 m n = (cpT3 m).getD n 0
  | 0, _ => by decide +kernel
  | m + 1, hm => fun n hn => by
    rw [← cpT3_step m (by omega) n hn]
    show (if n = 1 then 1 else 0) + cpS (cpC 3 m) 3 n = _
    rw [cpS_congr (fun k hk => cpT3_ok m (by omega) k hk) 3 n hn]
theorem cpT2_bd : ∀ m, m ≤ 7 → ∀ p, p ≤ 3 → ∀ n, n ≤ 9 → cpS (fun k => (cpT2 m).getD k 0) p n ≤ 100000 ∧ (cpT2 m).getD n 0 ≤ 100000 := by decide +kernel
theorem cpT3_bd : ∀ m, m ≤ 7 → ∀ p, p ≤ 3 → ∀ n, n ≤ 9 → cpS (fun k => (cpT3 m).getD k 0) p n ≤ 100000 ∧ (cpT3 m).getD n 0 ≤ 100000 := by decide +kernel
/-- no number is great -/
theorem cp_bd {L m p n : Nat} (hL : L = 2 ∨ L = 3) (hm : m ≤ 7) (hp : p ≤ 3) (hn : n ≤ 9) : cpS (cpC L m) p n ≤ 100000 ∧ cpC L m n ≤ 100000 := by
  rcases hL with rfl | rfl
  · have := cpT2_bd m hm p hp n hn
    rw [cpS_congr (fun k hk => cpT2_ok m hm k hk) p n hn, cpT2_ok m hm n hn]
    exact this
  · have := cpT3_bd m hm p hp n hn
    rw [cpS_congr (fun k hk => cpT3_ok m hm k hk) p n hn, cpT3_ok m hm n hn]
    exact this

/-- how many sets of n words: a words are chosen, b are open -/
def cpD (n L : Nat) : Nat → Nat → Nat → Nat
  | 0, _, _ => 0
  | f + 1, a, b => if n < a + b then 0 else if b = 0 then (if a = n then 1 else 0) else cpD n L f (a + 1) (b - 1) + cpD n L f a (b - 1 + L)
theorem cpD2 : ∀ n, n ≤ 9 → cpD n 2 40 0 2 = cpS (fun k => (cpT2 7).getD k 0) 2 n := by decide +kernel
theorem cpD3 : ∀ n, n ≤ 9 → cpD n 3 40 0 3 = cpS (fun k => (cpT3 7).getD k 0) 3 n := by decide +kernel
/-- what CountCompletePrefix tells -/
def cpOk (L n : Int) : Bool := W.krLet L && decide (1 ≤ n ∧ n ≤ 9)
def cpOf (L n : Int) : Nat := if cpOk L n then cpS (cpC L.toNat 7) L.toNat n.toNat else 0
theorem cpOf_no {L n : Int} (h : cpOk L n = false) : cpOf L n = 0 := by unfold cpOf; rw [h]; rfl
theorem cpOf_yes {L n : Nat} (h : cpOk L n = true) : cpOf L n = cpS (cpC L 7) L n := by unfold cpOf; rw [h]; rfl
theorem cp_same {L n : Nat} (hL : L = 2 ∨ L = 3) (hn : n ≤ 9) : cpD n L 40 0 L = cpS (cpC L 7) L n := by
  rcases hL with rfl | rfl
  · rw [cpD2 n hn, cpS_congr (fun k hk => cpT2_ok 7 (by omega) k hk) 2 n hn]
  · rw [cpD3 n hn, cpS_congr (fun k hk => cpT3_ok 7 (by omega) k hk) 3 n hn]
theorem cpD_zero (n L f : Nat) {a b : Nat} (h : n < a + b) : cpD n L f a b = 0 := by
  cases f
  · rfl
  · unfold cpD; rw [if_pos h]
theorem cpD_end (n L f : Nat) {a : Nat} (h : ¬ n < a + 0) : cpD n L (f + 1) a 0 = if a = n then 1 else 0 := by
  unfold cpD
  rw [if_neg h, if_pos rfl]
theorem cpD_on (n L f : Nat) {a b : Nat} (h : ¬ n < a + (b + 1)) : cpD n L (f + 1) a (b + 1) = cpD n L f (a + 1) b + cpD n L f a (b + L) := by
  conv => lhs; unfold cpD
  rw [if_neg h, if_neg (by omega)]
  rfl
end Go.Proofs.Ytnbgehaliicbnaa
