/-
  WHAT THIS FILE PROVES: plain facts on the least cost of a tree over weights in order: each stretch costs its sum and the least two parts of it; no program in sight.
-/
import Derived.Test.YthkkneboblhmlaaMr
namespace Go.Proofs.Ythkkneboblhmlaa.W

/-- the sum of a stretch -/
def stS (z : List Int) (i m : Nat) : Int := ((z.drop i).take m).sum
/-- the least of n numbers that are no greater than the start -/
def mnB : Nat → (Nat → Int) → Int
  | 0, _ => 13201
  | k + 1, f => min (mnB k f) (f k)
theorem mnB_congr {f g : Nat → Int} : ∀ n, (∀ k, k < n → f k = g k) → mnB n f = mnB n g
  | 0, _ => rfl
  | n + 1, h => by
    unfold mnB
    rw [mnB_congr n fun k hk => h k (by omega), h n (by omega)]
theorem mnB_le {f : Nat → Int} : ∀ n k, k < n → mnB n f ≤ f k
  | 0, k, h => by omega
  | n + 1, k, h => by
    unfold mnB
    by_cases e : k = n
    · subst e; exact Int.min_le_right _ _
    · exact Int.le_trans (Int.min_le_left _ _) (mnB_le n k (by omega))
theorem mnB_ge {f : Nat → Int} (c : Int) (hc : c ≤ 13201) : ∀ n, (∀ k, k < n → c ≤ f k) → c ≤ mnB n f
  | 0, _ => hc
  | n + 1, h => by
    unfold mnB
    exact Int.le_min.2 ⟨mnB_ge c hc n fun k hk => h k (by omega), h n (by omega)⟩
/-- the least cost of a tree over a stretch -/
def tcF (z : List Int) : Nat → Nat → Nat → Int
  | 0, _, _ => 0
  | f + 1, i, m => if m < 2 then 0 else stS z i m + mnB (m - 1) fun k => tcF z f i (k + 1) + tcF z f (i + k + 1) (m - k - 1)
theorem tcF_fuel (z : List Int) : ∀ f i m, m ≤ f → tcF z f i m = tcF z m i m := by
  intro f
  induction f using Nat.strongRecOn with
  | _ f ih =>
    intro i m hm
    cases m with
    | zero =>
      cases f with
      | zero => rfl
      | succ f => rfl
    | succ m =>
      cases f with
      | zero => omega
      | succ f =>
        unfold tcF
        by_cases h2 : m + 1 < 2
        · rw [if_pos h2, if_pos h2]
        · rw [if_neg h2, if_neg h2]
          congr 1
          refine mnB_congr _ fun k hk => ?_
          rw [ih f (by omega) i (k + 1) (by omega), ih f (by omega) (i + k + 1) (m + 1 - k - 1) (by omega)]
          by_cases e : m = f
          · subst e
            rw [ih m (by omega) i (k + 1) (by omega), ih m (by omega) (i + k + 1) (m + 1 - k - 1) (by omega)]
          · rw [ih m (by omega) i (k + 1) (by omega), ih m (by omega) (i + k + 1) (m + 1 - k - 1) (by omega)]
def tc (z : List Int) (i m : Nat) : Int := tcF z m i m
theorem tc_small (z : List Int) (i m : Nat) (h : m < 2) : tc z i m = 0 := by
  unfold tc
  cases m with
  | zero => rfl
  | succ m => unfold tcF; rw [if_pos h]
/-- what two parts cost -/
def tcP (z : List Int) (i m k : Nat) : Int := tc z i (k + 1) + tc z (i + k + 1) (m - k - 1)
theorem tc_step (z : List Int) (i m : Nat) (h : 2 ≤ m) : tc z i m = stS z i m + mnB (m - 1) (tcP z i m) := by
  obtain ⟨n, rfl⟩ : ∃ n, m = n + 1 := ⟨m - 1, by omega⟩
  conv => lhs; unfold tc tcF
  rw [if_neg (by omega)]
  congr 1
  refine mnB_congr _ fun k hk => ?_
  unfold tcP tc
  rw [tcF_fuel z n i (k + 1) (by omega), tcF_fuel z n (i + k + 1) (n + 1 - k - 1) (by omega)]
theorem Sm.drop {S : Int} {z : List Int} (h : Sm S z) (k : Nat) : Sm S (z.drop k) := by
  refine ⟨fun x hx => h.1 x (List.mem_of_mem_drop hx), ?_⟩
  have h1 : z.sum = (z.take k).sum + (z.drop k).sum := by conv => lhs; rw [← List.take_append_drop k z]
                                                          rw [List.sum_append]
  have h2 := sum_nonneg (z := z.take k) fun x hx => h.1 x (List.mem_of_mem_take hx)
  have := h.2
  omega
theorem stS_bound {z : List Int} (h : Sm 1200 z) (i m : Nat) : 0 ≤ stS z i m ∧ stS z i m ≤ 1200 := ((h.drop i).take m).total
theorem tc_bound {z : List Int} (h : Sm 1200 z) : ∀ m i, m ≤ 12 → 0 ≤ tc z i m ∧ tc z i m ≤ 1200 * ((m - 1 : Nat) : Int) := by
  intro m
  induction m using Nat.strongRecOn with
  | _ m ih =>
    intro i hm
    by_cases h2 : m < 2
    · rw [tc_small z i m h2]
      omega
    · rw [tc_step z i m (by omega)]
      have hs := stS_bound h i m
      have h0 : 0 ≤ mnB (m - 1) (tcP z i m) := mnB_ge 0 (by omega) _ fun k hk => by
        unfold tcP
        have h3 := (ih (k + 1) (by omega) i (by omega)).1
        have h4 := (ih (m - k - 1) (by omega) (i + k + 1) (by omega)).1
        omega
      have h1 := mnB_le (f := tcP z i m) (m - 1) 0 (by omega)
      have h5 : tcP z i m 0 = tc z (i + 1) (m - 1) := by
        unfold tcP
        rw [tc_small z i (0 + 1) (by omega)]
        simp
      have h6 := ih (m - 1) (by omega) (i + 1) (by omega)
      rw [h5] at h1
      omega
theorem tcP_bound {z : List Int} (h : Sm 1200 z) (i m k : Nat) (hm : m ≤ 12) (hk : k + 1 < m) : 0 ≤ tcP z i m k ∧ tcP z i m k ≤ 13000 := by
  unfold tcP
  have h3 := tc_bound h (k + 1) i (by omega)
  have h4 := tc_bound h (m - k - 1) (i + k + 1) (by omega)
  omega
/-- the table when all stretches of fewer than N weights, and those of N that begin before F, are done -/
def tcT (z : List Int) (N F i j : Nat) : Int := if i ≤ j ∧ (j - i < N ∨ (j - i = N ∧ i < F)) then tc z i (j - i) else 0
theorem tcT_start (z : List Int) (i j : Nat) : tcT z 2 0 i j = 0 := by
  unfold tcT
  split
  · rename_i h
    exact tc_small z i _ (by omega)
  · rfl
theorem tcT_done (z : List Int) (N F i j : Nat) (h : i ≤ j) (h2 : j - i < N) : tcT z N F i j = tc z i (j - i) := if_pos ⟨h, .inl h2⟩
theorem tcT_next (z : List Int) (N F i j : Nat) : tcT z N (F + 1) i j = if i = F ∧ j = F + N then tc z F N else tcT z N F i j := by
  unfold tcT
  by_cases h : i = F ∧ j = F + N
  · obtain ⟨rfl, rfl⟩ := h
    rw [if_pos (show i = i ∧ i + N = i + N from ⟨rfl, rfl⟩), if_pos (show i ≤ i + N ∧ (i + N - i < N ∨ (i + N - i = N ∧ i < i + 1)) by omega), show i + N - i = N by omega]
  · rw [if_neg h]
    by_cases h1 : i ≤ j ∧ (j - i < N ∨ (j - i = N ∧ i < F))
    · rw [if_pos h1, if_pos (by omega)]
    · rw [if_neg h1, if_neg (by omega)]
/-- a row of stretches is done where none is left that fits -/
theorem tcT_row (z : List Int) (n N F i j : Nat) (hF : n < F + N) (hj : j ≤ n) : tcT z N F i j = tcT z (N + 1) 0 i j := by
  unfold tcT
  by_cases h : i ≤ j ∧ (j - i < N ∨ (j - i = N ∧ i < F))
  · rw [if_pos h, if_pos (by omega)]
  · rw [if_neg h, if_neg (by omega)]
/-- what the trees of all weights cost -/
def tcA (z : List Int) : Int := tc z 0 z.length
theorem tcA_bound {z : List Int} (h : Sm 1200 z) (h12 : z.length ≤ 12) : 0 ≤ tcA z ∧ tcA z ≤ 13200 := by
  have := tc_bound h z.length 0 h12
  unfold tcA
  omega
/-- what OrderedCost tells -/
def ocI (z : List Int) : Int := max (tcA z) z.sum
def ocOf (z : List Int) : Int := if beN 100 z then ocI z else 0
theorem ocOf_no {z : List Int} (h : beN 100 z = false) : ocOf z = 0 := by unfold ocOf; rw [h]; rfl
theorem ocOf_yes {z : List Int} (h : beN 100 z = true) : ocOf z = ocI z := by unfold ocOf; rw [h]; rfl
theorem stS_all (z : List Int) : stS z 0 z.length = z.sum := by unfold stS; rw [List.drop_zero, List.take_length]
theorem ocI_one (x : Int) (h : 0 ≤ x) : ocI [x] = x := by
  unfold ocI tcA
  rw [tc_small [x] 0 _ (by simp)]
  simp
  omega
theorem ocI_more {z : List Int} (hz : Sm 1200 z) (h12 : z.length ≤ 12) (h : 2 ≤ z.length) : ocI z = tcA z := by
  unfold ocI tcA
  have e := tc_step z 0 z.length h
  rw [stS_all] at e
  have h0 : 0 ≤ mnB (z.length - 1) (tcP z 0 z.length) := mnB_ge 0 (by omega) _ fun k hk => (tcP_bound hz 0 z.length k h12 (by omega)).1
  omega
/-- what SplitCost tells -/
def spOkI (z : List Int) (k : Int) : Bool := beN 100 z && decide (1 ≤ k ∧ k ≤ (z.length : Int) - 1)
def spOfI (z : List Int) (k : Int) : Int := if spOkI z k then z.sum + tcA (z.take k.toNat) + tcA (z.drop k.toNat) else 0
theorem spOfI_no {z : List Int} {k : Int} (h : spOkI z k = false) : spOfI z k = 0 := by unfold spOfI; rw [h]; rfl
theorem spOfI_yes {z : List Int} {k : Nat} (h : spOkI z k = true) : spOfI z k = z.sum + tcA (z.take k) + tcA (z.drop k) := by unfold spOfI; rw [h, Int.toNat_natCast]; rfl
end Go.Proofs.Ythkkneboblhmlaa.W
