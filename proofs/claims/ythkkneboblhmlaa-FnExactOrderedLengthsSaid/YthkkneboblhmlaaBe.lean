/-
  WHAT THIS FILE PROVES: plain facts on weights, lengths, costs, Kraft's sums of lengths up to eleven, and the formula for even weights; no program in sight.
-/
import Derived.Test.YthkkneboblhmlaaKr
namespace Go.Proofs.Ythkkneboblhmlaa.W

theorem let_nat {L : Int} (h : krLet L = true) : ∃ m : Nat, L = (m : Int) ∧ 2 ≤ m ∧ m ≤ 3 := by
  rcases krLet_cases h with rfl | rfl
  · exact ⟨2, rfl, by omega, by omega⟩
  · exact ⟨3, rfl, by omega, by omega⟩
/-- 1..12 numbers in 1..m -/
def beN (m : Int) (z : List Int) : Bool := decide (1 ≤ z.length ∧ z.length ≤ 12) && z.all fun x => decide (1 ≤ x ∧ x ≤ m)
theorem beN_parts {m : Int} {z : List Int} (h : beN m z = true) : (1 ≤ z.length ∧ z.length ≤ 12) ∧ z.all (fun x => decide (1 ≤ x ∧ x ≤ m)) = true := by
  unfold beN at h
  rwa [Bool.and_eq_true, decide_eq_true_eq] at h
theorem all_at {m : Int} {z : List Int} (h : z.all (fun x => decide (1 ≤ x ∧ x ≤ m)) = true) (k : Nat) (hk : k < z.length) : 1 ≤ z[k] ∧ z[k] ≤ m := by
  have := List.all_eq_true.1 h z[k] (List.getElem_mem hk)
  rwa [decide_eq_true_eq] at this
theorem beN_at {m : Int} {z : List Int} (h : beN m z = true) (k : Nat) (hk : k < z.length) : 1 ≤ z[k] ∧ z[k] ≤ m := all_at (beN_parts h).2 k hk
theorem beN_mem {m : Int} {z : List Int} (h : beN m z = true) {x : Int} (hx : x ∈ z) : 1 ≤ x ∧ x ≤ m := by
  obtain ⟨i, hi, rfl⟩ := List.mem_iff_getElem.1 hx
  exact beN_at h i hi

/-- the cost of lengths -/
def costI (ws ls : List Int) : Int := (List.zipWith (· * ·) ws ls).sum
theorem costI_nil (ws : List Int) : costI ws [] = 0 := by unfold costI; rw [List.zipWith_nil_right]; rfl
theorem costI_snoc (ws ls : List Int) (l : Int) (h : ls.length < ws.length) : costI ws (ls ++ [l]) = costI ws ls + ws[ls.length] * l := by
  unfold costI
  have e : ws = ws.take ls.length ++ ws[ls.length] :: ws.drop (ls.length + 1) := by rw [← List.drop_eq_getElem_cons h, List.take_append_drop]
  have h1 : (ws.take ls.length).length = ls.length := by rw [List.length_take]; omega
  have key : ∀ (a b : List Int) (x : Int) (r : List Int), a.length = b.length → (List.zipWith (· * ·) (a ++ x :: r) (b ++ [l])).sum = (List.zipWith (· * ·) (a ++ x :: r) b).sum + x * l := by
    intro a b x r hab
    rw [List.zipWith_append hab, List.sum_append]
    have : List.zipWith (· * ·) (a ++ x :: r) b = List.zipWith (· * ·) a b := by
      rw [show b = b ++ [] from (List.append_nil b).symm, List.zipWith_append hab]
      simp
    rw [this]
    simp
  conv => lhs; rw [e]
  rw [key _ _ _ _ h1, ← e]
theorem costI_take_succ (ws ls : List Int) (k : Nat) (hk : k < ls.length) (hw : k < ws.length) : costI ws (ls.take (k + 1)) = costI ws (ls.take k) + ws[k] * ls[k] := by
  have hl : (ls.take k).length = k := by rw [List.length_take]; omega
  rw [List.take_succ_eq_append_getElem hk, costI_snoc ws (ls.take k) ls[k] (by omega)]
  simp only [hl]
theorem costI_bounds {m n : Int} {ws ls : List Int} (h1 : ws.all (fun x => decide (1 ≤ x ∧ x ≤ m)) = true) (h2 : ls.all (fun x => decide (1 ≤ x ∧ x ≤ n)) = true) (hm : m ≤ 1000) (hn : n ≤ 1000) (hw : ls.length ≤ ws.length) : ∀ k, k ≤ ls.length → 0 ≤ costI ws (ls.take k) ∧ costI ws (ls.take k) ≤ k * 1000000
  | 0, _ => by rw [List.take_zero, costI_nil]; omega
  | k + 1, h => by
    have ih := costI_bounds h1 h2 hm hn hw k (by omega)
    rw [costI_take_succ ws ls k (by omega) (by omega)]
    have a1 := all_at h1 k (by omega)
    have a2 := all_at h2 k (by omega)
    have p1 : 0 ≤ ws[k] * ls[k] := Int.mul_nonneg (by omega) (by omega)
    have p2 : ws[k] * ls[k] ≤ 1000 * 1000 := Int.mul_le_mul (by omega) (by omega) (by omega) (by omega)
    omega
/-- what CostOf tells -/
def coOk (ws ls : List Int) : Bool := beN 100 ws && (beN 11 ls && decide (ws.length = ls.length))
def coOf (ws ls : List Int) : Int := if coOk ws ls then costI ws ls else 0

/-- what a length up to eleven adds, of L ^ 11 -/
def partD (L : Nat) (l : Int) : Nat := L ^ (11 - l.toNat)
/-- Kraft's sum, of L ^ 11 -/
def sharesD (L : Nat) (z : List Int) : Nat := (z.map (partD L)).sum
theorem sharesD_nil (L : Nat) : sharesD L [] = 0 := rfl
theorem sharesD_append (L : Nat) (a b : List Int) : sharesD L (a ++ b) = sharesD L a + sharesD L b := by
  unfold sharesD
  rw [List.map_append, List.sum_append]
theorem sharesD_succ (L : Nat) (z : List Int) (k : Nat) (h : k < z.length) : sharesD L (z.take (k + 1)) = sharesD L (z.take k) + partD L z[k] := by
  rw [List.take_succ_eq_append_getElem h, sharesD_append]
  simp [sharesD]
theorem partD_le (L : Nat) (h2 : 2 ≤ L) (h3 : L ≤ 3) (l : Int) (h : 1 ≤ l) : partD L l ≤ 59049 := by
  unfold partD
  have h1 : L ^ (11 - l.toNat) ≤ L ^ 10 := Nat.pow_le_pow_right (by omega) (by omega)
  have h4 : L ^ 10 ≤ 3 ^ 10 := Nat.pow_le_pow_left h3 10
  have h5 : (3 : Nat) ^ 10 = 59049 := by decide
  omega
theorem partD_pos (L : Nat) (h2 : 2 ≤ L) (l : Int) : 0 < partD L l := Nat.pow_pos (by omega)
theorem sharesD_le (L : Nat) (h2 : 2 ≤ L) (h3 : L ≤ 3) : ∀ z : List Int, z.all (fun x => decide (1 ≤ x ∧ x ≤ 11)) = true → sharesD L z ≤ z.length * 59049
  | [], _ => Nat.zero_le _
  | a :: z, h => by
    rw [List.all_cons, Bool.and_eq_true, decide_eq_true_eq] at h
    have ih := sharesD_le L h2 h3 z h.2
    have := partD_le L h2 h3 a h.1.1
    show partD L a + sharesD L z ≤ (z.length + 1) * 59049
    omega
theorem sharesD_take_le (L : Nat) (z : List Int) (k : Nat) : sharesD L (z.take k) ≤ sharesD L z := by
  conv => rhs; rw [← List.take_append_drop k z]
  rw [sharesD_append]
  omega
theorem wholeD_le (L : Nat) (h3 : L ≤ 3) : L ^ 11 ≤ 177147 := Nat.le_trans (Nat.pow_le_pow_left h3 11) (by decide)
theorem wholeD_pos (L : Nat) (h2 : 2 ≤ L) : 0 < L ^ 11 := Nat.pow_pos (by omega)
/-- of lengths up to eight the sums are the same, of another whole -/
theorem partD_part (L : Nat) (l : Int) (h : l ≤ 8) : partD L l = L ^ 3 * part L l := by
  unfold partD part
  rw [← Nat.pow_add]
  congr 1
  omega
theorem sharesD_shares (L : Nat) : ∀ z : List Int, lenAll z = true → sharesD L z = L ^ 3 * shares L z
  | [], _ => by rw [sharesD_nil, shares_nil, Nat.mul_zero]
  | a :: z, h => by
    obtain ⟨h4, h5⟩ := lenAll_cons h
    have ih := sharesD_shares L z h5
    show partD L a + sharesD L z = L ^ 3 * (part L a + shares L z)
    rw [ih, partD_part L a h4.2, Nat.mul_add]
theorem wholeD_eq (L : Nat) : L ^ 11 = L ^ 3 * L ^ 8 := (Nat.pow_add L 3 8)
theorem low_mul (c a b : Nat) (hc : 0 < c) : low (c * a) (c * b) = low a b := by
  unfold low
  rw [Nat.gcd_mul_left, Nat.mul_div_mul_left _ _ hc, Nat.mul_div_mul_left _ _ hc]
theorem krSum_D (L : Nat) (h2 : 2 ≤ L) (z : List Int) (h : lenAll z = true) : krSum L z = low (sharesD L z) (L ^ 11) := by
  unfold krSum
  rw [sharesD_shares L z h, wholeD_eq, low_mul _ _ _ (Nat.pow_pos (by omega))]
theorem lenAll_deep {z : List Int} (h : lenAll z = true) : z.all (fun x => decide (1 ≤ x ∧ x ≤ 11)) = true := by
  unfold lenAll at h
  rw [List.all_eq_true] at h ⊢
  intro x hx
  have := h x hx
  rw [decide_eq_true_eq] at this ⊢
  omega
theorem lenAll_take {z : List Int} (h : lenAll z = true) (i : Nat) : lenAll (z.take i) = true := by
  unfold lenAll at h ⊢
  rw [List.all_eq_true] at h ⊢
  exact fun x hx => h x (List.mem_of_mem_take hx)
theorem took_D (L : Nat) (h2 : 2 ≤ L) {z : List Int} (h : lenAll z = true) (i : Nat) (l : Int) (hl : l ≤ 8) : shares L (z.take i) / part L l = sharesD L (z.take i) / partD L l := by
  rw [sharesD_shares L _ (lenAll_take h i), partD_part L l hl, Nat.mul_div_mul_left _ _ (Nat.pow_pos (by omega))]
theorem fit_D (L : Nat) (h2 : 2 ≤ L) {z : List Int} (h : lenAll z = true) : sharesD L z ≤ L ^ 11 ↔ shares L z ≤ L ^ 8 := by
  rw [sharesD_shares L z h, wholeD_eq]
  exact Nat.mul_le_mul_left_iff (Nat.pow_pos (by omega))
theorem room_D (L : Nat) (h2 : 2 ≤ L) {z : List Int} (h : lenAll z = true) (l : Int) (hl : l ≤ 8) : (L ^ 8 - shares L z) / part L l = (L ^ 11 - sharesD L z) / partD L l := by
  rw [sharesD_shares L z h, partD_part L l hl, wholeD_eq, ← Nat.mul_sub, Nat.mul_div_mul_left _ _ (Nat.pow_pos (by omega))]
/-- Kraft's sum is at most 1 -/
def fitD (L : Nat) (z : List Int) : Bool := decide (sharesD L z ≤ L ^ 11)

/-- the greatest d with L ^ d at most n -/
def logN (L n : Nat) : Nat := ((List.range 21).find? fun d => decide (n < L ^ (d + 1))).getD 0
theorem logN_of (L n d : Nat) (h2 : 2 ≤ L) (hd : d < 21) (h1 : L ^ d ≤ n) (h3 : n < L ^ (d + 1)) : logN L n = d := by
  unfold logN
  have : (List.range 21).find? (fun d => decide (n < L ^ (d + 1))) = some d := by
    rw [List.find?_range_eq_some]
    refine ⟨by rw [decide_eq_true_eq]; exact h3, by simpa using hd, fun q hq => ?_⟩
    rw [Bool.not_eq_true', decide_eq_false_iff_not]
    have : L ^ (q + 1) ≤ L ^ d := Nat.pow_le_pow_right (by omega) (by omega)
    omega
  rw [this]
  rfl
theorem log_small {L n d : Nat} (h2 : 2 ≤ L) (h1 : L ^ d ≤ n) (hn : n ≤ 1000000) : d < 20 := by
  apply Classical.byContradiction
  intro h
  have e1 : 2 ^ 20 ≤ 2 ^ d := Nat.pow_le_pow_right (by omega) (by omega)
  have e2 : 2 ^ d ≤ L ^ d := Nat.pow_le_pow_left h2 d
  have e3 : (2 : Nat) ^ 20 = 1048576 := by decide
  omega
/-- what n even weights cost, if there are at least two -/
def evV (L n : Nat) : Nat := logN L n * n + (n - L ^ logN L n) + (n - L ^ logN L n + (L - 2)) / (L - 1)
def evOk (n L : Int) : Bool := decide (1 ≤ n ∧ n ≤ 1000000) && krLet L
/-- what EvenCost tells -/
def evOf (n L : Int) : Nat := if evOk n L then if n = 1 then 1 else evV L.toNat n.toNat else 0
theorem evOf_no {n L : Int} (h : evOk n L = false) : evOf n L = 0 := by unfold evOf; rw [h]; rfl
theorem evOf_one {L : Int} (h : evOk 1 L = true) : evOf 1 L = 1 := by unfold evOf; rw [h]; rfl
theorem evOf_yes {n L : Nat} (h : evOk n L = true) (h1 : n ≠ 1) : evOf n L = evV L n := by
  unfold evOf
  rw [h, if_pos rfl, if_neg (by omega), Int.toNat_natCast, Int.toNat_natCast]
theorem evV_of {L n d : Nat} (h2 : 2 ≤ L) (hn : n ≤ 1000000) (h1 : L ^ d ≤ n) (h3 : n < L ^ d * L) : evV L n = d * n + (n - L ^ d) + (n - L ^ d + (L - 2)) / (L - 1) := by
  have e := logN_of L n d h2 (by have := log_small h2 h1 hn; omega) h1 (by rw [Nat.pow_succ]; exact h3)
  unfold evV
  rw [e]
end Go.Proofs.Ythkkneboblhmlaa.W
