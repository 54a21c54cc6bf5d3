/-
  WHAT THIS FILE PROVES: plain facts on Kraft's sums: shares of lengths, their ratio in lowest terms, and its powers; no program in sight.
-/
import Derived.Test.YthkkneboblhmlaaSets
namespace Go.Proofs.Ythkkneboblhmlaa.W

/-- so many letters there may be -/
def krLet (L : Int) : Bool := decide (2 ≤ L ∧ L ≤ 3)
theorem krLet_cases {L : Int} (h : krLet L = true) : L = 2 ∨ L = 3 := by
  unfold krLet at h
  rw [decide_eq_true_eq] at h
  omega
/-- the first L letters alone -/
def krWd (L : Int) (l : List UInt8) : Bool := l.all fun c => decide (97 ≤ c.toNat ∧ (c.toNat : Int) < 97 + L)
/-- a set of words of the first L letters -/
def krSet (ss : List ByteArray) (L : Int) : Bool := krLet L && (isSet ss && ss.all fun s => krWd L s.data.toList)
theorem krSet_set {ss : List ByteArray} {L : Int} (h : krSet ss L = true) : isSet ss = true := by
  unfold krSet at h
  simp only [Bool.and_eq_true] at h
  exact h.2.1
theorem krSet_let {ss : List ByteArray} {L : Int} (h : krSet ss L = true) : krLet L = true := by
  unfold krSet at h
  simp only [Bool.and_eq_true] at h
  exact h.1

/-- each is in 1..8 -/
def lenAll (z : List Int) : Bool := z.all fun l => decide (1 ≤ l ∧ l ≤ 8)
/-- none less than the one before -/
def upTo (z : List Int) (k : Nat) : Bool := (List.range k).all fun i => decide (i = 0) || !decide (z.getD i 0 < z.getD (i - 1) 0)
/-- lengths, with so many letters -/
def krList (z : List Int) (L : Int) : Bool := krLet L && (decide (z.length ≤ 12) && (lenAll z && upTo z z.length))
theorem upTo_succ (z : List Int) (k : Nat) : upTo z (k + 1) = (upTo z k && (decide (k = 0) || !decide (z.getD k 0 < z.getD (k - 1) 0))) := by
  unfold upTo
  rw [List.range_succ, List.all_append]
  simp
theorem upTo_no (z : List Int) (k n : Nat) (h : k ≤ n) (hf : upTo z k = false) : upTo z n = false := all_mono _ k n h hf
theorem lenAll_take_succ (z : List Int) (k : Nat) (h : k < z.length) : lenAll (z.take (k + 1)) = (lenAll (z.take k) && decide (1 ≤ z[k] ∧ z[k] ≤ 8)) := by
  unfold lenAll
  rw [List.take_succ_eq_append_getElem h, List.all_append]
  simp
theorem lenAll_no (z : List Int) (k : Nat) (h : lenAll (z.take k) = false) : lenAll z = false := by
  unfold lenAll at h ⊢
  rw [List.all_eq_false] at h ⊢
  obtain ⟨x, hx, hp⟩ := h
  exact ⟨x, List.mem_of_mem_take hx, hp⟩
theorem lenAll_at {z : List Int} (h : lenAll z = true) (k : Nat) (hk : k < z.length) : 1 ≤ z[k] ∧ z[k] ≤ 8 := by
  unfold lenAll at h
  have := List.all_eq_true.1 h z[k] (List.getElem_mem hk)
  rwa [decide_eq_true_eq] at this
theorem krList_parts {z : List Int} {L : Int} (h : krList z L = true) : krLet L = true ∧ z.length ≤ 12 ∧ lenAll z = true ∧ upTo z z.length = true := by
  unfold krList at h
  simp only [Bool.and_eq_true, decide_eq_true_eq] at h
  exact h
/-- what comes later is no less -/
theorem up_le {z : List Int} (h : upTo z z.length = true) : ∀ (d i : Nat), i + d < z.length → z.getD i 0 ≤ z.getD (i + d) 0
  | 0, i, _ => Int.le_refl _
  | d + 1, i, hd => by
    have h1 := up_le h d i (by omega)
    have h2 := List.all_eq_true.1 h (i + d + 1) (by simp; omega)
    simp only [Bool.or_eq_true, decide_eq_true_eq, Bool.not_eq_true', decide_eq_false_iff_not] at h2
    have h3 : i + d + 1 - 1 = i + d := by omega
    rw [h3] at h2
    have h4 : i + (d + 1) = i + d + 1 := rfl
    rw [h4]
    omega

/-- what a length adds, of L ^ 8 -/
def part (L : Nat) (l : Int) : Nat := L ^ (8 - l.toNat)
/-- Kraft's sum, of L ^ 8 -/
def shares (L : Nat) (z : List Int) : Nat := (z.map (part L)).sum
theorem shares_nil (L : Nat) : shares L [] = 0 := rfl
theorem shares_append (L : Nat) (a b : List Int) : shares L (a ++ b) = shares L a + shares L b := by
  unfold shares
  rw [List.map_append, List.sum_append]
theorem shares_succ (L : Nat) (z : List Int) (k : Nat) (h : k < z.length) : shares L (z.take (k + 1)) = shares L (z.take k) + part L z[k] := by
  rw [List.take_succ_eq_append_getElem h, shares_append]
  simp [shares]
theorem part_le (L : Nat) (h2 : 2 ≤ L) (h3 : L ≤ 3) (l : Int) (h : 1 ≤ l) : part L l ≤ 2187 := by
  unfold part
  have h1 : L ^ (8 - l.toNat) ≤ L ^ 7 := Nat.pow_le_pow_right (by omega) (by omega)
  have h4 : L ^ 7 ≤ 3 ^ 7 := Nat.pow_le_pow_left h3 7
  have h5 : (3 : Nat) ^ 7 = 2187 := by decide
  omega
theorem part_pos (L : Nat) (h2 : 2 ≤ L) (l : Int) : 0 < part L l := Nat.pow_pos (by omega)
theorem lenAll_cons {a : Int} {z : List Int} (h : lenAll (a :: z) = true) : (1 ≤ a ∧ a ≤ 8) ∧ lenAll z = true := by
  unfold lenAll at h ⊢
  rw [List.all_cons, Bool.and_eq_true, decide_eq_true_eq] at h
  exact h
theorem shares_le (L : Nat) (h2 : 2 ≤ L) (h3 : L ≤ 3) : ∀ z : List Int, lenAll z = true → shares L z ≤ z.length * 2187
  | [], _ => Nat.zero_le _
  | a :: z, h => by
    obtain ⟨h4, h5⟩ := lenAll_cons h
    have ih := shares_le L h2 h3 z h5
    have := part_le L h2 h3 a h4.1
    show part L a + shares L z ≤ (z.length + 1) * 2187
    omega
theorem shares_take_le (L : Nat) (z : List Int) (k : Nat) : shares L (z.take k) ≤ shares L z := by
  conv => rhs; rw [← List.take_append_drop k z]
  rw [shares_append]
  omega
theorem whole_le (L : Nat) (h3 : L ≤ 3) : L ^ 8 ≤ 6561 := Nat.le_trans (Nat.pow_le_pow_left h3 8) (by decide)
theorem whole_pos (L : Nat) (h2 : 2 ≤ L) : 0 < L ^ 8 := Nat.pow_pos (by omega)

/-- a fraction in lowest terms -/
def low (a b : Nat) : Nat × Nat := (a / Nat.gcd a b, b / Nat.gcd a b)
theorem low_coprime {a b : Nat} (h : 0 < b) : Nat.gcd (low a b).1 (low a b).2 = 1 := Nat.coprime_div_gcd_div_gcd (Nat.gcd_pos_of_pos_right a h)
theorem low_pos {a b : Nat} (h : 0 < b) : 0 < (low a b).2 := Nat.div_pos (Nat.le_of_dvd h (Nat.gcd_dvd_right a b)) (Nat.gcd_pos_of_pos_right a h)
theorem low_le (a b : Nat) : (low a b).1 ≤ a ∧ (low a b).2 ≤ b := ⟨Nat.div_le_self _ _, Nat.div_le_self _ _⟩
theorem low_of_coprime {a b : Nat} (h : Nat.gcd a b = 1) : low a b = (a, b) := by
  unfold low
  rw [h, Nat.div_one, Nat.div_one]
/-- Kraft's sum -/
def krSum (L : Nat) (z : List Int) : Nat × Nat := low (shares L z) (L ^ 8)
/-- a power of a fraction -/
def powR (r : Nat × Nat) (k : Nat) : Nat × Nat := (r.1 ^ k, r.2 ^ k)
theorem powR_zero (r : Nat × Nat) : powR r 0 = (1, 1) := rfl
theorem powR_coprime {r : Nat × Nat} (h : Nat.gcd r.1 r.2 = 1) (k : Nat) : Nat.gcd (powR r k).1 (powR r k).2 = 1 := Nat.Coprime.pow k k h
theorem powR_succ {r : Nat × Nat} (h : Nat.gcd r.1 r.2 = 1) (k : Nat) : low ((powR r k).1 * r.1) ((powR r k).2 * r.2) = powR r (k + 1) := by
  have e1 : (powR r k).1 * r.1 = (powR r (k + 1)).1 := (Nat.pow_succ ..).symm
  have e2 : (powR r k).2 * r.2 = (powR r (k + 1)).2 := (Nat.pow_succ ..).symm
  rw [e1, e2, low_of_coprime (powR_coprime h (k + 1))]
theorem powR_low {r : Nat × Nat} (h : Nat.gcd r.1 r.2 = 1) (k : Nat) : low (powR r k).1 (powR r k).2 = powR r k := low_of_coprime (powR_coprime h k)

/-- what the greatest common divisor is found by -/
theorem gcd_step (a b : Nat) : Nat.gcd b (a % b) = Nat.gcd a b := by
  rw [Nat.gcd_comm a b, Nat.gcd_rec b a, Nat.gcd_comm]
end Go.Proofs.Ythkkneboblhmlaa.W
