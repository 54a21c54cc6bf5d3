/-
  WHAT THIS FILE PROVES: plain facts on weights and counts of letters: products of weights, words with given counts; no program in sight.
-/
import Derived.Test.YthhiegcdocjfkaaDoorBe
namespace Go.Proofs.YthhiegcdocjfkaaDoor.W

/-- three numbers of at least 0 with a sum of at most m -/
def flB (m : Int) : List Int → Bool
  | [a, b, c] => decide (0 ≤ a ∧ 0 ≤ b ∧ 0 ≤ c ∧ a + b + c ≤ m)
  | _ => false
theorem flB_len {m : Int} {z : List Int} (h : z.length ≠ 3) : flB m z = false := by
  match z with
  | [] => rfl
  | [_] => rfl
  | [_, _] => rfl
  | [_, _, _] => exact absurd rfl h
  | _ :: _ :: _ :: _ :: _ => rfl
theorem three {z : List Int} (h : z.length = 3) : ∃ a b c, z = [a, b, c] := by
  match z, h with
  | [a, b, c], _ => exact ⟨a, b, c, rfl⟩
theorem flB_nat {m : Int} {z : List Int} (h : flB m z = true) : ∃ a b c : Nat, z = [(a : Int), (b : Int), (c : Int)] ∧ ((a + b + c : Nat) : Int) ≤ m := by
  by_cases hl : z.length = 3
  · obtain ⟨a, b, c, rfl⟩ := three hl
    have h2 : 0 ≤ a ∧ 0 ≤ b ∧ 0 ≤ c ∧ a + b + c ≤ m := of_decide_eq_true h
    obtain ⟨ha, hb, hc, hs⟩ := h2
    obtain ⟨a', rfl⟩ := Int.eq_ofNat_of_zero_le ha
    obtain ⟨b', rfl⟩ := Int.eq_ofNat_of_zero_le hb
    obtain ⟨c', rfl⟩ := Int.eq_ofNat_of_zero_le hc
    exact ⟨a', b', c', rfl, by omega⟩
  · rw [flB_len hl] at h
    cases h

/-- a number of words, times the ways to put k more letters behind n others, by steps -/
def cwK (o n : Nat) : Nat → Nat
  | 0 => o
  | k + 1 => cwK o n k * (n + k + 1) / (k + 1)
theorem cwK_succ (o n k : Nat) : cwK o n (k + 1) = cwK o n k * (n + k + 1) / (k + 1) := rfl
theorem cwK_le (o n : Nat) (ho : o ≤ 12 ^ n) : ∀ k, n + k ≤ 12 → cwK o n k ≤ 12 ^ (n + k)
  | 0, _ => ho
  | k + 1, h => by
    have ih := cwK_le o n ho k (by omega)
    have h1 : cwK o n k * (n + k + 1) / (k + 1) ≤ cwK o n k * (n + k + 1) := Nat.div_le_self _ _
    have h2 : cwK o n k * (n + k + 1) ≤ 12 ^ (n + k) * 12 := Nat.mul_le_mul ih (by omega)
    have h3 : 12 ^ (n + k) * 12 = 12 ^ (n + (k + 1)) := (Nat.pow_succ ..).symm
    rw [cwK_succ]
    omega
theorem pow12 {n : Nat} (h : n ≤ 12) : 12 ^ n ≤ 8916100448256 := Nat.le_trans (Nat.pow_le_pow_right (by omega) h) (by decide)
/-- words with counts, and their letters, by steps -/
def cwF (z : List Int) : Nat × Nat := z.foldl (fun p x => (cwK p.1 p.2 x.toNat, p.2 + x.toNat)) (1, 0)
theorem cwF_zero (z : List Int) : cwF (z.take 0) = (1, 0) := rfl
theorem cwF_step {z : List Int} (h : flB 12 z = true) (k : Nat) (hk : k < z.length) : ∃ o n x : Nat, cwF (z.take k) = (o, n) ∧ z[k] = (x : Int) ∧ n + x ≤ 12 ∧ o ≤ 12 ^ n ∧ cwF (z.take (k + 1)) = (cwK o n x, n + x) := by
  obtain ⟨a, b, c, rfl, hs⟩ := flB_nat h
  have h1 := cwK_le 1 0 (by decide) a (by omega)
  have h2 := cwK_le (cwK 1 0 a) (0 + a) h1 b (by omega)
  have hk : k < 3 := hk
  rcases (by omega : k = 0 ∨ k = 1 ∨ k = 2) with rfl | rfl | rfl
  · exact ⟨1, 0, a, rfl, rfl, by omega, by decide, by simp [cwF]⟩
  · exact ⟨cwK 1 0 a, 0 + a, b, by simp [cwF], rfl, by omega, h1, by simp [cwF]⟩
  · exact ⟨cwK (cwK 1 0 a) (0 + a) b, 0 + a + b, c, by simp [cwF], rfl, by omega, h2, by simp [cwF]⟩
def cwcOf (z : List Int) : Int := if flB 12 z then ((cwF z).1 : Int) else 0
theorem cwcOf_no {z : List Int} (h : flB 12 z = false) : cwcOf z = 0 := by unfold cwcOf; rw [h]; rfl
theorem cwcOf_yes {z : List Int} (h : flB 12 z = true) : cwcOf z = ((cwF z).1 : Int) := by unfold cwcOf; rw [h]; rfl

/-- weights -/
def wtB (z : List Int) : Bool := flB 10 z && decide (1 ≤ z.sum)
/-- the sum of weights -/
def wtT (z : List Int) : Nat := z.sum.toNat
theorem wtB_fl {z : List Int} (h : wtB z = true) : flB 10 z = true := by unfold wtB at h; rw [Bool.and_eq_true] at h; exact h.1
theorem wtB_nat {z : List Int} (h : wtB z = true) : ∃ a b c : Nat, z = [(a : Int), (b : Int), (c : Int)] ∧ a + b + c ≤ 10 ∧ 1 ≤ a + b + c ∧ wtT z = a + b + c := by
  have h0 := h
  unfold wtB at h0
  rw [Bool.and_eq_true, decide_eq_true_eq] at h0
  obtain ⟨a, b, c, rfl, hs⟩ := flB_nat h0.1
  have e : ([(a : Int), (b : Int), (c : Int)] : List Int).sum = ((a + b + c : Nat) : Int) := by simp; omega
  have h1 := h0.2
  rw [e] at h1
  refine ⟨a, b, c, rfl, by omega, by omega, ?_⟩
  unfold wtT
  rw [e, Int.toNat_natCast]
/-- the weight of a letter -/
def wN (z : List Int) (c : UInt8) : Nat := (z.getD (c.toNat - 97) 0).toNat
/-- the product of the weights of letters -/
def prW (z : List Int) (l : List UInt8) : Nat := l.foldl (fun p c => p * wN z c) 1
theorem prW_nil (z : List Int) : prW z [] = 1 := rfl
theorem prW_succ (z : List Int) (l : List UInt8) (k : Nat) (h : k < l.length) : prW z (l.take (k + 1)) = prW z (l.take k) * wN z l[k] := by
  unfold prW
  rw [List.take_succ_eq_append_getElem h, List.foldl_append]
  rfl
theorem wN_le {z : List Int} (h : wtB z = true) (c : UInt8) : wN z c ≤ 10 := by
  obtain ⟨a, b, d, rfl, hs, _, _⟩ := wtB_nat h
  unfold wN
  rcases (by omega : c.toNat - 97 = 0 ∨ c.toNat - 97 = 1 ∨ c.toNat - 97 = 2 ∨ 3 ≤ c.toNat - 97) with e | e | e | e
  · rw [e]; simp; omega
  · rw [e]; simp; omega
  · rw [e]; simp; omega
  · rw [List.getD_eq_getElem?_getD, List.getElem?_eq_none (by simpa using e)]; simp
theorem wN_at {z : List Int} (h : wtB z = true) (c : UInt8) (hc : 97 ≤ c.toNat ∧ c.toNat ≤ 99) : ∃ hk : c.toNat - 97 < z.length, z[c.toNat - 97] = ((wN z c : Nat) : Int) := by
  obtain ⟨a, b, d, rfl, hs, _, _⟩ := wtB_nat h
  unfold wN
  refine ⟨by simp; omega, ?_⟩
  rcases (by omega : c.toNat - 97 = 0 ∨ c.toNat - 97 = 1 ∨ c.toNat - 97 = 2) with e | e | e <;> simp [e]
theorem prW_le {z : List Int} (h : wtB z = true) (l : List UInt8) : ∀ k, k ≤ l.length → prW z (l.take k) ≤ 10 ^ k
  | 0, _ => by simp [prW]
  | k + 1, hk => by
    have ih := prW_le h l k (by omega)
    rw [prW_succ z l k (by omega), Nat.pow_succ]
    exact Nat.mul_le_mul ih (wN_le h _)
theorem wtT_le {z : List Int} (h : wtB z = true) : wtT z ≤ 10 ∧ 1 ≤ wtT z := by
  obtain ⟨a, b, d, rfl, hs, h1, e⟩ := wtB_nat h
  rw [e]
  exact ⟨hs, h1⟩
theorem ten_pow {j n : Nat} (h : j ≤ n) (hn : n ≤ 8) : 10 ^ j ≤ 100000000 := Nat.le_trans (Nat.pow_le_pow_right (by omega) (by omega : j ≤ 8)) (by decide)
theorem wtT_pow {z : List Int} (h : wtB z = true) (k : Nat) (hk : k ≤ 8) : ∀ j, j ≤ k → wtT z ^ j ≤ 4611686018427387904 := fun j hj => by
  have h1 : wtT z ^ j ≤ 10 ^ j := Nat.pow_le_pow_left (wtT_le h).1 j
  have h2 := ten_pow hj hk
  omega
/-- the parts of a word of at most 8 letters, of the sum to the power of 8 -/
def paW (z : List Int) (l : List UInt8) : Nat := wtT z ^ (8 - l.length) * prW z l
theorem paW_le {z : List Int} (h : wtB z = true) (l : List UInt8) (hl : l.length ≤ 8) (k : Nat) (hk : k ≤ l.length) : wtT z ^ (8 - l.length) * prW z (l.take k) ≤ 100000000 := by
  have h1 : wtT z ^ (8 - l.length) ≤ 10 ^ (8 - l.length) := Nat.pow_le_pow_left (wtT_le h).1 _
  have h2 := prW_le h l k hk
  have h3 := Nat.mul_le_mul h1 h2
  rw [← Nat.pow_add] at h3
  exact Nat.le_trans h3 (ten_pow (j := 8 - l.length + k) (n := 8) (by omega) (Nat.le_refl _))
/-- the weight of a word -/
theorem weight_low {z : List Int} (h : wtB z = true) (l : List UInt8) (hl : l.length ≤ 8) : low (paW z l) (wtT z ^ 8) = low (prW z l) (wtT z ^ l.length) := by
  have e : wtT z ^ 8 = wtT z ^ (8 - l.length) * wtT z ^ l.length := by rw [← Nat.pow_add]; congr 1; omega
  unfold paW
  rw [e]
  exact low_mul _ _ _ (Nat.pow_pos (by have := (wtT_le h).2; omega))
/-- what WeightOf tells -/
def woOk (s : ByteArray) (z : List Int) : Bool := good s.data.toList && (decide (s.size ≤ 8) && wtB z)
def woOf (s : ByteArray) (z : List Int) : Nat × Nat := if woOk s z then low (prW z s.data.toList) (wtT z ^ s.size) else (0, 0)
theorem woOf_no {s : ByteArray} {z : List Int} (h : woOk s z = false) : woOf s z = (0, 0) := by unfold woOf; rw [h]; rfl
theorem woOf_yes {s : ByteArray} {z : List Int} (h : woOk s z = true) : woOf s z = low (prW z s.data.toList) (wtT z ^ s.size) := by unfold woOf; rw [h]; rfl
theorem wtB3 (x y v : Int) : wtB [x, y, v] = decide (0 ≤ x ∧ 0 ≤ y ∧ 0 ≤ v ∧ 1 ≤ x + y + v ∧ x + y + v ≤ 10) := by
  have e : ([x, y, v] : List Int).sum = x + y + v := by simp; omega
  unfold wtB
  rw [e]
  show (decide (0 ≤ x ∧ 0 ≤ y ∧ 0 ≤ v ∧ x + y + v ≤ 10) && decide (1 ≤ x + y + v)) = _
  rw [Bool.eq_iff_iff, Bool.and_eq_true, decide_eq_true_eq, decide_eq_true_eq, decide_eq_true_eq]
  omega
theorem wtT3 (x y v : Int) : wtT [x, y, v] = (x + y + v).toNat := by
  have e : ([x, y, v] : List Int).sum = x + y + v := by simp; omega
  unfold wtT
  rw [e]
theorem wtB_sum {z : List Int} (h : wtB z = true) : z.sum = ((wtT z : Nat) : Int) := by
  unfold wtB at h
  rw [Bool.and_eq_true, decide_eq_true_eq] at h
  unfold wtT
  rw [Int.toNat_of_nonneg (by omega)]
theorem flB_mem {m : Int} {z : List Int} (h : flB m z = true) : z.length = 3 ∧ ∀ x ∈ z, 0 ≤ x ∧ x ≤ m := by
  obtain ⟨a, b, c, rfl, hs⟩ := flB_nat h
  refine ⟨rfl, fun x hx => ?_⟩
  simp only [List.mem_cons, List.mem_nil_iff, or_false] at hx
  rcases hx with rfl | rfl | rfl <;> omega
end Go.Proofs.YthhiegcdocjfkaaDoor.W
