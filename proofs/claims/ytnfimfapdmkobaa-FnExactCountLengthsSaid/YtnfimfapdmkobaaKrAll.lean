/-
  WHAT THIS FILE PROVES: plain facts on all lists of lengths that fill a share, in order; no program in sight.
-/
import Derived.Test.YtnfimfapdmkobaaKr
namespace Go.Proofs.Ytnfimfapdmkobaa

/-- those that begin with one length -/
def flF (rec : Nat → Nat → List (List Int)) (L n share l : Nat) : List (List Int) :=
  if share < W.part L (l : Int) ∨ n * W.part L (l : Int) < share then [] else (rec l (share - W.part L (l : Int))).map fun x => (l : Int) :: x
/-- all lists of n lengths, none less than fr or than the one before, that fill a share -/
def fl (L most : Nat) : Nat → Nat → Nat → List (List Int)
  | 0, _, share => if share = 0 then [[]] else []
  | n + 1, fr, share => (List.range' fr (most + 1 - fr)).flatMap (flF (fl L most n) L (n + 1) share)
/-- those that begin with one of the lengths fr .. fr + k - 1 -/
def flTo (L most n fr share k : Nat) : List (List Int) := (List.range' fr k).flatMap (flF (fl L most n) L (n + 1) share)
theorem flTo_zero (L most n fr share : Nat) : flTo L most n fr share 0 = [] := rfl
theorem flTo_all (L most n fr share : Nat) : flTo L most n fr share (most + 1 - fr) = fl L most (n + 1) fr share := rfl
theorem flTo_succ (L most n fr share k : Nat) : flTo L most n fr share (k + 1) = flTo L most n fr share k ++ flF (fl L most n) L (n + 1) share (fr + k) := by
  unfold flTo
  rw [List.range'_concat, List.flatMap_append]
  simp
theorem flF_no {rec : Nat → Nat → List (List Int)} {L n share l : Nat} (h : share < W.part L (l : Int) ∨ n * W.part L (l : Int) < share) : flF rec L n share l = [] := by unfold flF; rw [if_pos h]
theorem flF_yes {rec : Nat → Nat → List (List Int)} {L n share l : Nat} (h : ¬ (share < W.part L (l : Int) ∨ n * W.part L (l : Int) < share)) : flF rec L n share l = (rec l (share - W.part L (l : Int))).map fun x => (l : Int) :: x := by unfold flF; rw [if_neg h]
theorem part_anti (L : Nat) (h2 : 2 ≤ L) {a b : Nat} (h : a ≤ b) : W.part L (b : Int) ≤ W.part L (a : Int) := by
  unfold W.part
  exact Nat.pow_le_pow_right (by omega) (by omega)
/-- behind a length that is too great all are -/
theorem flTo_stop (L most n fr share k : Nat) (h2 : 2 ≤ L) (h : (n + 1) * W.part L ((fr + k : Nat) : Int) < share) : ∀ d, flTo L most n fr share (k + d) = flTo L most n fr share k
  | 0 => rfl
  | d + 1 => by
    have h1 := part_anti L h2 (show fr + k ≤ fr + (k + d) by omega)
    have h3 : (n + 1) * W.part L ((fr + (k + d) : Nat) : Int) < share := Nat.lt_of_le_of_lt (Nat.mul_le_mul_left _ h1) h
    rw [← Nat.add_assoc, flTo_succ, flF_no (.inr h3), List.append_nil, flTo_stop L most n fr share k h2 h d]
theorem fl_length (L most : Nat) (hm : most ≤ 8) : ∀ n fr share, 1 ≤ fr → (fl L most n fr share).length ≤ 8 ^ n ∧ ∀ x ∈ fl L most n fr share, x.length = n ∧ ∀ y ∈ x, 1 ≤ y ∧ y ≤ 8
  | 0, fr, share, _ => by
    unfold fl
    split <;> simp
  | n + 1, fr, share, hfr => by
    constructor
    · have h1 : ∀ xs : List Nat, (∀ l ∈ xs, 1 ≤ l) → (xs.flatMap (flF (fl L most n) L (n + 1) share)).length ≤ xs.length * 8 ^ n := by
        intro xs
        induction xs with
        | nil => intro _; simp
        | cons a r ih =>
          intro hx
          have ih' := ih (fun l hl => hx l (List.mem_cons_of_mem _ hl))
          have ha : (flF (fl L most n) L (n + 1) share a).length ≤ 8 ^ n := by
            unfold flF
            split
            · simp
            · rw [List.length_map]; exact (fl_length L most hm n a _ (hx a (List.mem_cons_self ..))).1
          rw [List.flatMap_cons, List.length_append, List.length_cons, Nat.add_mul, Nat.one_mul]
          omega
      have h2 := h1 (List.range' fr (most + 1 - fr)) (fun l hl => by rw [List.mem_range'_1] at hl; omega)
      rw [List.length_range'] at h2
      show ((List.range' fr (most + 1 - fr)).flatMap _).length ≤ _
      rw [Nat.pow_succ, Nat.mul_comm (8 ^ n) 8]
      exact Nat.le_trans h2 (Nat.mul_le_mul_right _ (by omega))
    · intro x hx
      have hx : x ∈ (List.range' fr (most + 1 - fr)).flatMap (flF (fl L most n) L (n + 1) share) := hx
      obtain ⟨l, hl, hx⟩ := List.mem_flatMap.1 hx
      rw [List.mem_range'_1] at hl
      unfold flF at hx
      split at hx
      · simp at hx
      · obtain ⟨y, hy, rfl⟩ := List.mem_map.1 hx
        have h2 := (fl_length L most hm n l _ (by omega)).2 y hy
        refine ⟨by rw [List.length_cons, h2.1], fun u hu => ?_⟩
        rcases List.mem_cons.1 hu with rfl | hu
        · omega
        · exact h2.2 u hu
theorem flTo_length (L most n fr share k : Nat) (hm : most ≤ 8) (hfr : 1 ≤ fr) (hk : fr + k ≤ 9) : (flTo L most n fr share k).length ≤ 8 ^ (n + 1) := by
  have h1 : ∀ xs : List Nat, (∀ l ∈ xs, 1 ≤ l) → (xs.flatMap (flF (fl L most n) L (n + 1) share)).length ≤ xs.length * 8 ^ n := by
    intro xs
    induction xs with
    | nil => intro _; simp
    | cons a r ih =>
      intro hx
      have ih' := ih (fun l hl => hx l (List.mem_cons_of_mem _ hl))
      have ha : (flF (fl L most n) L (n + 1) share a).length ≤ 8 ^ n := by
        unfold flF
        split
        · simp
        · rw [List.length_map]; exact (fl_length L most hm n a _ (hx a (List.mem_cons_self ..))).1
      rw [List.flatMap_cons, List.length_append, List.length_cons, Nat.add_mul, Nat.one_mul]
      omega
  have h2 := h1 (List.range' fr k) (fun l hl => by rw [List.mem_range'_1] at hl; omega)
  rw [List.length_range'] at h2
  unfold flTo
  rw [Nat.pow_succ, Nat.mul_comm (8 ^ n) 8]
  exact Nat.le_trans h2 (Nat.mul_le_mul_right _ (by omega))
theorem pow8 {n : Nat} (h : n ≤ 12) : 8 ^ n ≤ 68719476736 := by
  have h1 : (8 : Nat) ^ n ≤ 8 ^ 12 := Nat.pow_le_pow_right (by omega) h
  have h2 : (8 : Nat) ^ 12 = 68719476736 := by decide
  omega
/-- numbers for which lists are told -/
def clOk (lim : Int) (n most L : Int) : Bool := decide (0 ≤ n ∧ n ≤ lim) && (decide (1 ≤ most ∧ most ≤ 8) && W.krLet L)
/-- the lists that are told -/
def clOf (lim : Int) (n most L : Int) : List (List Int) := if clOk lim n most L then fl L.toNat most.toNat n.toNat 1 (L.toNat ^ 8) else []
theorem clOf_no {lim n most L : Int} (h : clOk lim n most L = false) : clOf lim n most L = [] := by unfold clOf; rw [h]; rfl
theorem clOf_yes {lim n most L : Int} (h : clOk lim n most L = true) : clOf lim n most L = fl L.toNat most.toNat n.toNat 1 (L.toNat ^ 8) := by unfold clOf; rw [h]; rfl
theorem clOk_parts {lim n most L : Int} (h : clOk lim n most L = true) : (0 ≤ n ∧ n ≤ lim) ∧ (1 ≤ most ∧ most ≤ 8) ∧ W.krLet L = true := by
  unfold clOk at h
  simp only [Bool.and_eq_true, decide_eq_true_eq] at h
  exact h
theorem clOf_len (lim n most L : Int) (hl : lim ≤ 12) : (clOf lim n most L).length ≤ 68719476736 := by
  cases h : clOk lim n most L
  · rw [clOf_no h]; simp
  · rw [clOf_yes h]
    obtain ⟨h1, h2, _⟩ := clOk_parts h
    exact Nat.le_trans (fl_length _ _ (by omega) _ _ _ (Nat.le_refl _)).1 (pow8 (by omega))
end Go.Proofs.Ytnfimfapdmkobaa
