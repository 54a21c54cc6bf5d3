/-
  WHAT THIS FILE PROVES: plain facts on the numbers of messages that are written with so many letters, and that none passes a power of five; no program in sight.
-/
import Derived.Test.YtaeligamgpikkaaDoorWays
namespace Go.Proofs.YtaeligamgpikkaaDoor.W

/-- what a word adds to the number of messages with n letters, T the numbers of those with fewer -/
def cadd (T : List Nat) (n : Nat) (t : ByteArray) : Nat := if t.size ≤ n then T.getD (n - t.size) 0 else 0
def csum (T : List Nat) (n : Nat) (ts : List ByteArray) : Nat := (ts.map (cadd T n)).sum
/-- the numbers of messages with 0 to n letters -/
def cms (set : List ByteArray) : Nat → List Nat
  | 0 => [1]
  | n + 1 => cms set n ++ [csum (cms set n) (n + 1) set]
theorem cms_length (set : List ByteArray) : ∀ n, (cms set n).length = n + 1
  | 0 => rfl
  | n + 1 => by rw [cms, List.length_append, cms_length set n]; rfl
theorem csum_zero (T : List Nat) (n : Nat) (ts : List ByteArray) : csum T n (ts.take 0) = 0 := rfl
theorem csum_succ (T : List Nat) (n : Nat) (ts : List ByteArray) (k : Nat) (h : k < ts.length) : csum T n (ts.take (k + 1)) = csum T n (ts.take k) + cadd T n (nth ts k) := by
  unfold csum
  rw [List.take_succ_eq_append_getElem h, List.map_append, List.sum_append, nth_lt ts k h]
  simp
theorem cadd_no {T : List Nat} {n : Nat} {t : ByteArray} (h : ¬ t.size ≤ n) : cadd T n t = 0 := if_neg h
theorem cadd_yes {T : List Nat} {n : Nat} {t : ByteArray} (h : t.size ≤ n) : cadd T n t = T.getD (n - t.size) 0 := if_pos h
theorem csum_mono (T : List Nat) (n : Nat) (ts : List ByteArray) (k : Nat) : csum T n (ts.take k) ≤ csum T n ts := by
  have e : csum T n ts = csum T n (ts.take k) + csum T n (ts.drop k) := by
    unfold csum
    rw [← List.sum_append, ← List.map_append, List.take_append_drop]
  omega

theorem size_mono {ss : List ByteArray} (h : isSet ss = true) (i j : Nat) (hij : i < j) (hj : j < ss.length) : (nth ss i).size ≤ (nth ss j).size := by
  have hl := isSet_lt h i j hij hj
  unfold lessB at hl
  rw [less_def] at hl
  rw [Lib.size_eq, Lib.size_eq]
  simp only [Bool.or_eq_true, Bool.and_eq_true, decide_eq_true_eq] at hl
  omega
/-- the letter of a word of one letter -/
def letter (s : ByteArray) : Nat := (s.data.toList.headD 0).toNat
theorem letter_lt {ss : List ByteArray} (h : isSet ss = true) (i j : Nat) (hij : i < j) (hj : j < ss.length) (h1 : (nth ss i).size = 1) (h2 : (nth ss j).size = 1) : letter (nth ss i) < letter (nth ss j) := by
  have hl := isSet_lt h i j hij hj
  unfold lessB at hl
  rw [less_def] at hl
  rw [Lib.size_eq] at h1 h2
  simp only [Bool.or_eq_true, Bool.and_eq_true, decide_eq_true_eq] at hl
  unfold letter
  cases hd1 : (nth ss i).data.toList with
  | nil => rw [hd1] at h1; simp at h1
  | cons a r =>
    cases hd2 : (nth ss j).data.toList with
    | nil => rw [hd2] at h2; simp at h2
    | cons b q =>
      rw [hd1] at h1 hl
      rw [hd2] at h2 hl
      have hr : r = [] := List.eq_nil_of_length_eq_zero (by simpa using h1)
      have hq : q = [] := List.eq_nil_of_length_eq_zero (by simpa using h2)
      subst hr hq
      rcases hl with hl | ⟨_, hl⟩
      · simp at hl
      · rcases List.cons_lt_cons_iff.1 hl with h | ⟨_, h⟩
        · exact h
        · exact absurd h (by simp)
theorem letter_bd {ss : List ByteArray} (h : isSet ss = true) (i : Nat) (hi : i < ss.length) : 97 ≤ letter (nth ss i) ∧ letter (nth ss i) ≤ 99 := by
  have h1 := isSet_short ss h i hi
  have h2 := (short_size _ h1).1
  unfold short at h1
  simp only [Bool.and_eq_true] at h1
  have hw := h1.2
  unfold letter
  rw [Lib.size_eq] at h2
  cases hd : (nth ss i).data.toList with
  | nil => rw [hd] at h2; simp at h2
  | cons a r =>
    rw [hd] at hw
    unfold isWd at hw
    simp only [List.all_cons, Bool.and_eq_true] at hw
    have := hw.1
    unfold isL at this
    simpa using this
/-- only the first three words of a set can have one letter -/
theorem two_letters {ss : List ByteArray} (h : isSet ss = true) (i : Nat) (h3 : 3 ≤ i) (hi : i < ss.length) : 2 ≤ (nth ss i).size := by
  by_cases h1 : (nth ss i).size = 1
  · exfalso
    have e : ∀ j, j < i → (nth ss j).size = 1 := fun j hj => by
      have h1' := size_mono h j i hj hi
      have h2' := set_pos h j (by omega)
      omega
    have a := letter_lt h (i - 3) (i - 2) (by omega) (by omega) (e _ (by omega)) (e _ (by omega))
    have b := letter_lt h (i - 2) (i - 1) (by omega) (by omega) (e _ (by omega)) (e _ (by omega))
    have c := letter_lt h (i - 1) i (by omega) hi (e _ (by omega)) h1
    have d := letter_bd h (i - 3) (by omega)
    have d2 := letter_bd h i hi
    omega
  · have := set_pos h i hi
    omega

theorem csum_le {ss : List ByteArray} (h : isSet ss = true) (T : List Nat) (n a b : Nat) (ha : ∀ j, j < n → T.getD j 0 ≤ a) (hb : ∀ j, j + 1 < n → T.getD j 0 ≤ b) : ∀ k, k ≤ ss.length → csum T n (ss.take k) ≤ min k 3 * a + (k - 3) * b
  | 0, _ => by rw [csum_zero]; exact Nat.zero_le _
  | k + 1, hk => by
    rw [csum_succ T n ss k (by omega)]
    have ih := csum_le h T n a b ha hb k (by omega)
    have hpos := set_pos h k (by omega)
    by_cases h3 : k < 3
    · have e1 : min (k + 1) 3 = k + 1 := by omega
      have e2 : min k 3 = k := by omega
      have e3 : k + 1 - 3 = 0 := by omega
      have e4 : k - 3 = 0 := by omega
      rw [e1, e3]
      rw [e2, e4] at ih
      have hc : cadd T n (nth ss k) ≤ a := by
        by_cases hs : (nth ss k).size ≤ n
        · rw [cadd_yes hs]; exact ha _ (by omega)
        · rw [cadd_no hs]; exact Nat.zero_le _
      rw [Nat.succ_mul]
      omega
    · have h2 := two_letters h k (by omega) (by omega)
      have e1 : min (k + 1) 3 = 3 := by omega
      have e2 : min k 3 = 3 := by omega
      have e3 : k + 1 - 3 = (k - 3) + 1 := by omega
      rw [e1, e3]
      rw [e2] at ih
      have hc : cadd T n (nth ss k) ≤ b := by
        by_cases hs : (nth ss k).size ≤ n
        · rw [cadd_yes hs]; exact hb _ (by omega)
        · rw [cadd_no hs]; exact Nat.zero_le _
      have e5 : (k - 3 + 1) * b = (k - 3) * b + b := Nat.succ_mul _ _
      omega
theorem cms_le {ss : List ByteArray} (h : isSet ss = true) : ∀ n j, j ≤ n → (cms ss n).getD j 0 ≤ 5 ^ j
  | 0, j, hj => by
    obtain rfl : j = 0 := by omega
    exact Nat.le_refl _
  | n + 1, j, hj => by
    by_cases hjn : j ≤ n
    · have := cms_le h n j hjn
      rw [cms, List.getD_eq_getElem?_getD, List.getElem?_append_left (by rw [cms_length]; omega), ← List.getD_eq_getElem?_getD]
      exact this
    · obtain rfl : j = n + 1 := by omega
      rw [cms, List.getD_eq_getElem?_getD, List.getElem?_append_right (by rw [cms_length]; omega), cms_length, Nat.sub_self]
      show csum (cms ss n) (n + 1) ss ≤ _
      have h12 := isSet_len ss h
      have hp : ∀ i, i ≤ n → 5 ^ i ≤ 5 ^ n := fun i hi => Nat.pow_le_pow_right (by omega) hi
      cases n with
      | zero =>
        have := csum_le h (cms ss 0) 1 1 0 (fun j hj => by have hj0 : j = 0 := (by omega); subst hj0; exact Nat.le_refl _) (fun j hj => by omega) ss.length (Nat.le_refl _)
        rw [List.take_length] at this
        have e : min ss.length 3 ≤ 3 := by omega
        show csum (cms ss 0) 1 ss ≤ 5
        omega
      | succ m =>
        have := csum_le h (cms ss (m + 1)) (m + 2) (5 ^ (m + 1)) (5 ^ m) (fun j hj => Nat.le_trans (cms_le h (m + 1) j (by omega)) (hp j (by omega)))
          (fun j hj => Nat.le_trans (cms_le h (m + 1) j (by omega)) (Nat.pow_le_pow_right (by omega) (by omega))) ss.length (Nat.le_refl _)
        rw [List.take_length] at this
        have e1 : min ss.length 3 * 5 ^ (m + 1) ≤ 3 * 5 ^ (m + 1) := Nat.mul_le_mul_right _ (by omega)
        have e2 : (ss.length - 3) * 5 ^ m ≤ 9 * 5 ^ m := Nat.mul_le_mul_right _ (by omega)
        show csum (cms ss (m + 1)) (m + 2) ss ≤ 5 ^ (m + 1 + 1)
        have e3 : 5 ^ (m + 1) = 5 * 5 ^ m := by rw [Nat.pow_succ]; omega
        have e4 : 5 ^ (m + 1 + 1) = 25 * 5 ^ m := by rw [Nat.pow_succ, e3]; omega
        omega
/-- no sum on the way passes this -/
theorem csum_bound {ss : List ByteArray} (h : isSet ss = true) (n : Nat) (hn : n < 20) (k : Nat) : csum (cms ss n) (n + 1) (ss.take k) ≤ 95367431640625 := by
  refine Nat.le_trans (csum_mono _ _ _ k) ?_
  have := cms_le h (n + 1) (n + 1) (Nat.le_refl _)
  rw [cms, List.getD_eq_getElem?_getD, List.getElem?_append_right (by rw [cms_length]; omega), cms_length, Nat.sub_self] at this
  refine Nat.le_trans this ?_
  exact Nat.le_trans (Nat.pow_le_pow_right (by omega) (show n + 1 ≤ 20 by omega)) (by decide)
theorem cms_bound {ss : List ByteArray} (h : isSet ss = true) (n : Nat) (hn : n ≤ 20) (j : Nat) (hj : j ≤ n) : (cms ss n).getD j 0 ≤ 95367431640625 :=
  Nat.le_trans (cms_le h n j hj) (Nat.le_trans (Nat.pow_le_pow_right (by omega) (show j ≤ 20 by omega)) (by decide))

end Go.Proofs.YtaeligamgpikkaaDoor.W
