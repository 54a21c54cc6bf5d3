/-
  WHAT THIS FILE PROVES: plain facts on periods, roots and turns of lists of bytes, with no program in sight; no conditions but those each theorem names.
-/
import Derived.Test.YtmijimpfkbgngaaDoorPure
namespace Go.Proofs.YtmijimpfkbgngaaDoor.W

/-- each letter is the same as that p places on -/
def isPer (l : List UInt8) (p : Nat) : Bool := decide (l.drop p = l.take (l.length - p))
theorem isPer_all (l : List UInt8) : isPer l l.length = true := by
  unfold isPer
  simp
/-- the periods below k -/
def pers (l : List UInt8) (k : Nat) : List Nat := (List.range k).filter fun p => decide (1 ≤ p) && isPer l p
theorem pers_one (l : List UInt8) : pers l 1 = [] := by simp [pers, List.range_succ]
theorem pers_succ (l : List UInt8) (k : Nat) (h : 1 ≤ k) : pers l (k + 1) = pers l k ++ if isPer l k then [k] else [] := by
  unfold pers
  rw [List.range_succ, List.filter_append]
  cases hq : isPer l k <;> simp [hq, h]
theorem pers_length (l : List UInt8) (k : Nat) : (pers l k).length ≤ k := by
  unfold pers
  have := List.length_filter_le (fun p => decide (1 ≤ p) && isPer l p) (List.range k)
  simpa using this
theorem mem_pers (l : List UInt8) (k p : Nat) : p ∈ pers l k ↔ p < k ∧ 1 ≤ p ∧ isPer l p = true := by
  unfold pers
  simp
/-- the same, as numbers of a slice -/
def persI (l : List UInt8) (k : Nat) : List Int := (pers l k).map fun (p : Nat) => (p : Int)
theorem persI_one (l : List UInt8) : persI l 1 = [] := by simp [persI, pers_one]
theorem persI_succ (l : List UInt8) (k : Nat) (h : 1 ≤ k) : persI l (k + 1) = persI l k ++ if isPer l k then [(k : Int)] else [] := by
  unfold persI
  rw [pers_succ l k h, List.map_append]
  cases isPer l k <;> rfl
theorem persI_length (l : List UInt8) (k : Nat) : (persI l k).length ≤ k := by
  unfold persI
  rw [List.length_map]
  exact pers_length l k
/-- what PeriodsOf tells -/
def periodsOf (l : List UInt8) : List Int := if good l then persI l (l.length + 1) else []

/-- a divisor of the length that is a period -/
def isRt (l : List UInt8) (p : Nat) : Bool := decide (1 ≤ p) && (decide (l.length % p = 0) && isPer l p)
/-- how many letters the root has -/
def rootN (l : List UInt8) : Nat := ((List.range (l.length + 1)).find? (isRt l)).getD l.length
theorem rootN_of (l : List UInt8) (p : Nat) (hp : p ≤ l.length) (h : isRt l p = true) (hmin : ∀ q, q < p → isRt l q = false) : rootN l = p := by
  unfold rootN
  have : (List.range (l.length + 1)).find? (isRt l) = some p := by
    rw [List.find?_range_eq_some]
    exact ⟨h, by simp; omega, fun q hq => by rw [hmin q hq]; rfl⟩
  rw [this]
  rfl
theorem isRt_all (l : List UInt8) (h : 1 ≤ l.length) : isRt l l.length = true := by
  unfold isRt
  rw [isPer_all]
  simp [h]
theorem isRt_zero (l : List UInt8) : isRt l 0 = false := rfl
theorem rootN_spec (l : List UInt8) (h : 1 ≤ l.length) : isRt l (rootN l) = true ∧ rootN l ≤ l.length ∧ ∀ q, q < rootN l → isRt l q = false := by
  unfold rootN
  cases hf : (List.range (l.length + 1)).find? (isRt l) with
  | none =>
    have := List.find?_eq_none.1 hf l.length (by simp)
    rw [isRt_all l h] at this
    simp at this
  | some p =>
    rw [List.find?_range_eq_some] at hf
    obtain ⟨h1, h2, h3⟩ := hf
    refine ⟨h1, ?_, fun q hq => ?_⟩
    · simp at h2
      show p ≤ _
      omega
    · have := h3 q hq
      simpa using this
theorem rootN_pos (l : List UInt8) (h : 1 ≤ l.length) : 1 ≤ rootN l := by
  have := (rootN_spec l h).1
  unfold isRt at this
  simp only [Bool.and_eq_true, decide_eq_true_eq] at this
  exact this.1
theorem rootN_dvd (l : List UInt8) (h : 1 ≤ l.length) : l.length % rootN l = 0 := by
  have := (rootN_spec l h).1
  unfold isRt at this
  simp only [Bool.and_eq_true, decide_eq_true_eq] at this
  exact this.2.1
theorem rootN_per (l : List UInt8) (h : 1 ≤ l.length) : isPer l (rootN l) = true := by
  have := (rootN_spec l h).1
  unfold isRt at this
  simp only [Bool.and_eq_true, decide_eq_true_eq] at this
  exact this.2.2

/-- a word that has letters -/
def asked (l : List UInt8) : Bool := good l && !l.isEmpty
theorem asked_len {l : List UInt8} (h : asked l = true) : 1 ≤ l.length ∧ l.length ≤ 60 := by
  unfold asked good at h
  simp only [Bool.and_eq_true, decide_eq_true_eq, Bool.not_eq_true', List.isEmpty_eq_false_iff] at h
  have := List.length_pos_iff.2 h.2
  exact ⟨this, h.1.1⟩

/-- the word from a place on, and behind it what is in front of this -/
def turn (l : List UInt8) (k : Nat) : List UInt8 := l.drop k ++ l.take k
theorem turn_length (l : List UInt8) (k : Nat) : (turn l k).length = l.length := by
  unfold turn
  rw [List.length_append, List.length_drop, List.length_take]
  omega
theorem turn_get (l : List UInt8) (k : Nat) (hk : k < l.length) (i : Nat) (hi : i < l.length) : (turn l k)[i]? = l[(k + i) % l.length]? := by
  unfold turn
  by_cases h : i < l.length - k
  · rw [List.getElem?_append_left (by rw [List.length_drop]; exact h), List.getElem?_drop, Nat.mod_eq_of_lt (by omega)]
  · rw [List.getElem?_append_right (by rw [List.length_drop]; omega), List.length_drop, List.getElem?_take, if_pos (by omega)]
    congr 1
    rw [Nat.mod_eq_sub_mod (by omega), Nat.mod_eq_of_lt (by omega)]
    omega
theorem per_get (l : List UInt8) (p : Nat) (h : isPer l p = true) (i : Nat) (hi : p + i < l.length) : l[p + i]? = l[i]? := by
  unfold isPer at h
  have h := of_decide_eq_true h
  have : (l.drop p)[i]? = (l.take (l.length - p))[i]? := by rw [h]
  rw [List.getElem?_drop, List.getElem?_take, if_pos (by omega)] at this
  exact this
theorem per_mul (l : List UInt8) (p : Nat) (h : isPer l p = true) : ∀ (q i : Nat), i + p * q < l.length → l[i + p * q]? = l[i]?
  | 0, i, _ => by simp
  | q + 1, i, hi => by
    rw [Nat.mul_succ] at hi ⊢
    rw [show i + (p * q + p) = p + (i + p * q) by omega, per_get l p h _ (by omega)]
    exact per_mul l p h q i (by omega)
theorem per_mod (l : List UInt8) (p : Nat) (h : isPer l p = true) (i : Nat) (hi : i < l.length) : l[i]? = l[i % p]? := by
  have e := Nat.mod_add_div i p
  have := per_mul l p h (i / p) (i % p) (by rw [e]; exact hi)
  rw [e] at this
  exact this
/-- turns by whole roots are the same -/
theorem turn_mod (l : List UInt8) (p : Nat) (hd : l.length % p = 0) (h : isPer l p = true) (k : Nat) (hk : k < l.length) : turn l k = turn l (k % p) := by
  have hkp : k % p < l.length := Nat.lt_of_le_of_lt (Nat.mod_le _ _) hk
  apply List.ext_getElem?
  intro i
  by_cases hi : i < l.length
  · rw [turn_get l k hk i hi, turn_get l _ hkp i hi, per_mod l p h _ (Nat.mod_lt _ (by omega)), per_mod l p h ((k % p + i) % l.length) (Nat.mod_lt _ (by omega))]
    have hdv : p ∣ l.length := Nat.dvd_of_mod_eq_zero hd
    rw [Nat.mod_mod_of_dvd _ hdv, Nat.mod_mod_of_dvd _ hdv, Nat.mod_add_mod]
  · rw [List.getElem?_eq_none (by rw [turn_length]; omega), List.getElem?_eq_none (by rw [turn_length]; omega)]
/-- the turns by less than k -/
def turns (l : List UInt8) (k : Nat) : List (List UInt8) := (List.range k).map (turn l)
theorem mem_turns_root (l : List UInt8) (h : 1 ≤ l.length) (x : List UInt8) : x ∈ turns l l.length ↔ x ∈ turns l (rootN l) := by
  have hp := rootN_pos l h
  have hl := (rootN_spec l h).2.1
  unfold turns
  constructor
  · intro hx
    obtain ⟨k, hk, rfl⟩ := List.mem_map.1 hx
    have hk := List.mem_range.1 hk
    refine List.mem_map.2 ⟨k % rootN l, List.mem_range.2 (Nat.mod_lt _ (by omega)), ?_⟩
    exact (turn_mod l _ (rootN_dvd l h) (rootN_per l h) k hk).symm
  · intro hx
    obtain ⟨k, hk, rfl⟩ := List.mem_map.1 hx
    have hk := List.mem_range.1 hk
    exact List.mem_map.2 ⟨k, List.mem_range.2 (by omega), rfl⟩
/-- a turn stands within the word put behind itself -/
theorem turn_inside (l t : List UInt8) (h : 1 ≤ l.length) : t ∈ turns l l.length ↔ l.length = t.length ∧ ∃ k, k + t.length ≤ (l ++ l).length ∧ ((l ++ l).drop k).take t.length = t := by
  have ht : ∀ k, k ≤ l.length → ((l ++ l).drop k).take l.length = turn l k := fun k hk => by
    unfold turn
    rw [List.drop_append_of_le_length hk, List.take_append, List.take_of_length_le (by rw [List.length_drop]; omega), List.length_drop]
    congr 2
    omega
  constructor
  · intro hx
    obtain ⟨k, hk, rfl⟩ := List.mem_map.1 hx
    have hk := List.mem_range.1 hk
    rw [turn_length]
    refine ⟨rfl, k, by rw [List.length_append]; omega, ht k (by omega)⟩
  · rintro ⟨e, k, hk, hx⟩
    rw [List.length_append] at hk
    rw [← e, ht k (by omega)] at hx
    by_cases hkl : k < l.length
    · exact List.mem_map.2 ⟨k, List.mem_range.2 hkl, hx⟩
    · have : k = l.length := by omega
      refine List.mem_map.2 ⟨0, List.mem_range.2 (by omega), ?_⟩
      rw [← hx, this]
      unfold turn
      simp
end Go.Proofs.YtmijimpfkbgngaaDoor.W
