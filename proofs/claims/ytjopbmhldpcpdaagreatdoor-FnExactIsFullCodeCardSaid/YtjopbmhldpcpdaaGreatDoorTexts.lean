/-
  WHAT THIS FILE PROVES: plain facts about lists of texts that are put one behind the other, with no program in sight; no conditions but those each theorem names.
-/
import Derived.Test.YtjopbmhldpcpdaaGreatDoorSets
import Derived.Lib.Join
namespace Go.Proofs.YtjopbmhldpcpdaaGreatDoor.W

theorem ba_ext {x y : ByteArray} (h : x.data.toList = y.data.toList) : x = y := by
  cases x; cases y
  simp only [ByteArray.mk.injEq]
  exact Array.ext' h
theorem mk_of (x : ByteArray) (l : List UInt8) (h : x.data.toList = l) : (⟨l.toArray⟩ : ByteArray) = x := ba_ext (by rw [h])

/-- the first k texts, a comma between -/
def tx (ss : List ByteArray) : Nat → ByteArray
  | 0 => ⟨#[]⟩
  | k + 1 => (if k = 0 then tx ss k else tx ss k ++ ⟨#[44]⟩) ++ nth ss k
/-- the first k texts, one behind the other -/
def cat (ss : List ByteArray) : Nat → ByteArray
  | 0 => ⟨#[]⟩
  | k + 1 => cat ss k ++ nth ss k

theorem join_snoc (xs : List (List UInt8)) (x sep : List UInt8) (h : xs ≠ []) : Lib.join (xs ++ [x]) sep = Lib.join xs sep ++ (sep ++ x) := by
  cases xs with
  | nil => exact absurd rfl h
  | cons y r =>
    rw [List.cons_append, Lib.join_cons, Lib.join_cons]
    unfold Lib.joinTail
    simp
def bytes (ss : List ByteArray) : List (List UInt8) := ss.map fun s => s.data.toList
theorem bytes_succ (ss : List ByteArray) (k : Nat) (h : k < ss.length) : bytes (ss.take (k + 1)) = bytes (ss.take k) ++ [(nth ss k).data.toList] := by
  unfold bytes
  rw [List.take_succ_eq_append_getElem h, List.map_append, nth_lt ss k h]
  rfl
theorem bytes_ne (ss : List ByteArray) (k : Nat) (h : k ≤ ss.length) (h0 : 0 < k) : bytes (ss.take k) ≠ [] := by
  intro e
  have h1 : (bytes (ss.take k)).length = k := by
    unfold bytes
    rw [List.length_map, List.length_take]
    omega
  rw [e] at h1
  simp at h1
  omega
theorem tx_join (ss : List ByteArray) : ∀ k, k ≤ ss.length → (tx ss k).data.toList = Lib.join (bytes (ss.take k)) [44]
  | 0, _ => rfl
  | k + 1, h => by
    have ih := tx_join ss k (by omega)
    rw [bytes_succ ss k h]
    unfold tx
    by_cases hk : k = 0
    · subst hk
      rw [if_pos rfl]
      have h0 : bytes (ss.take 0) = [] := rfl
      rw [h0, List.nil_append, Lib.join_one]
      unfold tx
      simp
    · rw [if_neg hk, join_snoc _ _ _ (bytes_ne ss k (by omega) (by omega)), ← ih]
      simp
theorem cat_join (ss : List ByteArray) : ∀ k, k ≤ ss.length → (cat ss k).data.toList = Lib.join (bytes (ss.take k)) []
  | 0, _ => rfl
  | k + 1, h => by
    have ih := cat_join ss k (by omega)
    rw [bytes_succ ss k h]
    unfold cat
    by_cases hk : k = 0
    · subst hk
      have h0 : bytes (ss.take 0) = [] := rfl
      rw [h0, List.nil_append, Lib.join_one]
      unfold cat
      simp
    · rw [join_snoc _ _ _ (bytes_ne ss k (by omega) (by omega)), ← ih]
      simp
theorem size_append (x y : ByteArray) : (x ++ y).size = x.size + y.size := ByteArray.size_append
theorem tx_size (ss : List ByteArray) (b : Nat) : ∀ k, (∀ i, i < k → (nth ss i).size ≤ b) → (tx ss k).size ≤ (b + 1) * k
  | 0, _ => Nat.zero_le _
  | k + 1, h => by
    have ih := tx_size ss b k (fun i hi => h i (by omega))
    have hk := h k (by omega)
    unfold tx
    split
    · rw [size_append]
      have : (b + 1) * (k + 1) = (b + 1) * k + (b + 1) := Nat.mul_succ _ _
      omega
    · rw [size_append, size_append]
      have : (b + 1) * (k + 1) = (b + 1) * k + (b + 1) := Nat.mul_succ _ _
      have h1 : (⟨#[44]⟩ : ByteArray).size = 1 := rfl
      omega
theorem tx_pos (ss : List ByteArray) (k : Nat) (h : 1 ≤ (nth ss k).size) : 1 ≤ (tx ss (k + 1)).size := by
  unfold tx
  rw [size_append]
  omega
theorem cat_mono (ss : List ByteArray) (k : Nat) : ∀ n, k ≤ n → (cat ss k).size ≤ (cat ss n).size
  | 0, h => by
    have e : k = 0 := by omega
    rw [e]
    exact Nat.le_refl _
  | n + 1, h => by
    by_cases e : k = n + 1
    · subst e; exact Nat.le_refl _
    · have := cat_mono ss k n (by omega)
      show _ ≤ (cat ss n ++ nth ss n).size
      rw [size_append]
      omega
theorem cat_size (ss : List ByteArray) (b : Nat) : ∀ k, (∀ i, i < k → (nth ss i).size ≤ b) → (cat ss k).size ≤ b * k
  | 0, _ => Nat.zero_le _
  | k + 1, h => by
    have ih := cat_size ss b k (fun i hi => h i (by omega))
    have hk := h k (by omega)
    unfold cat
    rw [size_append]
    have : b * (k + 1) = b * k + b := Nat.mul_succ _ _
    omega
theorem isWd_append (l m : List UInt8) : isWd (l ++ m) = (isWd l && isWd m) := by
  unfold isWd
  rw [List.all_append]
theorem cat_wd (ss : List ByteArray) : ∀ k, allTo goodB ss k = true → isWd (cat ss k).data.toList = true
  | 0, _ => rfl
  | k + 1, h => by
    rw [allTo_succ] at h
    simp only [Bool.and_eq_true] at h
    have ih := cat_wd ss k h.1
    have h2 : isWd (nth ss k).data.toList = true := by
      have := h.2
      unfold goodB good at this
      simp only [Bool.and_eq_true] at this
      exact this.2
    show isWd (cat ss k ++ nth ss k).data.toList = true
    have e : (cat ss k ++ nth ss k).data.toList = (cat ss k).data.toList ++ (nth ss k).data.toList := by simp
    rw [e, isWd_append, ih, h2]
    rfl
theorem all_good (ss : List ByteArray) (n : Nat) (h : allTo goodB ss n = true) (i : Nat) (hi : i < n) : (nth ss i).size ≤ 60 := by
  have := List.all_eq_true.1 h i (by simpa using hi)
  unfold goodB good at this
  simp only [Bool.and_eq_true, decide_eq_true_eq] at this
  have h2 := this.1
  rwa [← Lib.size_eq] at h2

/-- the text of a set -/
def textOf (ss : List ByteArray) : ByteArray := if ss.length = 0 then ⟨#[45]⟩ else tx ss ss.length
/-- what SetText tells -/
def setText (ss : List ByteArray) : ByteArray := if isSet ss then textOf ss else ⟨#[]⟩
/-- whether Concat tells anything -/
def okCat (ss : List ByteArray) : Bool := decide (ss.length ≤ 60) && allTo goodB ss ss.length && decide ((cat ss ss.length).size ≤ 60)
/-- what Concat tells -/
def catOf (ss : List ByteArray) : ByteArray := if okCat ss then cat ss ss.length else ⟨#[]⟩

end Go.Proofs.YtjopbmhldpcpdaaGreatDoor.W
