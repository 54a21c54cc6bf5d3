/-
  WHAT THIS FILE PROVES: plain facts on the list of readings of a text by the words of a set: their number, their order, and how one with given others before it is found; no program in sight.
-/
import Derived.Test.YtbdhgeefeelflaaGreatDoorWays
namespace Go.Proofs.YtbdhgeefeelflaaGreatDoor.W

def radd (T : List (List (List Int))) (l : List UInt8) (i : Nat) (t : ByteArray) : List (List Int) := if Lib.hasPrefix l t.data.toList then (T.getD (t.size - 1) []).map fun r => (i : Int) :: r else []
/-- what the words with the first k indices add -/
def rsum (T : List (List (List Int))) (l : List UInt8) (ts : List ByteArray) : Nat → List (List Int)
  | 0 => []
  | k + 1 => rsum T l ts k ++ radd T l k (nth ts k)
/-- the readings of a text and of all its ends -/
def rtab (set : List ByteArray) : List UInt8 → List (List (List Int))
  | [] => [[[]]]
  | c :: r => rsum (rtab set r) (c :: r) set set.length :: rtab set r
/-- the readings of a text, in order -/
def reads (set : List ByteArray) (l : List UInt8) : List (List Int) := (rtab set l).headD []

theorem rtab_length (set : List ByteArray) : ∀ l, (rtab set l).length = l.length + 1
  | [] => rfl
  | c :: r => by simp [rtab, rtab_length set r]
theorem rtab_drop (set : List ByteArray) : ∀ (l : List UInt8) (j : Nat), j ≤ l.length → (rtab set l).drop j = rtab set (l.drop j)
  | _, 0, _ => rfl
  | [], j + 1, h => by simp at h
  | c :: r, j + 1, h => by
    simp only [rtab, List.drop_succ_cons]
    exact rtab_drop set r j (by simpa using h)
theorem rtab_getD (set : List ByteArray) (l : List UInt8) (j : Nat) (h : j ≤ l.length) : (rtab set l).getD j [] = reads set (l.drop j) := by
  rw [List.getD_eq_getElem?_getD]
  have h1 : (rtab set l)[j]? = ((rtab set l).drop j)[0]? := by rw [List.getElem?_drop]; rfl
  rw [h1, rtab_drop set l j h]
  unfold reads
  cases hd : rtab set (l.drop j) with
  | nil => have := rtab_length set (l.drop j); rw [hd] at this; simp at this
  | cons a r => rfl
theorem radd_length (T : List (List (List Int))) (l : List UInt8) (i : Nat) (t : ByteArray) : (radd T l i t).length = wadd (T.map List.length) l t := by
  unfold radd wadd
  cases Lib.hasPrefix l t.data.toList
  · rfl
  · simp only [if_true, List.length_map, List.getD_eq_getElem?_getD, List.getElem?_map]
    cases T[t.size - 1]? <;> rfl
theorem rsum_length (T : List (List (List Int))) (l : List UInt8) (ts : List ByteArray) : ∀ k, k ≤ ts.length → (rsum T l ts k).length = wsum (T.map List.length) l (ts.take k)
  | 0, _ => rfl
  | k + 1, h => by
    rw [rsum, List.length_append, rsum_length T l ts k (by omega), radd_length, wsum_succ _ _ _ _ (by omega)]
theorem rtab_tab (set : List ByteArray) : ∀ l, (rtab set l).map List.length = tab set l
  | [] => rfl
  | c :: r => by
    rw [rtab, tab, List.map_cons, rsum_length _ _ _ _ (Nat.le_refl _), List.take_length, rtab_tab set r]
theorem reads_length (set : List ByteArray) (l : List UInt8) : (reads set l).length = ways set l := by
  unfold reads ways
  rw [← rtab_tab]
  cases rtab set l <;> rfl
theorem reads_nil (set : List ByteArray) : reads set [] = [[]] := rfl
/-- what the words with the first k indices add to the readings of a text that is not empty -/
def rpart (set : List ByteArray) (l : List UInt8) (k : Nat) : List (List Int) := rsum (rtab set (l.drop 1)) l set k
theorem reads_all (set : List ByteArray) (l : List UInt8) (h : l ≠ []) : rpart set l set.length = reads set l := by
  cases l with
  | nil => exact absurd rfl h
  | cons c r => rfl
theorem rpart_zero (set : List ByteArray) (l : List UInt8) : rpart set l 0 = [] := rfl
theorem rpart_no (set : List ByteArray) (l : List UInt8) (k : Nat) (h : Lib.hasPrefix l (nth set k).data.toList = false) : rpart set l (k + 1) = rpart set l k := by
  show rsum _ _ _ _ ++ radd _ _ _ _ = _
  unfold radd
  rw [h]
  simp [rpart]
theorem drop_size (l : List UInt8) (d : Nat) (h : 1 ≤ d) : (l.drop 1).drop (d - 1) = l.drop d := by
  rw [List.drop_drop]
  congr 1
  omega
theorem rpart_yes (set : List ByteArray) (l : List UInt8) (k : Nat) (h0 : 1 ≤ (nth set k).size) (h : Lib.hasPrefix l (nth set k).data.toList = true) :
    rpart set l (k + 1) = rpart set l k ++ (reads set (l.drop (nth set k).size)).map fun r => (k : Int) :: r := by
  show rsum _ _ _ _ ++ radd _ _ _ _ = _
  unfold radd
  rw [h, if_pos rfl]
  have hl : (nth set k).size ≤ l.length := by have := Lib.hasPrefix_le h; rwa [← Lib.size_eq] at this
  rw [rtab_getD set (l.drop 1) _ (by rw [List.length_drop]; omega), drop_size l _ h0]
  rfl
theorem rpart_length (set : List ByteArray) (l : List UInt8) (k : Nat) (hk : k ≤ set.length) : (rpart set l k).length = wsum (tab set (l.drop 1)) l (set.take k) := by
  unfold rpart
  rw [rsum_length _ _ _ _ hk, rtab_tab]
theorem rpart_pre (set : List ByteArray) (l : List UInt8) (k : Nat) : ∀ n, k ≤ n → ∃ r, rpart set l n = rpart set l k ++ r := by
  intro n hn
  induction n with
  | zero =>
    obtain rfl : k = 0 := by omega
    exact ⟨[], by simp⟩
  | succ n ih =>
    by_cases e : k = n + 1
    · subst e; exact ⟨[], by simp⟩
    · obtain ⟨r, hr⟩ := ih (by omega)
      refine ⟨r ++ radd (rtab set (l.drop 1)) l n (nth set n), ?_⟩
      show rpart set l n ++ _ = _
      rw [hr, List.append_assoc]
/-- so many first readings are found already -/
theorem take_full (set : List ByteArray) (l : List UInt8) (k m : Nat) (hk : k ≤ set.length) (hl : l ≠ []) (h : m ≤ (rpart set l k).length) : (rpart set l k).take m = (reads set l).take m := by
  obtain ⟨r, hr⟩ := rpart_pre set l k set.length hk
  rw [← reads_all set l hl, hr, List.take_append_of_le_length h]
/-- the reading with k others before it begins with the word at whose turn the number passes k -/
theorem reads_get (set : List ByteArray) (l : List UInt8) (i k : Nat) (hi : i < set.length) (hl : l ≠ []) (h0 : 1 ≤ (nth set i).size) (hp : Lib.hasPrefix l (nth set i).data.toList = true)
    (h1 : wsum (tab set (l.drop 1)) l (set.take i) ≤ k) (h2 : k < wsum (tab set (l.drop 1)) l (set.take i) + ways set (l.drop (nth set i).size)) :
    (reads set l)[k]? = ((reads set (l.drop (nth set i).size))[k - wsum (tab set (l.drop 1)) l (set.take i)]?).map fun r => (i : Int) :: r := by
  obtain ⟨r, hr⟩ := rpart_pre set l (i + 1) set.length (by omega)
  have hlen := rpart_length set l i (by omega)
  rw [← reads_all set l hl, hr, rpart_yes set l i h0 hp, List.append_assoc, List.getElem?_append_right (by omega), hlen,
    List.getElem?_append_left (by rw [List.length_map, reads_length]; omega), List.getElem?_map]

/-- how many readings begin with words of the first k indices -/
def psum (set : List ByteArray) (l : List UInt8) (k : Nat) : Nat := wsum (tab set (l.drop 1)) l (set.take k)

/-- a reading of a text that is not empty begins with a word with which the text begins -/
theorem mem_rpart (set : List ByteArray) (hpos : ∀ k, k < set.length → 1 ≤ (nth set k).size) (l : List UInt8) (r : List Int) : ∀ n, n ≤ set.length → r ∈ rpart set l n → ∃ k, k < n ∧ Lib.hasPrefix l (nth set k).data.toList = true ∧ ∃ r', r' ∈ reads set (l.drop (nth set k).size) ∧ r = (k : Int) :: r' := by
  intro n
  induction n with
  | zero => intro _ h; simp [rpart_zero] at h
  | succ n ih =>
    intro hn h
    cases hp : Lib.hasPrefix l (nth set n).data.toList
    · rw [rpart_no set l n hp] at h
      obtain ⟨k, hk, rest⟩ := ih (by omega) h
      exact ⟨k, by omega, rest⟩
    · rw [rpart_yes set l n (hpos n (by omega)) hp, List.mem_append] at h
      rcases h with h | h
      · obtain ⟨k, hk, rest⟩ := ih (by omega) h
        exact ⟨k, by omega, rest⟩
      · obtain ⟨r', hr', rfl⟩ := List.mem_map.1 h
        exact ⟨n, by omega, hp, r', hr', rfl⟩
theorem reads_len {set : List ByteArray} (hpos : ∀ k, k < set.length → 1 ≤ (nth set k).size) : ∀ (n : Nat) (l : List UInt8), l.length = n → ∀ r ∈ reads set l, r.length ≤ n := by
  intro n
  induction n using Nat.strongRecOn with
  | ind n ih =>
    intro l hl r hr
    cases l with
    | nil => rw [reads_nil] at hr; simp at hr; subst hr; simp
    | cons c q =>
      rw [← reads_all set (c :: q) (by simp)] at hr
      obtain ⟨k, hk, hp, r', hr', rfl⟩ := mem_rpart set hpos (c :: q) r set.length (Nat.le_refl _) hr
      have h1 := hpos k hk
      have h2 : (nth set k).size ≤ (c :: q).length := by have := Lib.hasPrefix_le hp; rwa [← Lib.size_eq] at this
      have := ih (n - (nth set k).size) (by omega) _ (by rw [List.length_drop, hl]) r' hr'
      rw [List.length_cons]
      omega

end Go.Proofs.YtbdhgeefeelflaaGreatDoor.W
