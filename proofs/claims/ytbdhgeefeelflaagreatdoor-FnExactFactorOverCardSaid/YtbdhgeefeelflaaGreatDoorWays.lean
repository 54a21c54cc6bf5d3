/-
  WHAT THIS FILE PROVES: plain facts on the number of readings of a text by the words of a set: the table of the numbers of all its ends, and that no number passes two to the length; no program in sight.
-/
import Derived.Test.YtbdhgeefeelflaaGreatDoorSets
import Derived.Test.YtbdhgeefeelflaaGreatDoorLess
import Derived.Lib.Bytes2
namespace Go.Proofs.YtbdhgeefeelflaaGreatDoor.W

/-- what a word adds to the readings of a text, T those of the ends behind its first letter -/
def wadd (T : List Nat) (l : List UInt8) (t : ByteArray) : Nat := if Lib.hasPrefix l t.data.toList then T.getD (t.size - 1) 0 else 0
def wsum (T : List Nat) (l : List UInt8) (ts : List ByteArray) : Nat := (ts.map (wadd T l)).sum
/-- the numbers of readings of a text and of all its ends -/
def tab (set : List ByteArray) : List UInt8 → List Nat
  | [] => [1]
  | c :: r => wsum (tab set r) (c :: r) set :: tab set r
/-- how many readings a text has -/
def ways (set : List ByteArray) (l : List UInt8) : Nat := (tab set l).headD 0

theorem tab_length (set : List ByteArray) : ∀ l, (tab set l).length = l.length + 1
  | [] => rfl
  | c :: r => by simp [tab, tab_length set r]
theorem tab_drop (set : List ByteArray) : ∀ (l : List UInt8) (j : Nat), j ≤ l.length → (tab set l).drop j = tab set (l.drop j)
  | _, 0, _ => rfl
  | [], j + 1, h => by simp at h
  | c :: r, j + 1, h => by
    simp only [tab, List.drop_succ_cons]
    exact tab_drop set r j (by simpa using h)
theorem tab_get (set : List ByteArray) (l : List UInt8) (j : Nat) (h : j ≤ l.length) : (tab set l)[j]? = some (ways set (l.drop j)) := by
  have h1 : (tab set l)[j]? = ((tab set l).drop j)[0]? := by rw [List.getElem?_drop]; rfl
  rw [h1, tab_drop set l j h]
  unfold ways
  cases hd : tab set (l.drop j) with
  | nil => have := tab_length set (l.drop j); rw [hd] at this; simp at this
  | cons a r => rfl
theorem tab_getD (set : List ByteArray) (l : List UInt8) (j : Nat) (h : j ≤ l.length) : (tab set l).getD j 0 = ways set (l.drop j) := by
  rw [List.getD_eq_getElem?_getD, tab_get set l j h]
  rfl
theorem ways_nil (set : List ByteArray) : ways set [] = 1 := rfl
theorem ways_cons (set : List ByteArray) (c : UInt8) (r : List UInt8) : ways set (c :: r) = wsum (tab set r) (c :: r) set := rfl
theorem drop_cons (l : List UInt8) (i : Nat) (h : i < l.length) : l.drop i = l[i] :: l.drop (i + 1) := List.drop_eq_getElem_cons h
theorem tab_step (set : List ByteArray) (l : List UInt8) (i : Nat) (h : i < l.length) : tab set (l.drop i) = wsum (tab set (l.drop (i + 1))) (l.drop i) set :: tab set (l.drop (i + 1)) := by
  rw [drop_cons l i h]
  rfl
theorem wsum_zero (T : List Nat) (l : List UInt8) (ts : List ByteArray) : wsum T l (ts.take 0) = 0 := rfl
theorem wsum_succ (T : List Nat) (l : List UInt8) (ts : List ByteArray) (k : Nat) (h : k < ts.length) : wsum T l (ts.take (k + 1)) = wsum T l (ts.take k) + wadd T l (nth ts k) := by
  unfold wsum
  rw [List.take_succ_eq_append_getElem h, List.map_append, List.sum_append, nth_lt ts k h]
  simp
theorem wadd_no {T : List Nat} {l : List UInt8} {t : ByteArray} (h : Lib.hasPrefix l t.data.toList = false) : wadd T l t = 0 := by unfold wadd; rw [h]; rfl
theorem wadd_yes {T : List Nat} {l : List UInt8} {t : ByteArray} (h : Lib.hasPrefix l t.data.toList = true) : wadd T l t = T.getD (t.size - 1) 0 := by unfold wadd; rw [h]; rfl

/-- the words of a set come in order, one behind the other -/
theorem isSet_lt {ss : List ByteArray} (h : isSet ss = true) : ∀ i j, i < j → j < ss.length → lessB (nth ss i) (nth ss j) = true := by
  intro i j hij
  have hc : ∀ k, k < ss.length → k ≠ 0 → lessB (nth ss (k - 1)) (nth ss k) = true := fun k hk h0 => by
    unfold isSet okTo at h
    simp only [Bool.and_eq_true] at h
    have := List.all_eq_true.1 h.2.2 k (by simpa using hk)
    rw [decide_eq_false h0, Bool.false_or] at this
    exact this
  induction j with
  | zero => omega
  | succ j ih =>
    intro hj
    have h1 := hc (j + 1) hj (by omega)
    rw [Nat.add_sub_cancel] at h1
    by_cases e : i = j
    · subst e; exact h1
    · exact less_trans (ih (by omega) (by omega)) h1
theorem prefix_take {l p : List UInt8} (h : Lib.hasPrefix l p = true) : l.take p.length = p := by
  have := Lib.hasPrefix_of_take l p
  rw [h] at this
  simp only [Bool.and_eq_true, decide_eq_true_eq, beq_iff_eq] at this
  exact this.2
/-- of two words of a set with which one text begins the first one is shorter -/
theorem prefix_lt {ss : List ByteArray} (h : isSet ss = true) {l : List UInt8} {i j : Nat} (hij : i < j) (hj : j < ss.length) (h1 : Lib.hasPrefix l (nth ss i).data.toList = true) (h2 : Lib.hasPrefix l (nth ss j).data.toList = true) :
    (nth ss i).size < (nth ss j).size := by
  have hl := isSet_lt h i j hij hj
  unfold lessB at hl
  rw [less_def] at hl
  rw [Lib.size_eq, Lib.size_eq]
  simp only [Bool.or_eq_true, Bool.and_eq_true, decide_eq_true_eq] at hl
  rcases hl with hl | ⟨hl, hl2⟩
  · exact hl
  · rw [← prefix_take h1, ← prefix_take h2, hl] at hl2
    exact absurd hl2 (List.lt_irrefl _)

/-- shifted two-powers: words of a set with which a text of n letters begins, each longer than a -/
theorem sum_pow {ss : List ByteArray} (h : isSet ss = true) (l : List UInt8) (T : List Nat) (hT : ∀ j, j < l.length → T.getD j 0 ≤ 2 ^ (l.length - 1 - j)) :
    ∀ (m k a : Nat), k + m = ss.length → a ≤ l.length → (∀ i, k ≤ i → i < ss.length → Lib.hasPrefix l (nth ss i).data.toList = true → a < (nth ss i).size) → wsum T l (ss.drop k) + 1 ≤ 2 ^ (l.length - a) := by
  intro m
  induction m with
  | zero =>
    intro k a hk ha _
    have : ss.drop k = [] := List.drop_eq_nil_of_le (by omega)
    rw [this]
    have := Nat.two_pow_pos (l.length - a)
    simp [wsum]
    omega
  | succ m ih =>
    intro k a hk ha hlt
    have hkl : k < ss.length := by omega
    have e : wsum T l (ss.drop k) = wadd T l (nth ss k) + wsum T l (ss.drop (k + 1)) := by
      unfold wsum
      rw [List.drop_eq_getElem_cons hkl, List.map_cons, List.sum_cons, nth_lt ss k hkl]
    rw [e]
    cases hp : Lib.hasPrefix l (nth ss k).data.toList
    · rw [wadd_no hp, Nat.zero_add]
      exact ih (k + 1) a (by omega) ha (fun i h1 h2 h3 => hlt i (by omega) h2 h3)
    · rw [wadd_yes hp]
      have h1 := hlt k (Nat.le_refl _) hkl hp
      have h2 : (nth ss k).size ≤ l.length := by have := Lib.hasPrefix_le hp; rwa [← Lib.size_eq] at this
      have h3 := ih (k + 1) (nth ss k).size (by omega) h2 (fun i h1 h2 h3 => prefix_lt h (by omega) h2 hp h3)
      have h4 := hT ((nth ss k).size - 1) (by omega)
      have h5 : 2 ^ (l.length - 1 - ((nth ss k).size - 1)) = 2 ^ (l.length - (nth ss k).size) := by congr 1; omega
      have h6 : 2 ^ (l.length - (nth ss k).size) + 2 ^ (l.length - (nth ss k).size) = 2 ^ (l.length - (nth ss k).size + 1) := by rw [Nat.pow_succ]; omega
      have h7 : 2 ^ (l.length - (nth ss k).size + 1) ≤ 2 ^ (l.length - a) := Nat.pow_le_pow_right (by omega) (by omega)
      omega
theorem set_pos {ss : List ByteArray} (h : isSet ss = true) (i : Nat) (hi : i < ss.length) : 1 ≤ (nth ss i).size := (short_size _ (isSet_short ss h i hi)).1
theorem ways_le {ss : List ByteArray} (h : isSet ss = true) : ∀ (n : Nat) (l : List UInt8), l.length = n → ways ss l ≤ 2 ^ n := by
  intro n
  induction n using Nat.strongRecOn with
  | ind n ih =>
    intro l hl
    cases l with
    | nil => subst hl; exact Nat.le_refl _
    | cons c r =>
      have hr : r.length + 1 = n := by simpa using hl
      have := sum_pow h (c :: r) (tab ss r) (fun j hj => by
        have hj' : j ≤ r.length := by simp at hj; omega
        rw [tab_getD ss r j hj']
        have := ih (r.length - j) (by omega) (r.drop j) (by simp)
        have e : (c :: r).length - 1 - j = r.length - j := by simp
        rw [e]; exact this) ss.length 0 0 (by omega) (Nat.zero_le _) (fun i _ hi _ => set_pos h i hi)
      rw [ways_cons]
      simp only [List.drop_zero, hl, Nat.sub_zero] at this
      omega
theorem wsum_mono (T : List Nat) (l : List UInt8) (ts : List ByteArray) (k : Nat) : wsum T l (ts.take k) ≤ wsum T l ts := by
  have e : wsum T l ts = wsum T l (ts.take k) + wsum T l (ts.drop k) := by
    unfold wsum
    rw [← List.sum_append, ← List.map_append, List.take_append_drop]
  omega
/-- no number on the way passes two to the sixtieth -/
theorem wsum_bound {ss : List ByteArray} (h : isSet ss = true) (l : List UInt8) (hl : l.length ≤ 60) (i : Nat) (hi : i < l.length) (k : Nat) :
    wsum (tab ss (l.drop (i + 1))) (l.drop i) (ss.take k) ≤ 1152921504606846976 := by
  refine Nat.le_trans (wsum_mono _ _ _ k) ?_
  have h1 : wsum (tab ss (l.drop (i + 1))) (l.drop i) ss = ways ss (l.drop i) := by
    unfold ways
    rw [tab_step ss l i hi]
    rfl
  rw [h1]
  refine Nat.le_trans (ways_le h _ (l.drop i) rfl) ?_
  exact Nat.pow_le_pow_right (n := 2) (by omega) (show (l.drop i).length ≤ 60 by rw [List.length_drop]; omega)
theorem ways_bound {ss : List ByteArray} (h : isSet ss = true) (l : List UInt8) (hl : l.length ≤ 60) : ways ss l ≤ 1152921504606846976 := by
  refine Nat.le_trans (ways_le h _ l rfl) ?_
  exact Nat.pow_le_pow_right (n := 2) (by omega) (by omega)

/-- the program's table, all from i on done -/
def tfull (i : Nat) (T : List Nat) : List Int := List.replicate i 0 ++ T.map fun (x : Nat) => (x : Int)
/-- the same, at i the sum x so far -/
def tpart (i : Nat) (x : Nat) (T : List Nat) : List Int := List.replicate i 0 ++ (x : Int) :: T.map fun (x : Nat) => (x : Int)
theorem tfull_part (i : Nat) (T : List Nat) : tfull (i + 1) T = tpart i 0 T := by
  unfold tfull tpart
  rw [List.replicate_succ', List.append_assoc]
  rfl
theorem tpart_full (set : List ByteArray) (l : List UInt8) (i : Nat) (h : i < l.length) : tpart i (wsum (tab set (l.drop (i + 1))) (l.drop i) set) (tab set (l.drop (i + 1))) = tfull i (tab set (l.drop i)) := by
  unfold tfull tpart
  rw [tab_step set l i h]
  rfl
theorem tpart_length (i x : Nat) (T : List Nat) : (tpart i x T).length = i + 1 + T.length := by
  unfold tpart
  simp
  omega
theorem tfull_length (i : Nat) (T : List Nat) : (tfull i T).length = i + T.length := by
  unfold tfull
  simp
theorem tpart_here (i x : Nat) (T : List Nat) : (tpart i x T)[i]? = some (x : Int) := by
  unfold tpart
  rw [List.getElem?_append_right (by simp)]
  simp
theorem tpart_there (i x : Nat) (T : List Nat) (d : Nat) (h1 : 1 ≤ d) (h2 : d ≤ T.length) : (tpart i x T)[i + d]? = some ((T.getD (d - 1) 0 : Nat) : Int) := by
  unfold tpart
  rw [List.getElem?_append_right (by simp), List.length_replicate, Nat.add_sub_cancel_left]
  obtain ⟨e, rfl⟩ : ∃ e, d = e + 1 := ⟨d - 1, by omega⟩
  rw [List.getElem?_cons_succ, List.getElem?_map, Nat.add_sub_cancel, List.getD_eq_getElem?_getD, List.getElem?_eq_getElem (by omega)]
  rfl
theorem tpart_set (i x y : Nat) (T : List Nat) : (tpart i x T).set i (y : Int) = tpart i y T := by
  unfold tpart
  rw [List.set_append_right _ _ (by simp)]
  simp
theorem tfull_start (set : List ByteArray) (l : List UInt8) : (List.replicate (l.length + 1) (0 : Int)).set l.length 1 = tfull l.length (tab set (l.drop l.length)) := by
  rw [List.drop_length]
  show _ = List.replicate l.length 0 ++ [1]
  rw [List.replicate_succ', List.set_append_right _ _ (by simp)]
  simp
theorem tfull_head (set : List ByteArray) (l : List UInt8) : (tfull 0 (tab set (l.drop 0)))[0]? = some ((ways set l : Nat) : Int) := by
  unfold tfull
  rw [List.drop_zero]
  have := tab_get set l 0 (Nat.zero_le _)
  rw [List.drop_zero] at this
  simp [this]

end Go.Proofs.YtbdhgeefeelflaaGreatDoor.W
