/-
  WHAT THIS FILE PROVES: plain facts about a text that is cut at its commas, with no program in sight; no conditions but those each theorem names.
-/
import Derived.Test.YtdcobmgamlhglaaDoorSets
import Derived.Lib.Split
import Derived.Lib.IndexBytes
namespace Go.Proofs.YtdcobmgamlhglaaDoor.W

/-- p ahead of the first part -/
def ahead (p : List UInt8) : List (List UInt8) → List (List UInt8)
  | [] => [p]
  | q :: qs => (p ++ q) :: qs
/-- the parts of a text between its commas -/
def cuts : List UInt8 → List (List UInt8)
  | [] => [[]]
  | c :: r => if c = 44 then [] :: cuts r else ahead [c] (cuts r)
theorem ahead_ne (p : List UInt8) (qs : List (List UInt8)) : ahead p qs ≠ [] := by cases qs <;> simp [ahead]
theorem cuts_ne (l : List UInt8) : cuts l ≠ [] := by
  cases l with
  | nil => simp [cuts]
  | cons c r =>
    unfold cuts
    split
    · simp
    · exact ahead_ne _ _
theorem ahead_ahead (p q : List UInt8) (qs : List (List UInt8)) (h : qs ≠ []) : ahead p (ahead q qs) = ahead (p ++ q) qs := by
  cases qs with
  | nil => exact absurd rfl h
  | cons a r => simp [ahead]
theorem ahead_nil (qs : List (List UInt8)) (h : qs ≠ []) : ahead [] qs = qs := by
  cases qs with
  | nil => exact absurd rfl h
  | cons a r => simp [ahead]
theorem ahead_length (p : List UInt8) (qs : List (List UInt8)) (h : qs ≠ []) : (ahead p qs).length = qs.length := by
  cases qs with
  | nil => exact absurd rfl h
  | cons a r => simp [ahead]
theorem cuts_length_pos (l : List UInt8) : 1 ≤ (cuts l).length := by
  have := cuts_ne l
  cases h : cuts l with
  | nil => exact absurd h this
  | cons a r => simp
theorem cuts_length_le : ∀ l : List UInt8, (cuts l).length ≤ l.length + 1
  | [] => by simp [cuts]
  | c :: r => by
    have ih := cuts_length_le r
    unfold cuts
    split
    · simp; omega
    · rw [ahead_length _ _ (cuts_ne r)]
      simp
      omega
/-- one step of the reader: at a comma, and else -/
theorem cuts_at (l : List UInt8) (i : Nat) (h : i < l.length) (p : List UInt8) (hc : l[i] = 44) : ahead p (cuts (l.drop i)) = p :: cuts (l.drop (i + 1)) := by
  rw [List.drop_eq_getElem_cons h, cuts, if_pos hc]
  simp [ahead]
theorem cuts_past (l : List UInt8) (i : Nat) (h : i < l.length) (p : List UInt8) (hc : ¬ l[i] = 44) : ahead p (cuts (l.drop i)) = ahead (p ++ [l[i]]) (cuts (l.drop (i + 1))) := by
  rw [List.drop_eq_getElem_cons h, cuts, if_neg hc, ahead_ahead _ _ _ (cuts_ne _)]
theorem cuts_end (l : List UInt8) (p : List UInt8) : ahead p (cuts (l.drop l.length)) = [p] := by
  rw [List.drop_length]
  simp [cuts, ahead]

theorem cuts_index : ∀ l : List UInt8, (Lib.indexByte l 44 = -1 ∧ cuts l = [l]) ∨ ∃ i : Nat, Lib.indexByte l 44 = i ∧ cuts l = l.take i :: cuts (l.drop (i + 1))
  | [] => .inl ⟨rfl, rfl⟩
  | c :: r => by
    by_cases hc : c = 44
    · subst hc
      refine .inr ⟨0, ?_, ?_⟩
      · simp [Lib.indexByte]
      · simp [cuts]
    · rcases cuts_index r with ⟨h1, h2⟩ | ⟨i, h1, h2⟩
      · refine .inl ⟨?_, ?_⟩
        · rw [Lib.indexByte, if_neg (by simpa using hc), h1]
          rfl
        · rw [cuts, if_neg hc, h2]
          rfl
      · refine .inr ⟨i + 1, ?_, ?_⟩
        · rw [Lib.indexByte, if_neg (by simpa using hc), if_neg (by rw [h1]; simp), h1]
          omega
        · rw [cuts, if_neg hc, h2]
          simp [ahead]

theorem splitK_cuts : ∀ (k : Nat) (l : List UInt8), (Lib.splitK [44] 0 k l).length = min (k + 1) (cuts l).length ∧ ((cuts l).length ≤ k + 1 → Lib.splitK [44] 0 k l = cuts l)
  | 0, l => by
    have hp := cuts_length_pos l
    refine ⟨by simp [Lib.splitK]; omega, fun h => ?_⟩
    rcases cuts_index l with ⟨_, h2⟩ | ⟨i, _, h2⟩
    · rw [h2]; rfl
    · have := cuts_length_pos (l.drop (i + 1))
      rw [h2, List.length_cons] at h
      omega
  | k + 1, l => by
    rcases cuts_index l with ⟨h1, h2⟩ | ⟨i, h1, h2⟩
    · have e : Lib.splitK [44] 0 (k + 1) l = [l] := by
        rw [Lib.splitK, if_pos (by rw [Lib.index_one, h1]; rfl)]
      rw [e, h2]
      exact ⟨by simp, fun _ => rfl⟩
    · have e : Lib.splitK [44] 0 (k + 1) l = l.take i :: Lib.splitK [44] 0 k (l.drop (i + 1)) := by
        rw [Lib.splitK, if_neg (by rw [Lib.index_one, h1]; simp), Lib.index_one, h1]
        rfl
      have ih := splitK_cuts k (l.drop (i + 1))
      rw [e, h2]
      refine ⟨by simp [ih.1], fun h => ?_⟩
      rw [List.length_cons] at h
      rw [ih.2 (by omega)]

/-- the parts of a text, as texts -/
def parts (s : ByteArray) : List ByteArray := (cuts s.data.toList).map fun l => ⟨l.toArray⟩
theorem map_back (xs : List ByteArray) : (xs.map fun x => x.data.toList).map (fun l => (⟨l.toArray⟩ : ByteArray)) = xs := by
  rw [List.map_map]
  conv => rhs; rw [← List.map_id xs]
  apply List.map_congr_left
  intro x _
  cases x
  simp
theorem parts_of (s : ByteArray) (ps : List ByteArray) (h : ps.map (fun x => x.data.toList) = cuts s.data.toList) : ps = parts s := by
  unfold parts
  rw [← h, map_back]
theorem parts_length (s : ByteArray) : (parts s).length = (cuts s.data.toList).length := by simp [parts]
theorem parts_le (s : ByteArray) : (parts s).length ≤ s.size + 1 := by
  rw [parts_length, Lib.size_eq]
  exact cuts_length_le _

theorem split_length (s : ByteArray) (k : Nat) : (Lib.splitB ⟨#[44]⟩ 0 k s).length = min (k + 1) (parts s).length := by
  have h := congrArg List.length (Lib.splitB_data ⟨#[44]⟩ 0 k s)
  rw [List.length_map] at h
  rw [h, parts_length]
  exact (splitK_cuts k s.data.toList).1
theorem split_parts (s : ByteArray) (k : Nat) (h : (parts s).length ≤ k + 1) : Lib.splitB ⟨#[44]⟩ 0 k s = parts s := by
  refine parts_of s _ ?_
  have e := Lib.splitB_data ⟨#[44]⟩ 0 k s
  rw [parts_length] at h
  exact e.trans ((splitK_cuts k s.data.toList).2 h)
/-- thirteen parts at most tell as much as all -/
theorem split_set (s : ByteArray) : isSet (Lib.splitB ⟨#[44]⟩ 0 (min 13 (s.size + 1) - 1) s) = isSet (parts s) ∧ (isSet (parts s) = true → Lib.splitB ⟨#[44]⟩ 0 (min 13 (s.size + 1) - 1) s = parts s) := by
  have hle := parts_le s
  by_cases h : (parts s).length ≤ 13
  · have e := split_parts s (min 13 (s.size + 1) - 1) (by omega)
    rw [e]
    exact ⟨rfl, fun _ => rfl⟩
  · have hl := split_length s (min 13 (s.size + 1) - 1)
    have h1 : isSet (parts s) = false := by unfold isSet; rw [decide_eq_false (by omega)]; rfl
    have h2 : isSet (Lib.splitB ⟨#[44]⟩ 0 (min 13 (s.size + 1) - 1) s) = false := by unfold isSet; rw [decide_eq_false (by omega)]; rfl
    rw [h1, h2]
    exact ⟨rfl, fun h => by cases h⟩

/-- is the text the one of no words -/
def isDash (s : ByteArray) : Bool := s.toList == [45]
/-- what ParseSet tells -/
def parseOk (s : ByteArray) : Bool := isDash s || isSet (parts s)
def parseOf (s : ByteArray) : List ByteArray := if isDash s then [] else if isSet (parts s) then parts s else []

end Go.Proofs.YtdcobmgamlhglaaDoor.W
