/-
  WHAT THIS FILE PROVES: plain facts about lists of bytes (words of the letters a, b, c; their beginnings, ends, order and places), with no program in sight; no conditions but those each theorem names.
-/
import Derived.Lib.SlTrimSet
import Derived.Lib.Strings
import Derived.Lib.Bytealg
import Derived.Lib.Small
import GoSem.Op.String
namespace Go.Proofs.Ythkkneboblhmlaa.W

/-- a letter of words -/
def isL (c : UInt8) : Bool := decide (97 ≤ c.toNat ∧ c.toNat ≤ 99)
/-- letters of words alone -/
def isWd (l : List UInt8) : Bool := l.all isL
/-- a word: at most 60 letters -/
def good (l : List UInt8) : Bool := decide (l.length ≤ 60) && isWd l

theorem abc_contains (c : UInt8) : ([97, 98, 99] : List UInt8).contains c = isL c := by
  unfold isL
  have h : ∀ n : Nat, n < 256 → (([97, 98, 99] : List UInt8).contains (UInt8.ofNat n)) = decide (97 ≤ (UInt8.ofNat n).toNat ∧ (UInt8.ofNat n).toNat ≤ 99) := by decide +kernel
  have := h c.toNat c.toNat_lt
  rwa [UInt8.ofNat_toNat] at this

theorem dropWhile_all {α : Type} (p : α → Bool) : ∀ l : List α, l.all p = true → l.dropWhile p = []
  | [], _ => rfl
  | a :: r, h => by
    simp only [List.all_cons, Bool.and_eq_true] at h
    simp only [List.dropWhile, h.1]
    exact dropWhile_all p r h.2

theorem dropWhile_ne {α : Type} (p : α → Bool) : ∀ l : List α, l.all p = false → l.dropWhile p ≠ []
  | [], h => by simp at h
  | a :: r, h => by
    simp only [List.dropWhile]
    cases hp : p a with
    | false => simp
    | true =>
      simp only [List.all_cons, hp, Bool.true_and] at h
      exact dropWhile_ne p r h

theorem dropWhile_any {α : Type} (p : α → Bool) : ∀ l : List α, l.all p = false → (l.dropWhile p).all p = false
  | [], h => by simp at h
  | a :: r, h => by
    simp only [List.dropWhile]
    cases hp : p a with
    | false => simp [hp]
    | true =>
      simp only [List.all_cons, hp, Bool.true_and] at h
      exact dropWhile_any p r h

/-- strings.Trim by the letters a, b, c leaves nothing just of a word's letters -/
theorem trim_abc (l : List UInt8) : (Lib.trimS l [97, 98, 99]).isEmpty = isWd l := by
  have e : (([97, 98, 99] : List UInt8).contains ·) = isL := funext abc_contains
  unfold Lib.trimS Lib.trimLeftS Lib.trimRightS isWd
  rw [e]
  cases h : l.all isL with
  | true =>
    rw [dropWhile_all isL l.reverse (by rw [List.all_reverse]; exact h)]
    rfl
  | false =>
    have h1 : (l.reverse.dropWhile isL).reverse.all isL = false := by
      rw [List.all_reverse]
      exact dropWhile_any isL _ (by rw [List.all_reverse]; exact h)
    have := dropWhile_ne isL _ h1
    cases hd : (l.reverse.dropWhile isL).reverse.dropWhile isL with
    | nil => exact absurd hd this
    | cons a r => rfl

theorem isWd_take_succ (l : List UInt8) (k : Nat) (h : k < l.length) : isWd (l.take (k + 1)) = (isWd (l.take k) && isL l[k]) := by
  unfold isWd
  rw [List.take_succ_eq_append_getElem h, List.all_append]
  simp

theorem isWd_of_take (l : List UInt8) (k : Nat) (h : isWd (l.take k) = false) : isWd l = false := by
  unfold isWd at h ⊢
  rw [List.all_eq_false] at h ⊢
  obtain ⟨x, hx, hp⟩ := h
  exact ⟨x, List.mem_of_mem_take hx, hp⟩

/-- the order of words: the shorter first, of one length the first by letters -/
def less (l m : List UInt8) : Bool := decide (l.length < m.length) || (decide (l.length = m.length) && decide (Lib.compareBytes l m < 0))

theorem compareBytes_neg : ∀ l m : List UInt8, decide (Lib.compareBytes l m < 0) = Op.bytesLess l m
  | [], [] => rfl
  | [], _ :: _ => rfl
  | _ :: _, [] => rfl
  | a :: l, b :: m => by
    have ih := compareBytes_neg l m
    unfold Lib.compareBytes Op.bytesLess
    by_cases h1 : a < b
    · simp [h1]
    · by_cases h2 : b < a
      · have hne : ¬ a = b := fun e => by subst e; exact UInt8.lt_irrefl a h2
        simp [h1, h2, hne]
      · have he : a = b := UInt8.le_antisymm (UInt8.not_lt.1 h2) (UInt8.not_lt.1 h1)
        subst he
        simp [h1, ih]

/-- what the program's comparison of words gives -/
def cw (l m : List UInt8) : Int := if Lib.compareInt l.length m.length = 0 then Lib.compareBytes l m else Lib.compareInt l.length m.length

theorem cw_neg (l m : List UInt8) : decide (cw l m < 0) = less l m := by
  unfold cw less Lib.compareInt
  by_cases h1 : (l.length : Int) < m.length
  · have : l.length < m.length := by omega
    simp [h1, this]
  · by_cases h2 : (m.length : Int) < l.length
    · have h3 : ¬ l.length < m.length := by omega
      have h4 : ¬ l.length = m.length := by omega
      simp [h1, h2, h3, h4]
    · have h3 : ¬ l.length < m.length := by omega
      have h4 : l.length = m.length := by omega
      simp [h4]

/-- at how many of the first k places m is within l -/
def cnt (l m : List UInt8) (k : Nat) : Nat := ((List.range k).filter fun i => Lib.hasPrefix (l.drop i) m).length
theorem cnt_zero (l m : List UInt8) : cnt l m 0 = 0 := rfl
theorem cnt_succ (l m : List UInt8) (k : Nat) : cnt l m (k + 1) = cnt l m k + if Lib.hasPrefix (l.drop k) m then 1 else 0 := by
  unfold cnt
  rw [List.range_succ, List.filter_append, List.length_append]
  cases h : Lib.hasPrefix (l.drop k) m <;> simp [h]
theorem cnt_le (l m : List UInt8) (k : Nat) : cnt l m k ≤ k := by
  unfold cnt
  have := List.length_filter_le (fun i => Lib.hasPrefix (l.drop i) m) (List.range k)
  simpa using this
/-- what CountIn tells -/
def countIn (l m : List UInt8) : Nat := if good l && good m && !m.isEmpty then cnt l m l.length else 0

/-- the lengths below k, not 0, of beginnings of l that are its ends -/
def bord (l : List UInt8) (k : Nat) : List Int := ((List.range k).filter fun i => decide (1 ≤ i) && Lib.hasSuffix l (l.take i)).map fun (i : Nat) => (i : Int)
theorem bord_one (l : List UInt8) : bord l 1 = [] := by simp [bord, List.range_succ]
theorem bord_succ (l : List UInt8) (k : Nat) (h : 1 ≤ k) : bord l (k + 1) = bord l k ++ if Lib.hasSuffix l (l.take k) then [(k : Int)] else [] := by
  unfold bord
  rw [List.range_succ, List.filter_append, List.map_append]
  cases hq : Lib.hasSuffix l (l.take k) <;> simp [hq, h]
theorem bord_length (l : List UInt8) (k : Nat) : (bord l k).length ≤ k := by
  unfold bord
  rw [List.length_map]
  have := List.length_filter_le (fun i => decide (1 ≤ i) && Lib.hasSuffix l (l.take i)) (List.range k)
  simpa using this
/-- what BordersOf tells -/
def bordersOf (l : List UInt8) : List Int := if good l then bord l l.length else []

/-- the numbers of the letters a, b and c -/
def lets (l : List UInt8) : List Int := [(l.count 97 : Nat), (l.count 98 : Nat), (l.count 99 : Nat)]
/-- what LettersOf tells -/
def lettersOf (l : List UInt8) : List Int := if good l then lets l else []
theorem count_take_succ (l : List UInt8) (k : Nat) (h : k < l.length) (c : UInt8) : (l.take (k + 1)).count c = (l.take k).count c + if l[k] = c then 1 else 0 := by
  rw [List.take_succ_eq_append_getElem h, List.count_append]
  by_cases e : l[k] = c <;> simp [e]
theorem isL_cases (c : UInt8) (h : isL c = true) : c = 97 ∨ c = 98 ∨ c = 99 := by
  unfold isL at h
  simp only [decide_eq_true_eq] at h
  rcases (by omega : c.toNat = 97 ∨ c.toNat = 98 ∨ c.toNat = 99) with e | e | e
  · exact .inl (UInt8.toNat_inj.1 e)
  · exact .inr (.inl (UInt8.toNat_inj.1 e))
  · exact .inr (.inr (UInt8.toNat_inj.1 e))

end Go.Proofs.Ythkkneboblhmlaa.W
