/-
  WHAT THIS FILE PROVES: plain facts on the weights with a sum of at most a number, in order, and the first ones for which a set weighs too much; no program in sight.
-/
import Derived.Test.YthhiegcdocjfkaaDoorSw
namespace Go.Proofs.YthhiegcdocjfkaaDoor.W

/-- the weights of a first and a second letter, the third one's below c -/
def blC (a b c : Nat) : List (List Int) := (List.range c).map fun (k : Nat) => [(a : Int), (b : Int), (k : Int)]
def blB (m a b : Nat) : List (List Int) := (List.range b).flatMap fun (k : Nat) => blC a k (m - a - k + 1)
def blA (m a : Nat) : List (List Int) := (List.range a).flatMap fun (k : Nat) => blB m k (m - k + 1)
/-- all that come before three numbers -/
def pre (m a b c : Nat) : List (List Int) := blA m a ++ (blB m a b ++ blC a b c)
def allW (m : Nat) : List (List Int) := blA m (m + 1)
theorem blC_succ (a b c : Nat) : blC a b (c + 1) = blC a b c ++ [[(a : Int), (b : Int), (c : Int)]] := by
  unfold blC
  rw [List.range_succ, List.map_append]
  rfl
theorem pre_zero (m : Nat) : pre m 0 0 0 = [] := rfl
theorem pre_c (m a b c : Nat) : pre m a b (c + 1) = pre m a b c ++ [[(a : Int), (b : Int), (c : Int)]] := by
  unfold pre
  rw [blC_succ, List.append_assoc, List.append_assoc]
theorem pre_b (m a b : Nat) : pre m a b (m - a - b + 1) = pre m a (b + 1) 0 := by
  unfold pre blB
  rw [List.range_succ, List.flatMap_append]
  simp [blC]
theorem pre_a (m a : Nat) : pre m a (m - a + 1) 0 = pre m (a + 1) 0 0 := by
  unfold pre blA
  rw [List.range_succ, List.flatMap_append]
  simp [blC, blB]
theorem pre_all (m : Nat) : pre m (m + 1) 0 0 = allW m := by
  unfold pre allW
  simp [blB, blC]
theorem pre_in : ∀ m, m < 7 → ∀ a, a < 7 → ∀ b, b < 7 → ∀ c, c < 7 → a + b + c ≤ m → (pre m a b (c + 1)).isPrefixOf (allW m) = true := by decide +kernel
theorem all_head : ∀ m, m < 7 → ∃ l, allW m = [0, 0, 0] :: l ∧ (l.all wtB = true) ∧ l.length ≤ 83 := by
  intro m hm
  refine ⟨(allW m).tail, ?_, ?_, ?_⟩
  · revert m; decide +kernel
  · revert m; decide +kernel
  · revert m; decide +kernel
theorem pre_len {m a b c : Nat} (hm : m < 7) (ha : a ≤ m + 1) (hb : b ≤ m - a + 1) (hc : c ≤ m - a - b + 1) : (pre m a b c).length ≤ 600 := by
  revert m a b c
  have h : ∀ m, m < 7 → ∀ a, a < 8 → ∀ b, b < 8 → ∀ c, c < 8 → (pre m a b c).length ≤ 600 := by decide +kernel
  intro m a b c hm ha hb hc
  exact h m hm a (by omega) b (by omega) c (by omega)
/-- a set weighs more than 1 -/
def heavy (ss : List ByteArray) (x : List Int) : Bool := decide ((low (suL x oneT ss) (wtT x ^ 8)).2 < (low (suL x oneT ss) (wtT x ^ 8)).1)
def heavyW (ss : List ByteArray) (x : List Int) : Bool := wtB x && heavy ss x
def fhFind (ss : List ByteArray) (n : Int) : Option (List Int) := (allW n.toNat).find? (heavyW ss)
def fhAsk (ss : List ByteArray) (n : Int) : Bool := isSet ss && decide (1 ≤ n ∧ n ≤ 6)
def fhOk (ss : List ByteArray) (n : Int) : Bool := fhAsk ss n && (fhFind ss n).isSome
def fhOf (ss : List ByteArray) (n : Int) : List Int := if fhAsk ss n then (fhFind ss n).getD [] else []
theorem fh_no {ss : List ByteArray} {n : Int} (h : fhAsk ss n = false) : fhOf ss n = [] ∧ fhOk ss n = false := by
  unfold fhOf fhOk
  rw [h]
  exact ⟨rfl, rfl⟩
theorem fh_some {ss : List ByteArray} {n : Int} {x : List Int} (h : fhAsk ss n = true) (hf : fhFind ss n = some x) : fhOf ss n = x ∧ fhOk ss n = true := by
  unfold fhOf fhOk
  rw [h, hf]
  exact ⟨rfl, rfl⟩
theorem fh_none {ss : List ByteArray} {n : Int} (h : fhAsk ss n = true) (hf : fhFind ss n = none) : fhOf ss n = [] ∧ fhOk ss n = false := by
  unfold fhOf fhOk
  rw [h, hf]
  exact ⟨rfl, rfl⟩
theorem find_prefix {α : Type} {p : α → Bool} {l r : List α} {x : α} (hp : l <+: r) (hf : l.find? p = some x) : r.find? p = some x := by
  obtain ⟨t, rfl⟩ := hp
  rw [List.find?_append, hf]
  rfl
theorem find_snoc {α : Type} {p : α → Bool} {l : List α} {x : α} (h : l.find? p = none) : (l ++ [x]).find? p = if p x then some x else none := by
  rw [List.find?_append, h]
  cases hx : p x <;> simp [hx]
/-- three numbers that weigh too much, none before -/
theorem fh_at {ss : List ByteArray} {m a b c : Nat} (hm : m < 7) (hs : a + b + c ≤ m) (hn : (pre m a b c).find? (heavyW ss) = none) (hh : heavyW ss [(a : Int), (b : Int), (c : Int)] = true) : fhFind ss m = some [(a : Int), (b : Int), (c : Int)] := by
  unfold fhFind
  rw [Int.toNat_natCast]
  refine find_prefix (List.isPrefixOf_iff_prefix.1 (pre_in m hm a (by omega) b (by omega) c (by omega) hs)) ?_
  rw [pre_c, find_snoc hn, if_pos hh]
theorem fh_step {ss : List ByteArray} {m a b c : Nat} (hn : (pre m a b c).find? (heavyW ss) = none) (hh : heavyW ss [(a : Int), (b : Int), (c : Int)] = false) : (pre m a b (c + 1)).find? (heavyW ss) = none := by
  rw [pre_c, find_snoc hn, hh]
  rfl
theorem fh_end {ss : List ByteArray} {m : Nat} (hn : (pre m (m + 1) 0 0).find? (heavyW ss) = none) : fhFind ss m = none := by
  unfold fhFind
  rw [Int.toNat_natCast, ← pre_all]
  exact hn
theorem fhOf_len (ss : List ByteArray) (n : Int) : (fhOf ss n).length ≤ 3 := by
  unfold fhOf fhFind
  split
  · cases hf : (allW n.toNat).find? (heavyW ss) with
    | none => simp
    | some x =>
      have h := List.find?_some hf
      unfold heavyW at h
      rw [Bool.and_eq_true] at h
      obtain ⟨a, b, c, rfl, _⟩ := wtB_nat h.1
      simp
  · simp
/-- the weights behind the first three numbers, one by one -/
theorem fh_list {ss : List ByteArray} {m : Nat} {l : List (List Int)} (he : allW m = [0, 0, 0] :: l) : fhFind ss m = l.find? (heavyW ss) := by
  unfold fhFind
  rw [Int.toNat_natCast, he, List.find?_cons]
  have h0 : heavyW ss [0, 0, 0] = false := rfl
  rw [h0]
theorem find_at {p : List Int → Bool} {l : List (List Int)} {k : Nat} {x : List Int} (hn : (l.take k).find? p = none) (hk : l[k]? = some x) (hp : p x = true) : l.find? p = some x := by
  obtain ⟨h1, h2⟩ := List.getElem?_eq_some_iff.1 hk
  refine find_prefix (List.take_prefix (k + 1) l) ?_
  rw [List.take_succ_eq_append_getElem h1, find_snoc hn, h2, if_pos hp]
theorem find_next {p : List Int → Bool} {l : List (List Int)} {k : Nat} {x : List Int} (hn : (l.take k).find? p = none) (hk : l[k]? = some x) (hp : p x = false) : (l.take (k + 1)).find? p = none := by
  obtain ⟨h1, h2⟩ := List.getElem?_eq_some_iff.1 hk
  rw [List.take_succ_eq_append_getElem h1, find_snoc hn, h2, hp]
  rfl
end Go.Proofs.YthhiegcdocjfkaaDoor.W
