/-
  WHAT THIS FILE PROVES: plain facts on the set that is made of all words of n letters, each taken if the set is comma free with it; no program in sight.
-/
import Derived.Test.YtdmbfmpagcjdpaaIns
import Derived.Test.YtdmbfmpagcjdpaaShk
import Derived.Test.YtdmbfmpagcjdpaaKrT
namespace Go.Proofs.Ytdmbfmpagcjdpaa

/-- all words of n letters -/
def wlen (L : Nat) : Nat → List ByteArray
  | 0 => [⟨#[]⟩]
  | n + 1 => (wlen L n).flatMap fun s => kids s L
/-- those behind the first k words of n letters -/
def wlTo (L n k : Nat) : List ByteArray := ((wlen L n).take k).flatMap fun s => kids s L
theorem wlTo_succ (L n k : Nat) (h : k < (wlen L n).length) : wlTo L n (k + 1) = wlTo L n k ++ kids (W.nth (wlen L n) k) L := by
  unfold wlTo
  rw [List.take_succ_eq_append_getElem h, List.flatMap_append, W.nth_lt _ k h]
  simp
theorem wlTo_all (L n : Nat) : wlTo L n (wlen L n).length = wlen L (n + 1) := by
  unfold wlTo
  rw [List.take_length]
  rfl
theorem kids_sum (L : Nat) : ∀ l : List ByteArray, (l.flatMap fun s => kids s L).length = l.length * L
  | [] => by simp
  | a :: r => by
    rw [List.flatMap_cons, List.length_append, kids_len, kids_sum L r, List.length_cons, Nat.add_mul]
    omega
theorem wlTo_len (L n k : Nat) (h : k ≤ (wlen L n).length) : (wlTo L n k).length = k * L := by
  unfold wlTo
  rw [kids_sum, List.length_take, Nat.min_eq_left h]
theorem wlen_len (L : Nat) : ∀ n, (wlen L n).length = L ^ n
  | 0 => rfl
  | n + 1 => by
    show ((wlen L n).flatMap fun s => kids s L).length = _
    rw [kids_sum, wlen_len L n, Nat.pow_succ]
set_option maxRecDepth 1000000 in
theorem wlen_two : ∀ n, n < 5 → (wlen 2 n).map (fun s => s.data.toList) = (List.range (2 ^ n)).map fun i => txt 2 i n := by decide +kernel
set_option maxRecDepth 1000000 in
theorem wlen_three : ∀ n, n < 5 → (wlen 3 n).map (fun s => s.data.toList) = (List.range (3 ^ n)).map fun i => txt 3 i n := by decide +kernel
theorem wlen_nth {L n : Nat} (hL : L = 2 ∨ L = 3) (h4 : n ≤ 4) (i : Nat) (hi : i < L ^ n) : W.nth (wlen L n) i = txtB L i n := by
  have h : (wlen L n).map (fun s => s.data.toList) = (List.range (L ^ n)).map fun i => txt L i n := by
    rcases hL with rfl | rfl
    · exact wlen_two n (by omega)
    · exact wlen_three n (by omega)
  have h1 : i < (wlen L n).length := by rw [wlen_len]; exact hi
  have h2 : ((wlen L n).map (fun s => s.data.toList))[i]? = ((List.range (L ^ n)).map fun i => txt L i n)[i]? := by rw [h]
  rw [List.getElem?_map, List.getElem?_map, List.getElem?_eq_getElem h1, List.getElem?_range hi] at h2
  rw [W.nth_lt _ i h1]
  refine data_inj ?_
  simpa [txtB] using h2
/-- the set behind the first k words of n letters -/
def fcTo (L n : Nat) : Nat → List ByteArray
  | 0 => []
  | k + 1 => if (fcTo L n k).length < 12 ∧ (inS (fcTo L n k ++ [txtB L k n])).isSome = false then fcTo L n k ++ [txtB L k n] else fcTo L n k
theorem fcTo_yes {L n k : Nat} (h1 : (fcTo L n k).length < 12) (h2 : (inS (fcTo L n k ++ [txtB L k n])).isSome = false) : fcTo L n (k + 1) = fcTo L n k ++ [txtB L k n] := by
  rw [fcTo, if_pos ⟨h1, h2⟩]
theorem fcTo_no {L n k : Nat} (h : (inS (fcTo L n k ++ [txtB L k n])).isSome = true) : fcTo L n (k + 1) = fcTo L n k := by
  rw [fcTo, if_neg (fun e => by rw [h] at e; cases e.2)]
theorem fcTo_full {L n k : Nat} (h : ¬ (fcTo L n k).length < 12) : fcTo L n (k + 1) = fcTo L n k := by
  rw [fcTo, if_neg (fun e => h e.1)]
theorem fcTo_stays {L n k : Nat} (h : ¬ (fcTo L n k).length < 12) : ∀ d, fcTo L n (k + d) = fcTo L n k
  | 0 => rfl
  | d + 1 => by
    have ih := fcTo_stays h d
    rw [show k + (d + 1) = k + d + 1 by omega, fcTo_full (by rw [ih]; exact h), ih]
theorem fcTo_len (L n : Nat) : ∀ k, (fcTo L n k).length ≤ 12
  | 0 => Nat.zero_le _
  | k + 1 => by
    have := fcTo_len L n k
    rw [fcTo]
    split
    · rename_i h
      rw [List.length_append]
      simp
      omega
    · exact this
theorem fcTo_mem (L n : Nat) : ∀ k, ∀ s ∈ fcTo L n k, s.size = n
  | 0, s, h => by cases h
  | k + 1, s, h => by
    rw [fcTo] at h
    split at h
    · rcases List.mem_append.1 h with h | h
      · exact fcTo_mem L n k s h
      · simp at h
        subst h
        exact txtB_size L k n
    · exact fcTo_mem L n k s h
theorem fcNext_size (L n k : Nat) (i : Nat) (hi : i < (fcTo L n k ++ [txtB L k n]).length) : (W.nth (fcTo L n k ++ [txtB L k n]) i).size = n := by
  rw [W.nth_lt _ i hi]
  have := List.getElem_mem hi
  rcases List.mem_append.1 this with h | h
  · exact fcTo_mem L n k _ h
  · simp only [List.mem_singleton] at h
    rw [h]
    exact txtB_size L k n
def fcfOk (L n : Int) : Bool := W.krLet L && decide (1 ≤ n ∧ n ≤ 4)
/-- what FirstCommaFree tells -/
def fcfOf (L n : Int) : List ByteArray := if fcfOk L n then fcTo L.toNat n.toNat (L.toNat ^ n.toNat) else []
theorem fcfOf_no {L n : Int} (h : fcfOk L n = false) : fcfOf L n = [] := by unfold fcfOf; rw [h]; rfl
theorem fcfOf_yes {L n : Nat} (h : fcfOk (L : Int) (n : Int) = true) : fcfOf (L : Int) (n : Int) = fcTo L n (L ^ n) := by unfold fcfOf; rw [h]; rfl
theorem fcfOf_len (L n : Int) : (fcfOf L n).length ≤ 1048576 := by
  unfold fcfOf
  split
  · have := fcTo_len L.toNat n.toNat (L.toNat ^ n.toNat); omega
  · exact Nat.zero_le _
theorem pow_le81 {L n : Nat} (hL : L = 2 ∨ L = 3) (h4 : n ≤ 4) : L ^ n ≤ 81 := by
  rcases hL with rfl | rfl
  · have := Nat.pow_le_pow_right (show 0 < 2 by omega) h4
    omega
  · have := Nat.pow_le_pow_right (show 0 < 3 by omega) h4
    omega
end Go.Proofs.Ytdmbfmpagcjdpaa
