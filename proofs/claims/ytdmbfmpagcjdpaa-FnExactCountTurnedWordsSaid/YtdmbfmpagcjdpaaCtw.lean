/-
  WHAT THIS FILE PROVES: how many words of n letters are less than all of their turns, and that these are the words that are no power, counted with their turns as one; no program in sight.
-/
import Derived.Test.YtdmbfmpagcjdpaaKrT
import Derived.Lib.IndexBytes
namespace Go.Proofs.Ytdmbfmpagcjdpaa

/-- the word from k on, and what is in front of it -/
def rot (s : ByteArray) (k : Nat) : ByteArray := s.extract k s.size ++ s.extract 0 k
/-- not more than, as texts -/
def leB (x y : ByteArray) : Bool := Op.bytesLess x.toList y.toList || (x.toList == y.toList)
/-- less than its first turns -/
def twTo (s : ByteArray) (k : Nat) : Bool := (List.range k).all fun j => decide (j = 0) || !leB (rot s j) s
theorem twTo_one (s : ByteArray) : twTo s 1 = true := rfl
theorem twTo_succ (s : ByteArray) (k : Nat) (h : 1 ≤ k) : twTo s (k + 1) = (twTo s k && !leB (rot s k) s) := by
  unfold twTo
  rw [List.range_succ, List.all_append]
  simp [show ¬ k = 0 by omega]
theorem twTo_no (s : ByteArray) (k n : Nat) (h : k ≤ n) (hf : twTo s k = false) : twTo s n = false := W.all_mono _ k n h hf
def twd (s : ByteArray) : Bool := twTo s s.size
/-- the same of a list of bytes -/
def twL (l : List UInt8) : Bool := (List.range l.length).all fun j => decide (j = 0) || !(Op.bytesLess (l.drop j ++ l.take j) l || ((l.drop j ++ l.take j) == l))
theorem rot_data (s : ByteArray) (k : Nat) : (rot s k).data.toList = s.data.toList.drop k ++ s.data.toList.take k := by
  unfold rot
  rw [ByteArray.data_append, Array.toList_append, Lib.extract_to_end, Lib.extract_eq]
  rfl
theorem twd_list (s : ByteArray) : twd s = twL s.data.toList := by
  unfold twd twTo twL leB
  rw [← Lib.size_eq]
  congr 1
  funext j
  rw [Lib.toList_data, Lib.toList_data, rot_data]
/-- how many of the first m words of n letters are less than all of their turns -/
def ctTo (L n : Nat) : Nat → Nat
  | 0 => 0
  | m + 1 => ctTo L n m + if twd (txtB L m n) then 1 else 0
def ctL (L n : Nat) : Nat → Nat
  | 0 => 0
  | m + 1 => ctL L n m + if twL (txt L m n) then 1 else 0
theorem ctTo_list (L n : Nat) : ∀ m, ctTo L n m = ctL L n m
  | 0 => rfl
  | m + 1 => by
    show ctTo L n m + _ = ctL L n m + _
    rw [ctTo_list L n m, twd_list]
    rfl
theorem ctTo_le (L n : Nat) : ∀ m, ctTo L n m ≤ m
  | 0 => Nat.le_refl _
  | m + 1 => by
    have := ctTo_le L n m
    show ctTo L n m + (if _ then 1 else 0) ≤ _
    split <;> omega
/-- how many words of n letters are no power of a shorter one -/
def once (L n : Nat) : Nat := ((if L = 2 then [0, 2, 2, 6, 12, 30, 54, 126, 240] else [0, 3, 6, 24, 72, 240, 696, 2184, 6480]) : List Nat).getD n 0
/-- the words of n letters without the powers of those of less than k letters -/
def onceTo (L n : Nat) : Nat → Nat
  | 0 => L ^ n
  | k + 1 => if 1 ≤ k ∧ n % k = 0 then onceTo L n k - once L k else onceTo L n k
set_option maxRecDepth 100000 in
theorem once2a : ∀ n, n < 8 → onceTo 2 (n + 1) (n + 1) = once 2 (n + 1) := by decide +kernel
set_option maxRecDepth 100000 in
theorem once2b : ∀ n, n < 8 → ∀ k, k < 9 → onceTo 2 (n + 1) k ≤ 6561 := by decide +kernel
set_option maxRecDepth 100000 in
theorem once2c : ∀ n, n < 8 → ∀ k, k < 9 → k ≤ n + 1 → (n + 1) % k = 0 → once 2 k ≤ onceTo 2 (n + 1) k := by decide +kernel
set_option maxRecDepth 100000 in
theorem once3a : ∀ n, n < 8 → onceTo 3 (n + 1) (n + 1) = once 3 (n + 1) := by decide +kernel
set_option maxRecDepth 100000 in
theorem once3b : ∀ n, n < 8 → ∀ k, k < 9 → onceTo 3 (n + 1) k ≤ 6561 := by decide +kernel
set_option maxRecDepth 100000 in
theorem once3c : ∀ n, n < 8 → ∀ k, k < 9 → k ≤ n + 1 → (n + 1) % k = 0 → once 3 k ≤ onceTo 3 (n + 1) k := by decide +kernel
set_option maxRecDepth 1000000 in
theorem ct2 : ∀ n, n < 8 → ctL 2 (n + 1) (2 ^ (n + 1)) = once 2 (n + 1) / (n + 1) := by decide +kernel
set_option maxRecDepth 1000000 in
theorem ct3a : ∀ n, n < 6 → ctL 3 (n + 1) (3 ^ (n + 1)) = once 3 (n + 1) / (n + 1) := by decide +kernel
set_option maxRecDepth 1000000 in
theorem ct37 : ctL 3 7 (3 ^ 7) = once 3 7 / 7 := by decide +kernel
set_option maxRecDepth 1000000 in
theorem ct38 : ctL 3 8 (3 ^ 8) = once 3 8 / 8 := by decide +kernel
theorem ct_once {L n : Nat} (hL : L = 2 ∨ L = 3) (h1 : 1 ≤ n) (h8 : n ≤ 8) : ctTo L n (L ^ n) = once L n / n := by
  rw [ctTo_list]
  obtain ⟨m, rfl⟩ : ∃ m, n = m + 1 := ⟨n - 1, by omega⟩
  rcases hL with rfl | rfl
  · exact ct2 m (by omega)
  · by_cases h : m < 6
    · exact ct3a m h
    · rcases (by omega : m = 6 ∨ m = 7) with rfl | rfl
      · exact ct37
      · exact ct38
theorem once_parts {L n : Nat} (hL : L = 2 ∨ L = 3) (h1 : 1 ≤ n) (h8 : n ≤ 8) : onceTo L n n = once L n ∧ ∀ k, k ≤ n → onceTo L n k ≤ 6561 ∧ (n % k = 0 → once L k ≤ onceTo L n k) := by
  obtain ⟨m, rfl⟩ : ∃ m, n = m + 1 := ⟨n - 1, by omega⟩
  rcases hL with rfl | rfl
  · exact ⟨once2a m (by omega), fun k hk => ⟨once2b m (by omega) k (by omega), once2c m (by omega) k (by omega) hk⟩⟩
  · exact ⟨once3a m (by omega), fun k hk => ⟨once3b m (by omega) k (by omega), once3c m (by omega) k (by omega) hk⟩⟩
def ctOk (L n : Int) : Bool := W.krLet L && decide (1 ≤ n ∧ n ≤ 8)
/-- what CountTurnedWords tells -/
def ctOf (L n : Int) : Nat := if ctOk L n then once L.toNat n.toNat / n.toNat else 0
theorem ctOf_no {L n : Int} (h : ctOk L n = false) : ctOf L n = 0 := by unfold ctOf; rw [h]; rfl
theorem ctOf_yes {L n : Nat} (h : ctOk (L : Int) (n : Int) = true) : ctOf (L : Int) (n : Int) = once L n / n := by unfold ctOf; rw [h]; rfl
end Go.Proofs.Ytdmbfmpagcjdpaa
