/-
  WHAT THIS FILE PROVES: plain facts on the first prefix set with given lengths: words as digits of numbers, and what has been taken before each; no program in sight.
-/
import Derived.Test.YthkkneboblhmlaaKr
import Derived.Test.YthkkneboblhmlaaMemS
namespace Go.Proofs.Ythkkneboblhmlaa
open Go.RowKit

/-- the letter of a digit -/
def lt (d : Nat) : UInt8 := UInt8.ofNat (97 + d)
/-- a number's last digits as a word -/
def txt (L n : Nat) : Nat → List UInt8
  | 0 => []
  | k + 1 => lt (n / L ^ k % L) :: txt L n k
theorem txt_length (L n : Nat) : ∀ l, (txt L n l).length = l
  | 0 => rfl
  | l + 1 => by show (txt L n l).length + 1 = _; rw [txt_length L n l]
theorem txt_get (L n : Nat) : ∀ l k, k < l → (txt L n l)[k]? = some (lt (n / L ^ (l - 1 - k) % L))
  | 0, k, h => by omega
  | l + 1, 0, _ => rfl
  | l + 1, k + 1, h => by
    show (txt L n l)[k]? = _
    rw [txt_get L n l k (by omega), show l - 1 - k = l + 1 - 1 - (k + 1) by omega]
theorem txt_take (L n l k : Nat) (h : k < l) : (txt L n l).take (k + 1) = (txt L n l).take k ++ [lt (n / L ^ (l - 1 - k) % L)] := by
  have h1 := txt_get L n l k h
  have hl : k < (txt L n l).length := by rw [txt_length]; exact h
  rw [List.take_succ_eq_append_getElem hl]
  rw [List.getElem?_eq_getElem hl] at h1
  rw [Option.some.inj h1]
def txtB (L n l : Nat) : ByteArray := ⟨(txt L n l).toArray⟩
theorem txtB_size (L n l : Nat) : (txtB L n l).size = l := by
  show (txt L n l).toArray.size = l
  rw [List.size_toArray, txt_length]
theorem abc_at (d : Nat) (h : d < 3) : (⟨#[97, 98, 99]⟩ : ByteArray).extract d (d + 1) = ⟨#[lt d]⟩ := by
  match d, h with
  | 0, _ => rfl
  | 1, _ => rfl
  | 2, _ => rfl
theorem txtB_succ (L n k : Nat) (h2 : 2 ≤ L) (h3 : L ≤ 3) : (⟨#[97, 98, 99]⟩ : ByteArray).extract (n / L ^ k % L) (n / L ^ k % L + 1) ++ txtB L n k = txtB L n (k + 1) := by
  have := Nat.mod_lt (n / L ^ k) (show L > 0 by omega)
  rw [abc_at _ (by omega)]
  apply ByteArray.ext
  apply Array.toList_inj.1
  rw [ByteArray.data_append, Array.toList_append]
  rfl
/-- what has been taken before the word with the index i -/
def took (L : Nat) (z : List Int) (i : Nat) : Nat := W.shares L (z.take i)
theorem took_succ (L : Nat) (z : List Int) (i : Nat) (h : i < z.length) : took L z (i + 1) = took L z i + W.part L z[i] := W.shares_succ L z i h
/-- the number of that word among those of its length -/
def numAt (L : Nat) (z : List Int) (i : Nat) : Nat := took L z i / W.part L (z.getD i 0)
/-- the word with the index i -/
def wordAt (L : Nat) (z : List Int) (i : Nat) : ByteArray := txtB L (numAt L z i) (z.getD i 0).toNat
def fpTo (L : Nat) (z : List Int) (i : Nat) : List ByteArray := (List.range i).map (wordAt L z)
theorem fpTo_succ (L : Nat) (z : List Int) (i : Nat) : fpTo L z (i + 1) = fpTo L z i ++ [wordAt L z i] := by
  unfold fpTo
  rw [List.range_succ, List.map_append]
  rfl
theorem fpTo_length (L : Nat) (z : List Int) (i : Nat) : (fpTo L z i).length = i := by simp [fpTo]
/-- the parts of greater lengths divide those of lesser ones -/
theorem part_split (L : Nat) (a b : Int) (h1 : 0 ≤ a) (h2 : a ≤ b) (h8 : b ≤ 8) : W.part L a = L ^ (b - a).toNat * W.part L b := by
  unfold W.part
  rw [← Nat.pow_add]
  congr 1
  omega
/-- the next number, when words get longer -/
theorem next_mul (L : Nat) (h2 : 2 ≤ L) (T nx : Nat) (a b : Int) (h1 : 0 ≤ a) (hab : a ≤ b) (h8 : b ≤ 8) (h : nx * W.part L a = T) : nx * L ^ (b - a).toNat * W.part L b = T ∧ nx * L ^ (b - a).toNat = T / W.part L b := by
  have e : nx * L ^ (b - a).toNat * W.part L b = T := by rw [Nat.mul_assoc, ← part_split L a b h1 hab h8, h]
  have hp : 0 < W.part L b := Nat.pow_pos (by omega)
  refine ⟨e, ?_⟩
  rw [← e, Nat.mul_div_cancel _ hp]
/-- a digit of what has been taken is one of the number -/
theorem digit_eq (L T : Nat) (l : Int) (k : Nat) (h1 : 1 ≤ l) (h8 : l ≤ 8) (hk : k < l.toNat) : T / W.part L ((k : Int) + 1) % L = (T / W.part L l) / L ^ (l.toNat - 1 - k) % L := by
  unfold W.part
  rw [Nat.div_div_eq_div_mul, ← Nat.pow_add]
  congr 3
  omega
/-- each length is no less than the one before -/
theorem list_up {z : List Int} {L : Int} (h : W.krList z L = true) (i : Nat) (hi : i + 1 < z.length) : z.getD i 0 ≤ z.getD (i + 1) 0 := W.up_le (W.krList_parts h).2.2.2 1 i hi
theorem getD_at (z : List Int) (i : Nat) (h : i < z.length) : z.getD i 0 = z[i] := by rw [List.getD_eq_getElem?_getD, List.getElem?_eq_getElem h]; rfl
/-- lengths are those of some prefix set -/
def cbOf (z : List Int) (L : Int) : Bool := W.krList z L && decide (W.shares L.toNat z ≤ L.toNat ^ 8)
/-- the first prefix set with given lengths -/
def fpOf (z : List Int) (L : Int) : List ByteArray := if cbOf z L then fpTo L.toNat z z.length else []
theorem fpOf_no {z : List Int} {L : Int} (h : cbOf z L = false) : fpOf z L = [] := by unfold fpOf; rw [h]; rfl
theorem fpOf_yes {z : List Int} {L : Int} (h : cbOf z L = true) : fpOf z L = fpTo L.toNat z z.length := by unfold fpOf; rw [h]; rfl
theorem fpOf_len (z : List Int) (L : Int) : (fpOf z L).length ≤ 1048576 := by
  cases h : cbOf z L
  · rw [fpOf_no h]; simp
  · rw [fpOf_yes h, fpTo_length]
    unfold cbOf at h
    rw [Bool.and_eq_true] at h
    have := (W.krList_parts h.1).2.1
    omega
/-- words of a length that have no word of the set in front -/
def sub (L : Nat) (n : Int) (z : List Int) : Nat := (z.map fun l => L ^ (n - l).toNat).sum
theorem sub_succ (L : Nat) (n : Int) (z : List Int) (k : Nat) (h : k < z.length) : sub L n (z.take (k + 1)) = sub L n (z.take k) + L ^ (n - z[k]).toNat := by
  unfold sub
  rw [List.take_succ_eq_append_getElem h, List.map_append, List.sum_append]
  simp
theorem sub_shares (L : Nat) (n : Int) (h1 : 1 ≤ n) (h8 : n ≤ 8) : ∀ z : List Int, (∀ l ∈ z, 1 ≤ l ∧ l ≤ n) → sub L n z * W.part L n = W.shares L z
  | [], _ => by simp [sub, W.shares]
  | a :: z, h => by
    have ih := sub_shares L n h1 h8 z (fun l hl => h l (List.mem_cons_of_mem _ hl))
    have ha := h a (List.mem_cons_self ..)
    have e := part_split L a n (by omega) ha.2 h8
    show (L ^ (n - a).toNat + sub L n z) * W.part L n = W.part L a + W.shares L z
    rw [Nat.add_mul, ih, e]
theorem whole_split (L : Nat) (n : Int) (h1 : 0 ≤ n) (h8 : n ≤ 8) : L ^ 8 = L ^ n.toNat * W.part L n := by
  unfold W.part
  rw [← Nat.pow_add]
  congr 1
  omega
/-- room that is left, told by parts -/
theorem room_eq (L : Nat) (h2 : 2 ≤ L) (n : Int) (h1 : 1 ≤ n) (h8 : n ≤ 8) (z : List Int) (hz : ∀ l ∈ z, 1 ≤ l ∧ l ≤ n) (_ : W.shares L z ≤ L ^ 8) : (L ^ 8 - W.shares L z) / W.part L n = L ^ n.toNat - sub L n z := by
  have hp : 0 < W.part L n := Nat.pow_pos (by omega)
  rw [← sub_shares L n h1 h8 z hz, whole_split L n (by omega) h8, ← Nat.sub_mul, Nat.mul_div_cancel _ hp]
theorem sub_le (L : Nat) (h2 : 2 ≤ L) (n : Int) (h1 : 1 ≤ n) (h8 : n ≤ 8) (z : List Int) (hz : ∀ l ∈ z, 1 ≤ l ∧ l ≤ n) (hf : W.shares L z ≤ L ^ 8) : sub L n z ≤ L ^ n.toNat := by
  have hp : 0 < W.part L n := Nat.pow_pos (by omega)
  rw [← sub_shares L n h1 h8 z hz, whole_split L n (by omega) h8] at hf
  exact Nat.le_of_mul_le_mul_right hf hp
/-- no length is greater -/
def allUpTo (z : List Int) (n : Int) : Bool := z.all fun l => decide (l ≤ n)
def rmOk (z : List Int) (L n : Int) : Bool := cbOf z L && (decide (1 ≤ n ∧ n ≤ 8) && allUpTo z n)
def rmOf (z : List Int) (L n : Int) : Nat := if rmOk z L n then L.toNat ^ n.toNat - sub L.toNat n z else 0
theorem rmOf_no {z : List Int} {L n : Int} (h : rmOk z L n = false) : rmOf z L n = 0 := by unfold rmOf; rw [h]; rfl
theorem rmOf_yes {z : List Int} {L n : Int} (h : rmOk z L n = true) : rmOf z L n = L.toNat ^ n.toNat - sub L.toNat n z := by unfold rmOf; rw [h]; rfl
theorem allUpTo_mem {z : List Int} {L n : Int} (hk : W.krList z L = true) (h : allUpTo z n = true) : ∀ l ∈ z, 1 ≤ l ∧ l ≤ n := fun l hl => by
  have h1 := List.all_eq_true.1 h l hl
  obtain ⟨i, hi, rfl⟩ := List.mem_iff_getElem.1 hl
  have h2 := W.lenAll_at (W.krList_parts hk).2.2.1 i hi
  rw [decide_eq_true_eq] at h1
  exact ⟨h2.1, h1⟩
theorem allUpTo_no {z : List Int} {n : Int} (k : Nat) (hk : k < z.length) (h : n < z[k]) : allUpTo z n = false := by
  unfold allUpTo
  rw [List.all_eq_false]
  exact ⟨z[k], List.getElem_mem hk, by rw [decide_eq_true_eq]; omega⟩
theorem allUpTo_yes {z : List Int} {n : Int} (h : ∀ k (hk : k < z.length), z[k] ≤ n) : allUpTo z n = true := by
  unfold allUpTo
  rw [List.all_eq_true]
  intro l hl
  obtain ⟨i, hi, rfl⟩ := List.mem_iff_getElem.1 hl
  exact decide_eq_true (h i hi)
/-- the last length tells it -/
theorem allUpTo_last {z : List Int} {L n : Int} (hk : W.krList z L = true) (h0 : 0 < z.length) : allUpTo z n = decide (z[z.length - 1]'(by omega) ≤ n) := by
  by_cases h : z[z.length - 1]'(by omega) ≤ n
  · rw [decide_eq_true h]
    refine allUpTo_yes fun k hk2 => ?_
    have := W.up_le (W.krList_parts hk).2.2.2 (z.length - 1 - k) k (by omega)
    rw [show k + (z.length - 1 - k) = z.length - 1 by omega, getD_at z k hk2, getD_at z _ (by omega)] at this
    omega
  · rw [decide_eq_false h]
    exact allUpTo_no (z.length - 1) (by omega) (by omega)
/-- what KraftSum tells -/
def ksOf (ss : List ByteArray) (L : Int) : Nat × Nat := if W.krSet ss L then W.krSum L.toNat (W.lens ss) else (0, 0)
theorem ksOf_no {ss : List ByteArray} {L : Int} (h : W.krSet ss L = false) : ksOf ss L = (0, 0) := by unfold ksOf; rw [h]; rfl
theorem ksOf_yes {ss : List ByteArray} {L : Int} (h : W.krSet ss L = true) : ksOf ss L = W.krSum L.toNat (W.lens ss) := by unfold ksOf; rw [h]; rfl
/-- what SumOfLengths tells -/
def slOf (z : List Int) (L : Int) : Nat × Nat := if W.krList z L then W.krSum L.toNat z else (0, 0)
theorem slOf_no {z : List Int} {L : Int} (h : W.krList z L = false) : slOf z L = (0, 0) := by unfold slOf; rw [h]; rfl
theorem slOf_yes {z : List Int} {L : Int} (h : W.krList z L = true) : slOf z L = W.krSum L.toNat z := by unfold slOf; rw [h]; rfl
/-- what SumsOfPowers tells -/
def spOk (ss : List ByteArray) (L k : Int) : Bool := W.krSet ss L && decide (0 ≤ k ∧ k ≤ 4)
def spOf (ss : List ByteArray) (L k : Int) : Nat × Nat := if spOk ss L k then W.powR (W.krSum L.toNat (W.lens ss)) k.toNat else (0, 0)
theorem spOf_no {ss : List ByteArray} {L k : Int} (h : spOk ss L k = false) : spOf ss L k = (0, 0) := by unfold spOf; rw [h]; rfl
theorem spOf_yes {ss : List ByteArray} {L k : Int} (h : spOk ss L k = true) : spOf ss L k = W.powR (W.krSum L.toNat (W.lens ss)) k.toNat := by unfold spOf; rw [h]; rfl
/-- so many letters, as a number -/
theorem let_nat {L : Int} (h : W.krLet L = true) : ∃ m : Nat, L = (m : Int) ∧ 2 ≤ m ∧ m ≤ 3 := by
  rcases W.krLet_cases h with rfl | rfl
  · exact ⟨2, rfl, by omega, by omega⟩
  · exact ⟨3, rfl, by omega, by omega⟩
/-- powers of Kraft's sum are no great numbers -/
theorem sum_small {L : Nat} {z : List Int} (h2 : 2 ≤ L) (h3 : L ≤ 3) (h12 : z.length ≤ 12) (hz : W.lenAll z = true) : (W.krSum L z).1 ≤ 26244 ∧ (W.krSum L z).2 ≤ 6561 ∧ 0 < (W.krSum L z).2 ∧ Nat.gcd (W.krSum L z).1 (W.krSum L z).2 = 1 := by
  have h1 := W.shares_le L h2 h3 z hz
  have h4 := W.whole_le L h3
  have h5 := W.low_le (W.shares L z) (L ^ 8)
  unfold W.krSum
  exact ⟨by omega, by omega, W.low_pos (W.whole_pos L h2), W.low_coprime (W.whole_pos L h2)⟩
theorem pow_26 {x k : Nat} (hx : x ≤ 26244) (hk : k ≤ 4) : x ^ k ≤ 4611686018427387904 := by
  have h1 : x ^ k ≤ 26244 ^ k := Nat.pow_le_pow_left hx k
  have h2 : (26244 : Nat) ^ k ≤ 26244 ^ 4 := Nat.pow_le_pow_right (by omega) hk
  have h3 : (26244 : Nat) ^ 4 = 474373168346071296 := by decide
  omega
end Go.Proofs.Ythkkneboblhmlaa
