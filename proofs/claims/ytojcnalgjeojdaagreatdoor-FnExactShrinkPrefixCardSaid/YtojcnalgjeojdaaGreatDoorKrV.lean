/-
  WHAT THIS FILE PROVES: whether a source of lengths, given ones or those of words, is valid with so many letters: the program's function tells it; asked: slices in memory, lengths that an int holds, no more than capacities.
-/
import Derived.Test.YtojcnalgjeojdaaGreatDoorKrI
import Derived.Test.YtojcnalgjeojdaaGreatDoorKrS
import Derived.Test.YtojcnalgjeojdaaGreatDoorKrT
import Derived.Test.YtojcnalgjeojdaaGreatDoorText
import Derived.BigRegion
import Derived.Deep.RegionWith
import Derived.Deep.RegionHeld3
namespace Go.Proofs.YtojcnalgjeojdaaGreatDoor
open Go.RowKit Go.Shelf

theorem join_flat (xs : List (List UInt8)) : Lib.join xs [] = xs.flatten := by
  cases xs with
  | nil => rfl
  | cons x r =>
    rw [Lib.join_cons]
    unfold Lib.joinTail
    rw [List.flatten_cons]
    congr 2
    simp
theorem join_all (ss : List ByteArray) (p : UInt8 → Bool) : (Lib.join (W.bytes ss) []).all p = ss.all fun s => s.data.toList.all p := by
  rw [join_flat, List.all_flatten]
  unfold W.bytes
  rw [List.all_map]
  rfl
theorem join_size {ss : List ByteArray} (h : W.isSet ss = true) : (Lib.join (W.bytes ss) []).length ≤ 96 := by
  have h12 := W.isSet_len ss h
  have key : ∀ l : List ByteArray, (∀ x ∈ l, x.size ≤ 8) → ((W.bytes l).flatten).length ≤ l.length * 8 := by
    intro l
    induction l with
    | nil => intro _; simp [W.bytes]
    | cons a r ih =>
      intro hx
      have h1 := ih (fun x hx' => hx x (List.mem_cons_of_mem _ hx'))
      have h2 := hx a (List.mem_cons_self ..)
      rw [Lib.size_eq] at h2
      show ((a.data.toList) ++ (W.bytes r).flatten).length ≤ (r.length + 1) * 8
      rw [List.length_append]
      omega
  rw [join_flat]
  have := key ss (fun x hx => by
    obtain ⟨i, hi, rfl⟩ := List.mem_iff_getElem.1 hx
    rw [← W.nth_lt ss i hi]
    exact (W.short_size _ (W.isSet_short ss h i hi)).2)
  omega
theorem trim_any (l cs : List UInt8) : (Lib.trimS l cs).isEmpty = l.all (cs.contains ·) := by
  unfold Lib.trimS Lib.trimLeftS Lib.trimRightS
  cases h : l.all (cs.contains ·) with
  | true =>
    rw [W.dropWhile_all _ l.reverse (by rw [List.all_reverse]; exact h)]
    rfl
  | false =>
    have h1 : (l.reverse.dropWhile (cs.contains ·)).reverse.all (cs.contains ·) = false := by
      rw [List.all_reverse]
      exact W.dropWhile_any _ _ (by rw [List.all_reverse]; exact h)
    have := W.dropWhile_ne _ _ h1
    cases hd : (l.reverse.dropWhile (cs.contains ·)).reverse.dropWhile (cs.contains ·) with
    | nil => exact absurd hd this
    | cons a r => rfl
theorem two_letters (c : UInt8) : ([97, 98] : List UInt8).contains c = decide (97 ≤ c.toNat ∧ (c.toNat : Int) < 97 + 2) := by
  have h : ∀ n : Nat, n < 256 → (([97, 98] : List UInt8).contains (UInt8.ofNat n)) = decide (97 ≤ (UInt8.ofNat n).toNat ∧ ((UInt8.ofNat n).toNat : Int) < 97 + 2) := by decide +kernel
  have := h c.toNat c.toNat_lt
  rwa [UInt8.ofNat_toNat] at this
theorem three_letters (c : UInt8) : ([97, 98, 99] : List UInt8).contains c = decide (97 ≤ c.toNat ∧ (c.toNat : Int) < 97 + 3) := by
  have h : ∀ n : Nat, n < 256 → (([97, 98, 99] : List UInt8).contains (UInt8.ofNat n)) = decide (97 ≤ (UInt8.ofNat n).toNat ∧ ((UInt8.ofNat n).toNat : Int) < 97 + 3) := by decide +kernel
  have := h c.toNat c.toNat_lt
  rwa [UInt8.ofNat_toNat] at this
/-- the first letters -/
def abcTo (m : Nat) : ByteArray := (⟨#[97, 98, 99]⟩ : ByteArray).extract 0 m
theorem trim_letters (m : Nat) (h2 : 2 ≤ m) (h3 : m ≤ 3) (l : List UInt8) : (Lib.trimS l (abcTo m).data.toList).isEmpty = W.krWd m l := by
  rw [trim_any]
  unfold W.krWd
  have hm : m = 2 ∨ m = 3 := by omega
  rcases hm with rfl | rfl
  · exact congrArg l.all (funext two_letters)
  · exact congrArg l.all (funext three_letters)
end Go.Proofs.YtojcnalgjeojdaaGreatDoor
