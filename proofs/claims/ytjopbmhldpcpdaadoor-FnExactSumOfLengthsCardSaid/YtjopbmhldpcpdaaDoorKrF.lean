/-
  WHAT THIS FILE PROVES: first prefix sets and room that is left: the specification's functions give what the plain ones say; asked: slices in memory, lengths that an int holds.
-/
import Derived.Test.YtjopbmhldpcpdaaDoorKrE
import Derived.Test.YtjopbmhldpcpdaaDoorTxS
namespace Go.Proofs.YtjopbmhldpcpdaaDoor
open Go.RowKit Go.Shelf


theorem took_le {L : Nat} {z : List Int} (hf : W.shares L z ≤ L ^ 8) (h3 : L ≤ 3) (i : Nat) : took L z i ≤ 6561 :=
  Nat.le_trans (W.shares_take_le L z i) (Nat.le_trans hf (W.whole_le L h3))
theorem part_one (L : Nat) (h2 : 2 ≤ L) (a : Int) : 1 ≤ W.part L a := W.part_pos L h2 a
theorem le_mul_pos {a b : Nat} (h : 1 ≤ b) : a ≤ a * b := Nat.le_mul_of_pos_right a h
/-- one step of the numbers -/
structure Stepped (L : Nat) (z : List Int) (i : Nat) (nx : Nat) (bf : Int) : Prop where
  mul : nx * W.part L bf = took L z i
  lo : 0 ≤ bf
  hi : bf ≤ 8
  up : i < z.length → bf ≤ z.getD i 0
theorem Stepped.next {L : Nat} {z : List Int} {i nx : Nat} {bf : Int} (h : Stepped L z i nx bf) {K : Int} (hk : W.krList z K = true) (h2 : 2 ≤ L) (hi : i < z.length) :
    nx * L ^ (z.getD i 0 - bf).toNat = numAt L z i ∧ Stepped L z (i + 1) (numAt L z i + 1) (z.getD i 0) := by
  have hz := W.lenAll_at (W.krList_parts hk).2.2.1 i hi
  rw [← getD_at z i hi] at hz
  have hm := next_mul L h2 (took L z i) nx bf (z.getD i 0) h.lo (h.up hi) hz.2 h.mul
  refine ⟨hm.2, ?_, by omega, hz.2, fun h' => list_up hk i h'⟩
  unfold numAt
  rw [← hm.2, Nat.add_mul, Nat.one_mul, hm.1, took_succ L z i hi, getD_at z i hi]
theorem numAt_le {L : Nat} {z : List Int} {i : Nat} : numAt L z i ≤ took L z i := Nat.div_le_self _ _

theorem take_up {z : List Int} {L n : Int} (hk : W.krList z L = true) (k : Nat) (h : ∀ j (hj : j < z.length), j < k → z[j] ≤ n) : ∀ l ∈ z.take k, 1 ≤ l ∧ l ≤ n := fun l hl => by
  obtain ⟨j, hj, rfl⟩ := List.mem_iff_getElem.1 hl
  rw [List.length_take] at hj
  rw [List.getElem_take]
  exact ⟨(W.lenAll_at (W.krList_parts hk).2.2.1 j (by omega)).1, h j (by omega) (by omega)⟩
end Go.Proofs.YtjopbmhldpcpdaaDoor
