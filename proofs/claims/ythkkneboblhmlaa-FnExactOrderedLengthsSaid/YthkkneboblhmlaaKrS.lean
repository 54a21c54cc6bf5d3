/-
  WHAT THIS FILE PROVES: the specification's tests of sets and lengths with so many letters, and Kraft's sums: they give what the plain ones say; asked: slices in memory, lengths that an int holds.
-/
import Derived.Test.YthkkneboblhmlaaArith
import Derived.Test.YthkkneboblhmlaaIn
import Derived.OwnWalk
import Derived.Maps.AppendAt
namespace Go.Proofs.Ythkkneboblhmlaa
open Go.RowKit Go.Shelf

theorem spec_krLetters (L : Int) (w : World) :
    Calls Try.prog 40 #[.int .i64 L] w fun e w' => e = .returned (.bool (W.krLet L)) ∧ w = w' := by
  have hin := fun W => spec_l1In L 2 3 W
  rw [show decide ((2 : Int) ≤ L ∧ L ≤ 3) = W.krLet L from rfl] at hin
  generalize W.krLet L = r at hin ⊢
  replace hin := Lib.hid hin
  go_enter Try.func40, Try.ntmps40
  go_wp2_with (go_at_call 49; refine (hin.out _).mono ?_; rintro e w' ⟨rfl, rfl⟩)
  go_ret
  exact ⟨rfl, rfl⟩

theorem wd_letter {l : List UInt8} (h : W.isWd l = true) (k : Nat) (hk : k < l.length) : 97 ≤ l[k].toNat ∧ l[k].toNat ≤ 99 := by
  have := List.all_eq_true.1 h l[k] (List.getElem_mem hk)
  unfold W.isL at this
  rwa [decide_eq_true_eq] at this
theorem krWd_take (L : Int) (l : List UInt8) (k : Nat) (h : k < l.length) : W.krWd L (l.take (k + 1)) = (W.krWd L (l.take k) && decide (97 ≤ l[k].toNat ∧ (l[k].toNat : Int) < 97 + L)) := by
  unfold W.krWd
  rw [List.take_succ_eq_append_getElem h, List.all_append]
  simp
theorem krWd_no (L : Int) (l : List UInt8) (k : Nat) (h : W.krWd L (l.take k) = false) : W.krWd L l = false := by
  unfold W.krWd at h ⊢
  rw [List.all_eq_false] at h ⊢
  obtain ⟨x, hx, hp⟩ := h
  exact ⟨x, List.mem_of_mem_take hx, hp⟩

/-- the first k words have the first L letters alone -/
def krTo (ss : List ByteArray) (L : Int) (k : Nat) : Bool := (List.range k).all fun i => W.krWd L (W.nth ss i).data.toList
theorem krTo_succ (ss : List ByteArray) (L : Int) (k : Nat) : krTo ss L (k + 1) = (krTo ss L k && W.krWd L (W.nth ss k).data.toList) := by
  unfold krTo
  rw [List.range_succ, List.all_append]
  simp
theorem krTo_no (ss : List ByteArray) (L : Int) (k n : Nat) (h : k ≤ n) (hf : krTo ss L k = false) : krTo ss L n = false := W.all_mono _ k n h hf
theorem krTo_all (ss : List ByteArray) (L : Int) : krTo ss L ss.length = ss.all fun s => W.krWd L s.data.toList := by
  rw [Bool.eq_iff_iff]
  unfold krTo
  rw [List.all_eq_true, List.all_eq_true]
  constructor
  · intro h x hx
    obtain ⟨i, hi, rfl⟩ := List.mem_iff_getElem.1 hx
    have := h i (by simpa using hi)
    rwa [W.nth_lt ss i hi] at this
  · intro h i hi
    have hi : i < ss.length := by simpa using hi
    rw [W.nth_lt ss i hi]
    exact h _ (List.getElem_mem hi)
theorem krSet_no_let {ss : List ByteArray} {L : Int} (h : W.krLet L = false) : W.krSet ss L = false := by unfold W.krSet; rw [h]; rfl
theorem krSet_no_set {ss : List ByteArray} {L : Int} (h : W.isSet ss = false) : W.krSet ss L = false := by unfold W.krSet; rw [h]; simp
theorem krSet_rest {ss : List ByteArray} {L : Int} (h1 : W.krLet L = true) (h2 : W.isSet ss = true) : W.krSet ss L = krTo ss L ss.length := by unfold W.krSet; rw [h1, h2, krTo_all]; rfl


theorem lens_all {ss : List ByteArray} (h : W.isSet ss = true) : W.lenAll (W.lens ss) = true := by
  unfold W.lenAll W.lens
  rw [List.all_map, List.all_eq_true]
  intro x hx
  have hx' : W.short x = true := by
    obtain ⟨i, hi, rfl⟩ := List.mem_iff_getElem.1 hx
    rw [← W.nth_lt ss i hi]
    exact W.isSet_short ss h i hi
  have := W.short_size x hx'
  exact decide_eq_true (show (1 : Int) ≤ (x.size : Int) ∧ (x.size : Int) ≤ 8 by omega)
theorem lens_len (ss : List ByteArray) : (W.lens ss).length = ss.length := by simp [W.lens]




end Go.Proofs.Ythkkneboblhmlaa
