/-
  WHAT THIS FILE PROVES: the specification's tests of sets and lengths with so many letters, and Kraft's sums: they give what the plain ones say; asked: slices in memory, lengths that an int holds.
-/
import Derived.Test.YthhiegcdocjfkaaDoorArith
import Derived.Test.YthhiegcdocjfkaaDoorIn
import Derived.OwnWalk
import Derived.Maps.AppendAt
namespace Go.Proofs.YthhiegcdocjfkaaDoor
open Go.RowKit Go.Shelf


theorem wd_letter {l : List UInt8} (h : W.isWd l = true) (k : Nat) (hk : k < l.length) : 97 ≤ l[k].toNat ∧ l[k].toNat ≤ 99 := by
  have := List.all_eq_true.1 h l[k] (List.getElem_mem hk)
  unfold W.isL at this
  rwa [decide_eq_true_eq] at this
theorem krWd_take (L : Int) (l : List UInt8) (k : Nat) (h : k < l.length) : W.krWd L (l.take (k + 1)) = (W.krWd L (l.take k) && decide (97 ≤ l[k].toNat ∧ (l[k].toNat : Int) < 97 + L)) := by
  unfold W.krWd
  rw [List.take_succ_eq_append_getElem h, List.all_append]
  simp
theorem krWd_no (L : Int) (l : List UInt8) (k : Nat) (h : W.krWd L (l.take k) = false) : W.krWd L l = false := by
  unfold W.krWd at h ⊢
  rw [List.all_eq_false] at h ⊢
  obtain ⟨x, hx, hp⟩ := h
  exact ⟨x, List.mem_of_mem_take hx, hp⟩

/-- the first k words have the first L letters alone -/
def krTo (ss : List ByteArray) (L : Int) (k : Nat) : Bool := (List.range k).all fun i => W.krWd L (W.nth ss i).data.toList
theorem krTo_succ (ss : List ByteArray) (L : Int) (k : Nat) : krTo ss L (k + 1) = (krTo ss L k && W.krWd L (W.nth ss k).data.toList) := by
  unfold krTo
  rw [List.range_succ, List.all_append]
  simp
theorem krTo_no (ss : List ByteArray) (L : Int) (k n : Nat) (h : k ≤ n) (hf : krTo ss L k = false) : krTo ss L n = false := W.all_mono _ k n h hf
theorem krTo_all (ss : List ByteArray) (L : Int) : krTo ss L ss.length = ss.all fun s => W.krWd L s.data.toList := by
  rw [Bool.eq_iff_iff]
  unfold krTo
  rw [List.all_eq_true, List.all_eq_true]
  constructor
  · intro h x hx
    obtain ⟨i, hi, rfl⟩ := List.mem_iff_getElem.1 hx
    have := h i (by simpa using hi)
    rwa [W.nth_lt ss i hi] at this
  · intro h i hi
    have hi : i < ss.length := by simpa using hi
    rw [W.nth_lt ss i hi]
    exact h _ (List.getElem_mem hi)
theorem krSet_no_let {ss : List ByteArray} {L : Int} (h : W.krLet L = false) : W.krSet ss L = false := by unfold W.krSet; rw [h]; rfl
theorem krSet_no_set {ss : List ByteArray} {L : Int} (h : W.isSet ss = false) : W.krSet ss L = false := by unfold W.krSet; rw [h]; simp
theorem krSet_rest {ss : List ByteArray} {L : Int} (h1 : W.krLet L = true) (h2 : W.isSet ss = true) : W.krSet ss L = krTo ss L ss.length := by unfold W.krSet; rw [h1, h2, krTo_all]; rfl

set_option maxHeartbeats 1600000 in
theorem spec_krLengths (A : Option Addr) (ss : List ByteArray) (c : Nat) (w : World) (h : Row w w.heap.size A (strs ss)) (h12 : ss.length ≤ 12) (hz : ∀ k, k < ss.length → (W.nth ss k).size ≤ 8) :
    Calls Tryd.prog 32 #[.slice A ss.length c] w (GivesInts w (W.lens ss)) := by
  obtain ⟨i0, hi, hz0, hz1, hz2⟩ := info_parts infoInt
  have HR := Lib.hid (And.intro hi (And.intro hz0 (And.intro hz1 hz2)))
  have Hz := Lib.hid hz
  replace h := Lib.hid h
  clear hi hz0 hz1 hz2 hz
  go_enter Tryd.func32, Tryd.ntmps32
  go_wp2
  go_loopw [3, 8] (fun v i wr => ∃ k : Nat, k ≤ ss.length ∧ i = .int .i64 k ∧ wr.ownsRow w.heap.size 3 1 v k (ints (W.lens (ss.take k))) ∧ Below w.heap.size w wr)
    (fun _ i _ => ss.length - (intOf i).toNat)
  case atStart => exact ⟨0, Nat.zero_le _, rfl, World.ownsRow_nil _ _ _ _, Below.refl _ _⟩
  case round =>
    obtain ⟨k, hk, rfl, ho, hB⟩ := hrel
    have hO := Lib.hid (And.intro ho hB)
    clear ho hB
    by_cases hlt : k < ss.length
    · obtain ⟨b, off, rfl, hb, hcc⟩ := h.out (by rw [strs_length]; omega)
      have hlt' : (k : Int) < (ss.length : Int) := by omega
      have c1 := (hO.out.2.cell (p := ⟨b, off + k, none⟩) hb).trans (hcc k _ (strs_nth ss k hlt))
      clear hcc
      have hx := Hz.out k hlt
      have Hs := Lib.hid (W.lens_succ ss k hlt)
      generalize W.nth ss k = x at c1 hx Hs
      go_wp2_with (at_builtin; refine wpList_append_own _ rfl _ _ 23 rfl w.heap.size 3 i0 (.int .i64 0) 1 8 Tryd.underlying23 HR.out.1 HR.out.2.1 HR.out.2.2.1 HR.out.2.2.2 rfl (by decide) _ _ _ rfl (hO.out.1.alloc _) ⟨wr.heap.size, 0, none⟩ 1 1 [.int .i64 x.size] rfl rfl (cell_one_new _ _ _) (one_cell _) (by unfold maxLen; omega) (by omega) (by have := hO.out.2.size; simp; omega) ?_)
      intro v' w1 hown' hgrow _
      have hO2 := Lib.hid (And.intro hown' hgrow)
      clear hown' hgrow
      go_wp2
      go_roundw
      case rel =>
        refine ⟨k + 1, by omega, by go_num, ?_, ?_⟩
        · rw [Hs.out, ints_snoc]
          exact hO2.out.1
        · have hlt := hO.out.1.lt
          exact (hO.out.2.alloc hO.out.2.size _).grown hO2.out.2 (by have := hO.out.2.size; simp; omega) (fun g hg => (hlt g hg).1)
      case measure => simp [intOf]; omega
    · obtain rfl : k = ss.length := by omega
      go_wp2
      go_ret
      have hfin := hO.out.1
      rw [List.take_length] at hfin
      exact givesInts_of (by rw [show (W.lens ss).length = ss.length by simp [W.lens]]; exact hfin) rfl hO.out.2

theorem lens_all {ss : List ByteArray} (h : W.isSet ss = true) : W.lenAll (W.lens ss) = true := by
  unfold W.lenAll W.lens
  rw [List.all_map, List.all_eq_true]
  intro x hx
  have hx' : W.short x = true := by
    obtain ⟨i, hi, rfl⟩ := List.mem_iff_getElem.1 hx
    rw [← W.nth_lt ss i hi]
    exact W.isSet_short ss h i hi
  have := W.short_size x hx'
  exact decide_eq_true (show (1 : Int) ≤ (x.size : Int) ∧ (x.size : Int) ≤ 8 by omega)
theorem lens_len (ss : List ByteArray) : (W.lens ss).length = ss.length := by simp [W.lens]




end Go.Proofs.YthhiegcdocjfkaaDoor
