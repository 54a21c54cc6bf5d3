/-
  WHAT THIS FILE PROVES: the lengths of a set's words: the specification's and the program's functions hand back slices of their own with the same numbers; asked: a row that lies in memory, lengths that an int holds.
-/
import Derived.Test.YtjopbmhldpcpdaaGreatDoorIsSet
import Derived.Test.YtjopbmhldpcpdaaGreatDoorMemI
import Derived.OwnWalk
namespace Go.Proofs.YtjopbmhldpcpdaaGreatDoor
open Go.RowKit Go.Shelf

theorem set_sizes (ss : List ByteArray) (h : W.isSet ss = true) (k : Nat) (hk : k < ss.length) : 1 ≤ (W.nth ss k).size ∧ (W.nth ss k).size ≤ 8 := W.short_size _ (W.isSet_short ss h k hk)

theorem impl_length (s : ByteArray) (w : World) (_hs : s.size ≤ 9223372036854775807) :
    Calls Tryz.prog 117 #[.string s] w fun e w' => e = .returned (.int .i64 s.size) ∧ w = w' := by
  go_enter Tryz.func117, Tryz.ntmps117
  go_wp2
  go_ret
  exact ⟨rfl, rfl⟩

set_option maxHeartbeats 1600000 in
theorem listOf_length (A : Option Addr) (ss : List ByteArray) (c : Nat) (w : World) (h : Row w w.heap.size A (strs ss)) (hl : ss.length ≤ 1048576) (hs : ∀ s ∈ ss, s.size ≤ 9223372036854775807) :
    Calls Tryz.prog 116 #[.slice A ss.length c, .func (.func 117) #[] #[]] w (GivesInts w (W.lens ss)) := by
  obtain ⟨i0, hi, hz0, hz1, hz2⟩ := info_parts infoInt
  have HR := Lib.hid (And.intro hi (And.intro hz0 (And.intro hz1 hz2)))
  clear hi hz0 hz1 hz2
  replace h := Lib.hid h
  replace hs := Lib.hid hs
  go_enter Tryz.func116, Tryz.ntmps116
  go_wp2_with (at_make; refine wpList_make_own _ rfl _ _ 34 rfl w.heap.size 3 i0 (.int .i64 0) 1 Tryz.underlying34 HR.out.1 HR.out.2.1 HR.out.2.2.1 _ _ _ ss.length rfl rfl rfl ?b1 ?b2 ?b3 ?_)
  case b1 => rw [HR.out.2.2.2]; omega
  case b2 => unfold maxLen; omega
  case b3 => exact Nat.le_refl _
  intro w1 hown1 hgrow1
  have hB1 : Below w.heap.size w w1 := (Below.refl _ w).grown hgrow1 (Nat.le_refl _) (fun g hg => by cases hg)
  replace hown1 := Lib.hid (And.intro hown1 hB1)
  clear hgrow1 hB1
  go_wp2
  go_loopw [5, 13] (fun v i wr => ∃ k : Nat, k ≤ ss.length ∧ i = .int .i64 k ∧ wr.ownsRow w.heap.size 3 1 v k (ints (W.lens (ss.take k))) ∧ Below w.heap.size w wr)
    (fun _ i _ => ss.length - (intOf i).toNat)
  case atStart => exact ⟨0, Nat.zero_le _, rfl, hown1.out.1, hown1.out.2⟩
  case round =>
    obtain ⟨k, hk, rfl, ho, hB⟩ := hrel
    have hO := Lib.hid (And.intro ho hB)
    clear ho hB
    by_cases hlt : k < ss.length
    · obtain ⟨b, off, rfl, hb, hcc⟩ := h.out (by rw [strs_length]; omega)
      have hlt' : (k : Int) < (ss.length : Int) := by omega
      have c1 := (hO.out.2.cell (p := ⟨b, off + k, none⟩) hb).trans (hcc k _ (strs_nth ss k hlt))
      clear hcc
      have hx : (W.nth ss k).size ≤ 9223372036854775807 := by rw [W.nth_lt ss k hlt]; exact hs.out _ (List.getElem_mem hlt)
      have Hs := Lib.hid (W.lens_succ ss k hlt)
      generalize W.nth ss k = x at c1 hx Hs
      go_wp2_with (first | (go_at_call 117; refine (impl_length x _ hx).mono ?_; rintro e w' ⟨rfl, rfl⟩) | (at_builtin; refine wpList_append_own _ rfl _ _ 34 rfl w.heap.size 3 i0 (.int .i64 0) 1 8 Tryz.underlying34 HR.out.1 HR.out.2.1 HR.out.2.2.1 HR.out.2.2.2 rfl (by decide) _ _ _ rfl (hO.out.1.alloc _) ⟨wr.heap.size, 0, none⟩ 1 1 [.int .i64 x.size] rfl rfl ?c1 ?c2 ?c3 ?c4 ?c5 ?_))
      case c1 => exact cell_one_new _ _ _
      case c2 => exact one_cell _
      case c3 => unfold maxLen; omega
      case c4 => omega
      case c5 => have := hO.out.2.size; simp; omega
      intro v' w1 hown' hgrow _
      have hO2 := Lib.hid (And.intro hown' hgrow)
      clear hown' hgrow
      go_wp2
      go_roundw
      case rel =>
        refine ⟨k + 1, by omega, by go_num, ?_, ?_⟩
        · rw [Hs.out, ints_snoc]
          exact hO2.out.1
        · have hlt := hO.out.1.lt
          exact (hO.out.2.alloc hO.out.2.size _).grown hO2.out.2 (by have := hO.out.2.size; simp; omega) (fun g hg => (hlt g hg).1)
      case measure => simp [intOf]; omega
    · obtain rfl : k = ss.length := by omega
      go_wp2
      go_ret
      have hfin := hO.out.1
      rw [List.take_length] at hfin
      have hL : (W.lens ss).length = ss.length := by simp [W.lens]
      exact givesInts_of (by rw [hL]; exact hfin) rfl hO.out.2

end Go.Proofs.YtjopbmhldpcpdaaGreatDoor
