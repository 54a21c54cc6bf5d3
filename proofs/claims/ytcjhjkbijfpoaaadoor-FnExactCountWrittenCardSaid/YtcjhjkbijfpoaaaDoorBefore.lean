/-
  WHAT THIS FILE PROVES: one text in front of each of a list: the program's function with its closure hands back a slice of its own; asked: rows that lie in memory, lengths that an int holds.
-/
import Derived.Test.YtcjhjkbijfpoaaaDoorMemS
import Derived.Test.YtcjhjkbijfpoaaaDoorSets
import Derived.Maps.AppendAt
import Derived.OwnWalk
import Derived.Test.YtcjhjkbijfpoaaaDoorFit
namespace Go.Proofs.YtcjhjkbijfpoaaaDoor
open Go.RowKit Go.Shelf

/-- a text in front of each -/
def befs (t : ByteArray) (ss : List ByteArray) : List ByteArray := ss.map fun s => t ++ s
theorem befs_length (t : ByteArray) (ss : List ByteArray) : (befs t ss).length = ss.length := by simp [befs]
theorem befs_succ (t : ByteArray) (ss : List ByteArray) (k : Nat) (h : k < ss.length) : befs t (ss.take (k + 1)) = befs t (ss.take k) ++ [t ++ W.nth ss k] := by
  unfold befs
  rw [List.take_succ_eq_append_getElem h, List.map_append, W.nth_lt ss k h]
  rfl
theorem impl_before (s : ByteArray) (bx : Nat) (t : ByteArray) (w : World) (hx : w.cell? ⟨bx, 0, none⟩ = some (.string t)) (hs : s.size ≤ 1000) (ht : t.size ≤ 1000) :
    Calls Tryd.prog 24 #[.string s, .pointer (some ⟨bx, 0, none⟩)] w fun e w' => e = .returned (.string (t ++ s)) ∧ Below w.heap.size w w' := by
  have h1 : (t.size : Int) ≤ 8388608 := by omega
  have h2 : (s.size : Int) ≤ 8388608 := by omega
  go_enter Tryd.func24, Tryd.ntmps24
  go_wp2
  go_ret
  exact ⟨rfl, Below.refl _ _⟩

set_option maxHeartbeats 1600000 in
theorem listOf_before (A : Option Addr) (ss : List ByteArray) (c : Nat) (bx : Nat) (t : ByteArray) (w : World) (h : Row w w.heap.size A (strs ss)) (h12 : ss.length ≤ 262144) (hsz : ∀ s ∈ ss, s.size ≤ 1000) (ht : t.size ≤ 1000)
    (hbx : bx < w.heap.size) (hx : w.cell? ⟨bx, 0, none⟩ = some (.string t)) :
    Calls Tryd.prog 20 #[.slice A ss.length c, .func (.func 24) #[] #[.pointer (some ⟨bx, 0, none⟩)]] w (GivesStrs w (befs t ss)) := by
  obtain ⟨i0, hi, hz0, hz1, hz2⟩ := info_parts infoStr
  have HR := Lib.hid (And.intro hi (And.intro hz0 (And.intro hz1 hz2)))
  have Hsz := Lib.hid hsz
  have HX := Lib.hid hx
  clear hi hz0 hz1 hz2 hx hsz
  replace h := Lib.hid h
  go_enter Tryd.func20, Tryd.ntmps20
  go_wp2_with (at_make; refine wpList_make_own _ rfl _ _ 22 rfl w.heap.size 9 i0 (.string ByteArray.empty) 1 Tryd.underlying22 HR.out.1 HR.out.2.1 HR.out.2.2.1 _ _ _ ss.length rfl rfl rfl ?b1 ?b2 ?b3 ?_)
  case b1 => rw [HR.out.2.2.2]; omega
  case b2 => unfold maxLen; omega
  case b3 => exact Nat.le_refl _
  intro w1 hown1 hgrow1
  have hB1 : Below w.heap.size w w1 := (Below.refl _ w).grown hgrow1 (Nat.le_refl _) (fun g hg => by cases hg)
  replace hown1 := Lib.hid (And.intro hown1 hB1)
  clear hgrow1 hB1
  go_wp2
  go_loopw [5, 13] (fun v i wr => ∃ k : Nat, k ≤ ss.length ∧ i = .int .i64 k ∧ wr.ownsRow w.heap.size 9 1 v k (strs (befs t (ss.take k))) ∧ Below w.heap.size w wr)
    (fun _ i _ => ss.length - (intOf i).toNat)
  case atStart => exact ⟨0, Nat.zero_le _, rfl, hown1.out.1, hown1.out.2⟩
  case round =>
    obtain ⟨k, hk, rfl, ho, hB⟩ := hrel
    have hO := Lib.hid (And.intro ho hB)
    clear ho hB
    by_cases hlt : k < ss.length
    · obtain ⟨b, off, rfl, hb, hcc⟩ := h.out (by rw [strs_length]; omega)
      have hlt' : (k : Int) < (ss.length : Int) := by omega
      have c1 := (hO.out.2.cell (p := ⟨b, off + k, none⟩) hb).trans (hcc k _ (strs_nth ss k hlt))
      clear hcc
      have Hs := Lib.hid (befs_succ t ss k hlt)
      have hbk := Lib.hid (impl_before (W.nth ss k) bx t wr ((hO.out.2.cell (p := ⟨bx, 0, none⟩) hbx).trans HX.out) (Hsz.out _ (by rw [W.nth_lt ss k hlt]; exact List.getElem_mem hlt)) ht)
      generalize t ++ W.nth ss k = y at Hs hbk
      generalize W.nth ss k = x at c1 hbk
      go_wp2_with fail
      refine hbk.out.mono ?_
      rintro e w2 ⟨rfl, hB2⟩
      have hO1 := Lib.hid (And.intro (own_below hO.out.1 hB2) (hO.out.2.trans (hB2.mono hO.out.2.size)))
      clear hB2 hO c1
      go_wp2_with (at_builtin; refine wpList_append_own _ rfl _ _ 22 rfl w.heap.size 9 i0 (.string ByteArray.empty) 1 16 Tryd.underlying22 HR.out.1 HR.out.2.1 HR.out.2.2.1 HR.out.2.2.2 rfl (by decide) _ _ _ rfl (hO1.out.1.alloc _) ⟨w2.heap.size, 0, none⟩ 1 1 [.string y] rfl rfl ?c1 ?c2 ?c3 ?c4 ?c5 ?_)
      case c1 => exact cell_one_new _ _ _
      case c2 => exact one_text _
      case c3 => unfold maxLen; omega
      case c4 => omega
      case c5 => have := hO1.out.2.size; simp; omega
      intro v' w3 hown' hgrow _
      have hO2 := Lib.hid (And.intro hown' hgrow)
      clear hown' hgrow
      go_wp2
      go_roundw
      case rel =>
        refine ⟨k + 1, by omega, by go_num, ?_, ?_⟩
        · rw [Hs.out, strs_snoc]
          exact hO2.out.1
        · have hlt := hO1.out.1.lt
          exact (hO1.out.2.alloc hO1.out.2.size _).grown hO2.out.2 (by have := hO1.out.2.size; simp; omega) (fun g hg => (hlt g hg).1)
      case measure => simp [intOf]; omega
    · obtain rfl : k = ss.length := by omega
      go_wp2
      go_ret
      have hfin := hO.out.1
      rw [List.take_length] at hfin
      exact givesStrs_of (by rw [befs_length]; exact hfin) rfl hO.out.2

end Go.Proofs.YtcjhjkbijfpoaaaDoor
