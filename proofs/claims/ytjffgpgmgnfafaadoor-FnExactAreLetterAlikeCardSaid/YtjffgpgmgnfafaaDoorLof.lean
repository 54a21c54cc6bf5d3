/-
  WHAT THIS FILE PROVES: the program's list of what a function value tells of each text of a slice, texts: it hands back a slice of the call's own; asked: rows that lie in memory, a function value that tells a text of each text, whatever has been put behind the heap.
-/
import Derived.Test.YtjffgpgmgnfafaaDoorIsSet
import Derived.Test.YtjffgpgmgnfafaaDoorMemS
import Derived.Maps.AppendAt
import Derived.OwnWalk
import Derived.BigQuiet
namespace Go.Proofs.YtjffgpgmgnfafaaDoor
open Go.RowKit

/-- the function value makes f of each text of a list, in each later world, and turns nothing that was there -/
def Makes (g : Nat) (lb : Array Value) (f : ByteArray → ByteArray) (ss : List ByteArray) (w : World) : Prop :=
  ∀ (k : Nat) (u : World), k < ss.length → Below w.heap.size w u → Calls Tryd.prog g (#[.string (W.nth ss k)] ++ lb) u fun e u' => e = .returned (.string (f (W.nth ss k))) ∧ Below u.heap.size u u'
theorem map_take_succ (f : ByteArray → ByteArray) (ss : List ByteArray) (k : Nat) (h : k < ss.length) : (ss.map f).take (k + 1) = (ss.map f).take k ++ [f (W.nth ss k)] := by
  rw [List.take_succ_eq_append_getElem (by simpa using h), List.getElem_map, W.nth_lt ss k h]

set_option maxHeartbeats 1600000 in
theorem listOf_func (g : Nat) (lb : Array Value) (eg : ∀ args w, (callFunc g args).run Tryd.prog w = .ok (.enter g args) w) (f : ByteArray → ByteArray) (A : Option Addr) (ss : List ByteArray) (c : Nat) (w : World) (h : Row w w.heap.size A (strs ss)) (hl : ss.length ≤ 262144) (hq : Makes g lb f ss w) :
    Calls Tryd.prog 29 #[.slice A ss.length c, .func (.func g) #[] lb] w (GivesStrs w (ss.map f)) := by
  obtain ⟨i0, hi, hz0, hz1, hz2⟩ := info_parts infoStr
  have HR := Lib.hid (And.intro hi (And.intro hz0 (And.intro hz1 hz2)))
  have hq' := Lib.hid hq
  clear hi hz0 hz1 hz2 hq
  replace h := Lib.hid h
  go_enter Tryd.func29, Tryd.ntmps29
  go_wp2_with (at_make; refine wpList_make_own _ rfl _ _ 22 rfl w.heap.size 9 i0 (.string ByteArray.empty) 1 Tryd.underlying22 HR.out.1 HR.out.2.1 HR.out.2.2.1 _ _ _ ss.length rfl rfl rfl ?b1 ?b2 ?b3 ?_)
  case b1 => rw [HR.out.2.2.2]; omega
  case b2 => unfold maxLen; omega
  case b3 => exact Nat.le_refl _
  intro w1 hown1 hgrow1
  have hB1 : Below w.heap.size w w1 := (Below.refl _ w).grown hgrow1 (Nat.le_refl _) (fun g hg => by cases hg)
  replace hown1 := Lib.hid (And.intro hown1 hB1)
  clear hgrow1 hB1
  go_wp2
  go_loopw [5, 13] (fun v i wr => ∃ k : Nat, k ≤ ss.length ∧ i = .int .i64 k ∧ wr.ownsRow w.heap.size 9 1 v k (strs ((ss.map f).take k)) ∧ Below w.heap.size w wr)
    (fun _ i _ => ss.length - (intOf i).toNat)
  case atStart => exact ⟨0, Nat.zero_le _, rfl, hown1.out.1, hown1.out.2⟩
  case round =>
    obtain ⟨k, hk, rfl, ho, hB⟩ := hrel
    have hO := Lib.hid (And.intro ho hB)
    by_cases hlt : k < ss.length
    · obtain ⟨b, off, rfl, hb, hcc⟩ := h.out (by rw [strs_length]; omega)
      have hlt' : (k : Int) < (ss.length : Int) := by omega
      have c1 := (hB.cell (p := ⟨b, off + k, none⟩) hb).trans (hcc k _ (strs_nth ss k hlt))
      have hbk := Lib.hid (hq'.out k wr hlt hB)
      have Hs := Lib.hid (map_take_succ f ss k hlt)
      clear hcc ho hB
      generalize f (W.nth ss k) = y at Hs hbk
      generalize W.nth ss k = x at c1 hbk
      go_wp2_with fail
      refine hbk.out.mono ?_
      rintro e w2 ⟨rfl, hB2⟩
      have hO1 := Lib.hid (And.intro (own_below hO.out.1 hB2) (hO.out.2.trans (hB2.mono hO.out.2.size)))
      clear hB2 hO c1
      go_wp2_with (at_builtin; refine wpList_append_own _ rfl _ _ 22 rfl w.heap.size 9 i0 (.string ByteArray.empty) 1 16 Tryd.underlying22 HR.out.1 HR.out.2.1 HR.out.2.2.1 HR.out.2.2.2 rfl (by decide) _ _ _ rfl (hO1.out.1.alloc _) ⟨w2.heap.size, 0, none⟩ 1 1 [.string y] rfl rfl ?c1 ?c2 ?c3 ?c4 ?c5 ?_)
      case c1 => exact cell_one_new _ _ _
      case c2 => exact one_text _
      case c3 => unfold maxLen; omega
      case c4 => omega
      case c5 => have := hO1.out.2.size; simp; omega
      intro v' w3 hown' hgrow _
      have hO2 := Lib.hid (And.intro hown' hgrow)
      clear hown' hgrow
      go_wp2
      go_roundw
      case rel =>
        refine ⟨k + 1, by omega, by go_num, ?_, ?_⟩
        · rw [Hs.out, strs_snoc]
          exact hO2.out.1
        · have hlt := hO1.out.1.lt
          exact (hO1.out.2.alloc hO1.out.2.size _).grown hO2.out.2 (by have := hO1.out.2.size; simp; omega) (fun g hg => (hlt g hg).1)
      case measure => simp [intOf]; omega
    · obtain rfl : k = ss.length := by omega
      clear ho hB
      go_wp2
      go_ret
      have hfin := hO.out.1
      rw [List.take_of_length_le (by simp)] at hfin
      exact givesStrs_of (by rw [List.length_map]; exact hfin) rfl hO.out.2
end Go.Proofs.YtjffgpgmgnfafaaDoor
