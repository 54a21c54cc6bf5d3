/-
  WHAT THIS FILE PROVES: the program's list of what a function value tells of each text of a slice, slices of numbers: it hands back a slice of slices of the call's own; asked: rows that lie in memory, a function value that hands back a slice of its own for each text, whatever has been put behind the heap.
-/
import Derived.Test.YtkgoglmhojppbaaDoorIsSet
import Derived.Test.YtkgoglmhojppbaaDoorSiM
import Derived.Maps.AppendAt
import Derived.OwnWalk
import Derived.BigQuiet
namespace Go.Proofs.YtkgoglmhojppbaaDoor
open Go.RowKit

/-- the function value makes the numbers f of each text of a list, in each later world, and turns nothing that was there -/
def MakesJ (g : Nat) (lb : Array Value) (f : ByteArray → List Int) (ss : List ByteArray) (w : World) : Prop :=
  ∀ (k : Nat) (u : World), k < ss.length → Below w.heap.size w u → Calls Tryd.prog g (#[.string (W.nth ss k)] ++ lb) u (GivesInts u (f (W.nth ss k)))
theorem map_take_succJ (f : ByteArray → List Int) (ss : List ByteArray) (k : Nat) (h : k < ss.length) : (ss.map f).take (k + 1) = (ss.map f).take k ++ [f (W.nth ss k)] := by
  rw [List.take_succ_eq_append_getElem (by simpa using h), List.getElem_map, W.nth_lt ss k h]
theorem map_take_lenJ (f : ByteArray → List Int) (ss : List ByteArray) (k : Nat) (h : k ≤ ss.length) : (intss ((ss.map f).take k)).length = k := by
  rw [intss_length, List.length_take, List.length_map]; omega

set_option maxHeartbeats 1600000 in
theorem listOf_funcJ (g : Nat) (lb : Array Value) (eg : ∀ args w, (callFunc g args).run Tryd.prog w = .ok (.enter g args) w) (f : ByteArray → List Int) (A : Option Addr) (ss : List ByteArray) (c : Nat) (w : World) (h : Row w w.heap.size A (strs ss)) (hl : ss.length ≤ 262144) (hq : MakesJ g lb f ss w) :
    Calls Tryd.prog 38 #[.slice A ss.length c, .func (.func g) #[] lb] w (GivesSS 22 3 w (intss (ss.map f))) := by
  obtain ⟨i0, hi, hz0, hz1, hz2⟩ := info_parts infoSI
  have HR := Lib.hid (And.intro hi (And.intro hz0 (And.intro hz1 hz2)))
  have hq' := Lib.hid hq
  have hln := Lib.hid (map_take_lenJ f ss)
  clear hi hz0 hz1 hz2 hq
  replace h := Lib.hid h
  go_enter Tryd.func38, Tryd.ntmps38
  go_wp2_with (at_make; refine wpList_make_own _ rfl _ _ 33 rfl w.heap.size 22 i0 (.slice none 0 0) 1 Tryd.underlying33 HR.out.1 HR.out.2.1 HR.out.2.2.1 _ _ _ ss.length rfl rfl rfl ?b1 ?b2 ?b3 ?_)
  case b1 => rw [HR.out.2.2.2]; omega
  case b2 => unfold maxLen; omega
  case b3 => exact Nat.le_refl _
  intro w1 hown1 hgrow1
  have hB1 : Below w.heap.size w w1 := (Below.refl _ w).grown hgrow1 (Nat.le_refl _) (fun g hg => by cases hg)
  replace hown1 := Lib.hid (And.intro hown1 hB1)
  clear hgrow1 hB1
  go_wp2
  go_loopw [5, 13] (fun v i wr => ∃ k : Nat, k ≤ ss.length ∧ i = .int .i64 k ∧ (∃ vs : List Value, OwnAt wr w.heap.size 22 3 v vs (intss ((ss.map f).take k))) ∧ Below w.heap.size w wr)
    (fun _ i _ => ss.length - (intOf i).toNat)
  case atStart =>
    refine ⟨0, Nat.zero_le _, rfl, ⟨[], ?_, fun i xs h => ?_, fun i j u u' _ h => ?_⟩, hown1.out.2⟩
    · exact hown1.out.1
    · simp [intss] at h
    · simp at h
  case round =>
    obtain ⟨k, hk, rfl, ⟨vs, hV⟩, hB⟩ := hrel
    have hlk := Lib.hid (hln.out k hk)
    obtain ⟨Av, cv, rfl⟩ := own_slice hV.own
    rw [hlk.out] at hV ⊢
    have hO := Lib.hid (And.intro hV hB)
    have hOw := Lib.hid (show wr.ownsRow w.heap.size 22 1 (.slice Av k cv) k vs from by have := hV.own; rwa [hlk.out] at this)
    have hsz := hB.size
    by_cases hlt : k < ss.length
    · obtain ⟨b, off, rfl, hb, hcc⟩ := h.out (by rw [strs_length]; omega)
      have hlt' : (k : Int) < (ss.length : Int) := by omega
      have c1 := (hB.cell (p := ⟨b, off + k, none⟩) hb).trans (hcc k _ (strs_nth ss k hlt))
      have hbk := Lib.hid (hq'.out k wr hlt hB)
      have Hs := Lib.hid (map_take_succJ f ss k hlt)
      have Hl := Lib.hid (show ((ss.map f).take k).length = k from by rw [List.length_take, List.length_map]; omega)
      clear hcc hV hB
      generalize f (W.nth ss k) = m at Hs hbk
      generalize W.nth ss k = x at c1 hbk
      go_wp2_with fail
      refine hbk.out.mono ?_
      rintro e w2 ⟨A2, c2, rfl, ho2, hB2⟩
      have hV2 := Lib.hid (show (w2.alloc (.cells #[.slice A2 m.length c2] 22)).ownsRow w.heap.size 22 1 (.slice Av k cv) k vs from by
        have := ((hO.out.1.below hB2).below ((Below.refl w2.heap.size w2).alloc (Nat.le_refl _) (.cells #[.slice A2 m.length c2] 22))).own
        rwa [hlk.out] at this)
      have hB3 := Lib.hid ((hO.out.2.trans (hB2.mono hsz)).alloc (Nat.le_trans hsz hB2.size) (.cells #[.slice A2 m.length c2] 22))
      have H2 := Lib.hid (And.intro ho2 hB2)
      have hsz2 := hB2.size
      clear ho2 hB2 hbk c1
      go_wp2_with (at_builtin; refine wpList_append_own _ rfl _ _ 33 rfl w.heap.size 22 i0 (.slice none 0 0) 1 24 Tryd.underlying33 HR.out.1 HR.out.2.1 HR.out.2.2.1 HR.out.2.2.2 rfl (by decide) (.slice Av k cv) k vs rfl hV2.out ⟨w2.heap.size, 0, none⟩ 1 1 [.slice A2 m.length c2] rfl rfl (cells_sli _ _ _) (one_sli _ _ _) (by unfold maxLen; omega) (by omega) (by simp; omega) ?_)
      intro v5 w5 ho5 hg5 _
      have hP5 := si_push hO.out.1 hsz H2.out.2 H2.out.1 (by rw [Hl.out]; exact ho5) hg5
      have hB5 := hB3.out.grown hg5 (by simp; omega) (fun g hg => (hV2.out.lt g hg).1)
      have H5 := Lib.hid (And.intro hP5 hB5)
      clear hP5 hB5 ho5 hg5 hV2 hB3 H2 hO
      go_wp2
      go_roundw
      case rel => exact ⟨k + 1, by omega, by go_num, by rw [Hs.out]; exact ⟨_, H5.out.1⟩, H5.out.2⟩
      case measure => simp [intOf]; omega
    · obtain rfl : k = ss.length := by omega
      clear hV hB
      go_wp2
      go_ret
      have hfin := hO.out.1
      rw [List.take_of_length_le (by simp)] at hfin
      have e : (intss (ss.map f)).length = ss.length := by rw [intss_length, List.length_map]
      exact ⟨Av, cv, by rw [e]; rfl, ⟨_, by rw [e]; exact hfin⟩, hO.out.2⟩
end Go.Proofs.YtkgoglmhojppbaaDoor
