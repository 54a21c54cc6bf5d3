/-
  WHAT THIS FILE PROVES: the first ordered lengths of least cost: the specification's exported function gives the plain ones; asked: a slice in memory, a length that an int holds.
-/
import Derived.Test.YthkkneboblhmlaaOfS
namespace Go.Proofs.Ythkkneboblhmlaa
open Go.RowKit Go.Shelf

/-- what OrderedLengths tells -/
def ogOk (z : List Int) : Bool := W.beN 100 z && decide (z.length ≤ 6)
def ogOf (z : List Int) : List Int := if ogOk z then W.foS z z.length [] (W.ocI z) else []
theorem ogOf_no {z : List Int} (h : ogOk z = false) : ogOf z = [] := by unfold ogOf; rw [h]; rfl
theorem ogOf_yes {z : List Int} (h : ogOk z = true) : ogOf z = W.foS z z.length [] (W.ocI z) := by unfold ogOf; rw [h]; rfl
theorem ogOf_len (z : List Int) : (ogOf z).length ≤ 6 := by
  cases h : ogOk z
  · rw [ogOf_no h]; exact Nat.zero_le _
  · rw [ogOf_yes h]
    have h1 := W.foS_len z z.length [] (W.ocI z)
    have h2 := of_decide_eq_true (Bool.and_eq_true _ _ ▸ (show (W.beN 100 z && decide (z.length ≤ 6)) = true from h)).2
    simp at h1
    omega
set_option maxHeartbeats 3200000 in
theorem spec_OrderedLengths (A : Option Addr) (z : List Int) (c : Nat) (w : World) (h : Row w w.heap.size A (ints z)) (hcap : z.length ≤ c) (hl : z.length ≤ 9223372036854775807) :
    Calls Try.prog 6 #[.slice A z.length c] w (OkInts w (ogOf z) (ogOk z)) := by
  have hc := spec_OrderedCost A z c w h hcap hl
  cases hq : W.beN 100 z
  · have hno : ogOk z = false := by unfold ogOk; rw [hq]; rfl
    rw [ogOf_no hno, hno]
    rw [hq] at hc
    replace hc := Lib.hid hc
    clear h hq hno
    go_enter Try.func6, Try.ntmps6
    go_wp2_with (go_at_call 16; refine hc.out.mono ?_; rintro e w1 ⟨rfl, hB⟩)
    go_ret2
    exact okInts_nil _ _ _ hB
  · rw [hq, W.ocOf_yes hq] at hc
    by_cases h6 : z.length ≤ 6
    · have hyes : ogOk z = true := by unfold ogOk; rw [hq, decide_eq_true h6]; rfl
      rw [ogOf_yes hyes, hyes]
      have h6i : ¬ (6 : Int) < (z.length : Int) := by omega
      have hz12 := (W.beN_parts hq).1
      have hb := W.tcA_bound (W.beN_small hq) (by omega)
      have hs := W.stS_bound (W.beN_small hq) 0 z.length
      rw [W.stS_all] at hs
      have hoc : 0 ≤ W.ocI z ∧ W.ocI z ≤ 20000 := by unfold W.ocI; omega
      have hr := Lib.hid (fun (u : World) (hu : Below w.heap.size w u) => spec_fo hq h6 z.length [] none A 0 c (W.ocI z) u (by simp) rfl (by omega) hoc.2 ((h.below hu).more hu.size) (Row.of_own (World.ownsRow_nil u u.heap.size 3 1)))
      replace hc := Lib.hid hc
      clear h hq hyes hb hs hz12 hoc
      generalize W.foS z z.length [] (W.ocI z) = T at hr ⊢
      generalize W.ocI z = C at hc hr
      go_enter Try.func6, Try.ntmps6
      go_wp2_with (first
        | (go_at_call 16; refine hc.out.mono ?_; rintro e w1 ⟨rfl, hB⟩; have HB := Lib.hid hB; clear hB)
        | (go_at_call 17; refine (hr.out _ HB.out).mono ?_; rintro e w2 ⟨A2, c2, rfl, ho2, hB2⟩; have HF := Lib.hid (And.intro (own_base ho2 HB.out.size) (HB.out.trans (hB2.mono HB.out.size))); clear ho2 hB2))
      go_ret2
      exact okInts_of HF.out.1 rfl HF.out.2
    · have hno : ogOk z = false := by unfold ogOk; rw [decide_eq_false h6, Bool.and_false]
      rw [ogOf_no hno, hno]
      have h6i : (6 : Int) < (z.length : Int) := by omega
      replace hc := Lib.hid hc
      clear h hq hno h6
      generalize W.ocI z = C at hc
      go_enter Try.func6, Try.ntmps6
      go_wp2_with (go_at_call 16; refine hc.out.mono ?_; rintro e w1 ⟨rfl, hB⟩)
      go_ret2
      exact okInts_nil _ _ _ hB
end Go.Proofs.Ythkkneboblhmlaa
