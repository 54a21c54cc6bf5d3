/-
  WHAT THIS FILE PROVES: the set of a list's words: the specification's and the program's functions hand back slices of their own that read the same; asked: a row that lies in memory, lengths that an int holds.
-/
import Derived.Test.YtnbgehaliicbnaaDoorFit
namespace Go.Proofs.YtnbgehaliicbnaaDoor
open Go.RowKit Go.Shelf

def soOk (ss : List ByteArray) : Bool := decide (ss.length ≤ 40) && W.allTo W.short ss ss.length && fitOk ss
def soOf (ss : List ByteArray) : List ByteArray := if soOk ss then ordB ss else []
theorem soOf_no {ss : List ByteArray} (h : soOk ss = false) : soOf ss = [] := by unfold soOf; rw [h]; rfl
theorem soOf_fit {ss : List ByteArray} (h1 : ss.length ≤ 40) (h2 : W.allTo W.short ss ss.length = true) : soOk ss = fitOk ss ∧ soOf ss = fitOf ss := by
  have e : soOk ss = fitOk ss := by unfold soOk; rw [decide_eq_true h1, h2]; rfl
  refine ⟨e, ?_⟩
  unfold soOf fitOf
  rw [e]

set_option maxHeartbeats 1600000 in
theorem impl_SetOf (A : Option Addr) (ss : List ByteArray) (c : Nat) (w : World) (h : Row w w.heap.size A (strs ss)) (hl : ss.length ≤ 9223372036854775807) (hs : ∀ s ∈ ss, s.size ≤ 9223372036854775807) :
    Calls Tryd.prog 19 #[.slice A ss.length c] w (OkStrs w (soOf ss) (soOk ss)) := by
  by_cases h40 : ss.length ≤ 40
  · have h40' : ¬ (40 : Int) < (ss.length : Int) := by omega
    have hc := areAll_fitsInSet A ss c w h hl hs
    cases hq : W.allTo W.short ss ss.length
    · have hno : soOk ss = false := by unfold soOk; rw [hq]; simp
      rw [hno, soOf_no hno]
      rw [hq] at hc
      replace hc := Lib.hid hc
      clear hno hq h hs
      go_enter Tryd.func19, Tryd.ntmps19
      go_wp2_with (go_at_call 27; refine hc.out.mono ?_; rintro e w1 ⟨rfl, hB⟩)
      go_ret2
      exact okStrs_nil _ _ _ hB
    · obtain ⟨e1, e2⟩ := soOf_fit h40 hq
      rw [e1, e2]
      rw [hq] at hc
      replace hc := Lib.hid hc
      replace h := Lib.hid h
      clear e1 e2 hq hs
      go_enter Tryd.func19, Tryd.ntmps19
      go_wp2_with (first | (go_at_call 27; refine hc.out.mono ?_; rintro e w1 ⟨rfl, hB⟩; have HB := Lib.hid hB; clear hB) | (go_at_call 34; refine (impl_setOfFitting A ss c w1 ((h.out.below HB.out).more HB.out.size) (by omega)).mono ?_; rintro e w2 ⟨A2, c2, rfl, ho2, hB2⟩))
      have HO := Lib.hid (And.intro ho2 hB2)
      clear ho2 hB2
      go_ret2
      exact okStrs_of (own_base HO.out.1 HB.out.size) rfl (HB.out.trans (HO.out.2.mono HB.out.size))
  · have h40' : (40 : Int) < (ss.length : Int) := by omega
    have hno : soOk ss = false := by unfold soOk; rw [decide_eq_false h40]; rfl
    rw [hno, soOf_no hno]
    clear hno h hs
    go_enter Tryd.func19, Tryd.ntmps19
    go_wp2
    go_ret2
    exact okStrs_nil _ _ _ (Below.refl _ _)

end Go.Proofs.YtnbgehaliicbnaaDoor
