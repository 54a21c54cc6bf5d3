/-
  WHAT THIS FILE PROVES: whether a set is a prefix set and a suffix set: the specification's and the program's functions tell the same; asked: a slice of texts in memory, its length no more than its capacity.
-/
import Derived.Test.YtojcnalgjeojdaaDoorIsSfx
namespace Go.Proofs.YtojcnalgjeojdaaDoor
open Go.RowKit Go.Shelf

/-- what IsTwoSided tells -/
def itOf (ss : List ByteArray) : Bool := ipOf ss && isxOf ss

theorem spec_IsTwoSided (A : Option Addr) (ss : List ByteArray) (c : Nat) (w : World) (h : Row w w.heap.size A (strs ss)) (hcap : ss.length ≤ c) (hl : ss.length ≤ 9223372036854775807) (hs : ∀ s ∈ ss, s.size ≤ 9223372036854775807) :
    Calls Tryd.prog 16 #[.slice A ss.length c] w fun e w' => e = .returned (.tuple #[.bool (itOf ss), .bool (W.isSet ss)]) ∧ Below w.heap.size w w' := by
  have hc := spec_wdSet A ss c w h hl hs
  unfold itOf ipOf isxOf
  cases hq : W.isSet ss
  · rw [hq] at hc
    replace hc := Lib.hid hc
    rw [Bool.false_and, Bool.false_and]
    clear h hs hq
    go_enter Tryd.func16, Tryd.ntmps16
    go_wp2_with (go_at_call 32; refine hc.out.mono ?_; rintro e w' ⟨rfl, rfl⟩)
    go_ret2
    exact ⟨rfl, Below.refl _ _⟩
  · rw [hq] at hc
    replace hc := Lib.hid hc
    have hk0 := spec_krPrefix A ss c w h hq hcap
    have hrv := Lib.hid (spec_wdReverse A ss c w h hq)
    have hk := fun (A' : Option Addr) (c' : Nat) (W : World) (g : Row W W.heap.size A' (strs (ordB (backs ss)))) (hc : (ordB (backs ss)).length ≤ c') => spec_krPrefix A' (ordB (backs ss)) c' W g (back_set hq) hc
    rw [Bool.true_and, Bool.true_and]
    rw [back_pfx] at hk
    generalize pfxB (backs ss) = r at hk ⊢
    generalize ordB (backs ss) = os at hk hrv
    replace hk := Lib.hid hk
    cases hp : pfxB ss
    · rw [hp] at hk0
      replace hk0 := Lib.hid hk0
      clear h hs hq hp
      go_enter Tryd.func16, Tryd.ntmps16
      go_wp2_with (first | (go_at_call 32; refine hc.out.mono ?_; rintro e w' ⟨rfl, rfl⟩) | (go_at_call 37; refine hk0.out.mono ?_; rintro e w1 ⟨rfl, rfl⟩))
      go_ret2
      exact ⟨rfl, Below.refl _ _⟩
    · rw [hp] at hk0
      replace hk0 := Lib.hid hk0
      clear h hs hq hp
      go_enter Tryd.func16, Tryd.ntmps16
      go_wp2_with fail
      refine hc.out.mono ?_
      rintro e w' ⟨rfl, rfl⟩
      go_wp2_with fail
      refine hk0.out.mono ?_
      rintro e w' ⟨rfl, rfl⟩
      go_wp2_with fail
      refine hrv.out.mono ?_
      rintro e w1 ⟨A', c', rfl, ho, hB⟩
      have hk1 := Lib.hid (hk.out A' c' w1 (Row.of_own ho) (own_cap ho))
      go_wp2_with fail
      refine hk1.out.mono ?_
      rintro e w' ⟨rfl, rfl⟩
      go_wp2_with fail
      go_ret2
      exact ⟨rfl, hB⟩
theorem impl_IsTwoSided (A : Option Addr) (ss : List ByteArray) (c : Nat) (w : World) (h : Row w w.heap.size A (strs ss)) (hcap : ss.length ≤ c) (hl : ss.length ≤ 9223372036854775807) (hs : ∀ s ∈ ss, s.size ≤ 9223372036854775807) :
    Calls Tryd.prog 17 #[.slice A ss.length c] w fun e w' => e = .returned (.tuple #[.bool (itOf ss), .bool (W.isSet ss)]) ∧ Below w.heap.size w w' := by
  have hp := Lib.hid (impl_IsPrefixSet A ss c w h hcap hl hs)
  have hx := Lib.hid (fun (u : World) (hB : Below w.heap.size w u) => impl_IsSuffixSet A ss c u ((h.below hB).more hB.size) hl hs)
  unfold itOf
  generalize ipOf ss = r at hp ⊢
  generalize isxOf ss = q at hx ⊢
  generalize W.isSet ss = b at hp hx ⊢
  clear h hs
  go_enter Tryd.func17, Tryd.ntmps17
  go_wp2_with fail
  refine hp.out.mono ?_
  rintro e w1 ⟨rfl, hB⟩
  have hx1 := Lib.hid (hx.out w1 hB)
  have HB := Lib.hid hB
  clear hB
  go_wp2_with fail
  refine hx1.out.mono ?_
  rintro e w2 ⟨rfl, hB⟩
  have HB2 := Lib.hid (HB.out.trans (hB.mono HB.out.size))
  clear hB
  cases r
  · go_wp2_with fail
    go_ret2
    exact ⟨rfl, HB2.out⟩
  · go_wp2_with fail
    go_ret2
    exact ⟨rfl, HB2.out⟩
end Go.Proofs.YtojcnalgjeojdaaDoor
