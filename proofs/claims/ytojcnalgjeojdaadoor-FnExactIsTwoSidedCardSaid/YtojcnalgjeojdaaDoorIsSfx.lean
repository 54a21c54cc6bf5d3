/-
  WHAT THIS FILE PROVES: whether no word of a set ends with another one: the specification's and the program's functions tell the same; asked: a slice of texts in memory, lengths that an int holds.
-/
import Derived.Test.YtojcnalgjeojdaaDoorIsPfx
import Derived.Test.YtojcnalgjeojdaaDoorBack
namespace Go.Proofs.YtojcnalgjeojdaaDoor
open Go.RowKit Go.Shelf

/-- what IsSuffixSet tells -/
def isxOf (ss : List ByteArray) : Bool := W.isSet ss && pfxB (backs ss)
theorem back_short (x : ByteArray) : W.short (backB x) = W.short x := by
  have h1 : (backB x).data.toList = x.data.toList.reverse := rfl
  have h2 : (backB x).size = x.size := by rw [Lib.size_eq, h1, List.length_reverse, ← Lib.size_eq]
  unfold W.short W.isWd
  rw [h1, h2, List.all_reverse]
theorem back_set {ss : List ByteArray} (h : W.isSet ss = true) : W.isSet (ordB (backs ss)) = true := by
  rw [isSet_ord _ (fun x hx => by
    obtain ⟨y, hy, rfl⟩ := List.mem_map.1 hx
    rw [back_short]
    exact set_mem h y hy)]
  exact (fit_backs (W.isSet_len ss h)).1
theorem back_pfx (ss : List ByteArray) : pfxB (ordB (backs ss)) = pfxB (backs ss) := pfxB_mem (mem_ord _)

theorem impl_IsSuffixSet (A : Option Addr) (ss : List ByteArray) (c : Nat) (w : World) (h : Row w w.heap.size A (strs ss)) (hl : ss.length ≤ 9223372036854775807) (hs : ∀ s ∈ ss, s.size ≤ 9223372036854775807) :
    Calls Tryd.prog 40 #[.slice A ss.length c] w fun e w' => e = .returned (.tuple #[.bool (isxOf ss), .bool (W.isSet ss)]) ∧ Below w.heap.size w w' := by
  have hc := impl_IsSet A ss c w h hl hs
  unfold isxOf
  cases hq : W.isSet ss
  · rw [hq] at hc
    replace hc := Lib.hid hc
    rw [Bool.false_and]
    clear h hs hq
    go_enter Tryd.func40, Tryd.ntmps40
    go_wp2_with (go_at_call 34; refine hc.out.mono ?_; rintro e w1 ⟨rfl, hB⟩)
    go_ret2
    exact ⟨rfl, hB⟩
  · rw [hq] at hc
    replace hc := Lib.hid hc
    have h12 := W.isSet_len ss hq
    have hlb := fun (W : World) (g : Row W W.heap.size A (strs ss)) => listOf_backwards A ss c W g hq
    have hk := fun (A' : Option Addr) (c' : Nat) (W : World) (g : Row W W.heap.size A' (strs (backs ss))) => impl_isPrefixSet A' (backs ss) c' W g (by rw [backs_length]; omega)
    rw [Bool.true_and]
    generalize pfxB (backs ss) = r at hk ⊢
    generalize backs ss = os at hk hlb
    replace hk := Lib.hid hk
    replace hlb := Lib.hid hlb
    replace h := Lib.hid h
    clear hs hq
    go_enter Tryd.func40, Tryd.ntmps40
    go_wp2_with (go_at_call 34; refine hc.out.mono ?_; rintro e w1 ⟨rfl, hB⟩; have hB1 := Lib.hid hB; clear hB)
    have hq2 := Lib.hid (hlb.out w1 ((h.out.below hB1.out).more hB1.out.size))
    go_wp2_with (go_at_call 51; refine hq2.out.mono ?_; rintro e w2 ⟨A', c', rfl, ho, hB⟩)
    have hB2 := Lib.hid (hB1.out.trans (hB.mono hB1.out.size))
    have hk1 := Lib.hid (hk.out A' c' w2 (Row.of_own ho))
    clear ho hB
    go_wp2_with (go_at_call 50; refine hk1.out.mono ?_; rintro e w3 ⟨rfl, hB3⟩)
    go_ret2
    exact ⟨rfl, hB2.out.trans (hB3.mono hB2.out.size)⟩
end Go.Proofs.YtojcnalgjeojdaaDoor
