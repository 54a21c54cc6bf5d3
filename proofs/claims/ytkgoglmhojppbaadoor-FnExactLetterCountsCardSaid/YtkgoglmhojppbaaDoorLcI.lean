/-
  WHAT THIS FILE PROVES: the counts of all words of a set: the program hands back a slice of slices of its own; asked: slices in memory, lengths that an int holds.
-/
import Derived.Test.YtkgoglmhojppbaaDoorLcS
import Derived.Test.YtkgoglmhojppbaaDoorLofJ
namespace Go.Proofs.YtkgoglmhojppbaaDoor
open Go.RowKit Go.Shelf

theorem makes_letters (ss : List ByteArray) (w : World) : MakesJ 39 #[] ltN ss w := fun k u _ _ =>
  (impl_letterNumbers (W.nth ss k) u).mono fun e w' h => by
    obtain ⟨rfl, rfl⟩ := h
    exact givesInts_three u u _ _ _ (Below.refl _ _)
theorem listOf_letters (A : Option Addr) (ss : List ByteArray) (c : Nat) (w : World) (h : Row w w.heap.size A (strs ss)) (hl : ss.length ≤ 262144) :
    Calls Tryd.prog 38 #[.slice A ss.length c, .func (.func 39) #[] #[]] w (GivesSS 22 3 w (intss (ss.map ltN))) :=
  listOf_funcJ 39 #[] (enters_of Tryd.func39 (by kernel_rfl) rfl) ltN A ss c w h hl (makes_letters ss w)
set_option maxHeartbeats 1600000 in
theorem impl_LetterCounts (A : Option Addr) (ss : List ByteArray) (c : Nat) (w : World) (h : Row w w.heap.size A (strs ss)) (hl : ss.length ≤ 9223372036854775807) (hs : ∀ s ∈ ss, s.size ≤ 9223372036854775807) :
    Calls Tryd.prog 14 #[.slice A ss.length c] w (OkSS 22 3 w (intss (lcOf ss)) (W.isSet ss)) := by
  have hc := impl_IsSet A ss c w h hl hs
  cases hq : W.isSet ss
  · rw [lcOf_no hq]
    rw [hq] at hc
    replace hc := Lib.hid hc
    clear hq h hs
    go_enter Tryd.func14, Tryd.ntmps14
    go_wp2_with (go_at_call 37; refine hc.out.mono ?_; rintro e w1 ⟨rfl, hB1⟩)
    go_ret2
    exact okSS_nil _ _ _ _ _ hB1
  · rw [lcOf_yes hq]
    have h12 := W.isSet_len ss hq
    have hlo := Lib.hid (fun (u : World) (hu : Below w.heap.size w u) => listOf_letters A ss c u ((h.below hu).more hu.size) (by omega))
    rw [hq] at hc
    replace hc := Lib.hid hc
    clear hq h hs
    generalize intss (ss.map ltN) = L at hlo ⊢
    go_enter Tryd.func14, Tryd.ntmps14
    go_wp2_with (go_at_call 37; refine hc.out.mono ?_; rintro e w1 ⟨rfl, hB1⟩)
    have hl1 := Lib.hid (hlo.out w1 hB1)
    replace hB1 := Lib.hid hB1
    go_wp2_with fail
    refine hl1.out.mono ?_
    rintro e w2 ⟨A2, c2, rfl, ho2, hB2⟩
    have hB3 := hB1.out.trans (hB2.mono hB1.out.size)
    have ho3 := ownSS_lower ho2 hB1.out.size
    have H3 := Lib.hid (And.intro ho3 hB3)
    clear ho2 hB2 hB3 ho3
    go_wp2
    go_ret2
    exact okSS_of H3.out.1 rfl H3.out.2
end Go.Proofs.YtkgoglmhojppbaaDoor
