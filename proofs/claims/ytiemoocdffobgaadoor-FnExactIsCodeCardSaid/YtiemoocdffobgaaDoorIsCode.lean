/-
  WHAT THIS FILE PROVES: whether a set is a code: the specification's and the program's functions tell the same; asked: a slice of texts in memory, lengths that an int holds.
-/
import Derived.Test.YtiemoocdffobgaaDoorCode
import Derived.Test.YtiemoocdffobgaaDoorFd
namespace Go.Proofs.YtiemoocdffobgaaDoor
open Go.RowKit Go.Shelf

theorem FDx.code {ss : List ByteArray} (h : W.isSet ss = true) {x : ByteArray} {ok : Bool} (hf : FDx ss x ok) : (!ok) = isCd ss := by
  rw [isCd_FD h hf]
  cases ok <;> rfl
theorem impl_isCode (A : Option Addr) (ss : List ByteArray) (c : Nat) (w : World) (h : Row w w.heap.size A (strs ss)) (hset : W.isSet ss = true) :
    Calls Tryd.prog 32 #[.slice A ss.length c] w fun e w' => e = .returned (.bool (isCd ss)) ∧ Below w.heap.size w w' := by
  have hq := Lib.hid (impl_firstDouble A ss c w h hset)
  have Hset := Lib.hid hset
  generalize hr : isCd ss = r
  replace hr := Lib.hid hr
  clear h hset
  go_enter Tryd.func32, Tryd.ntmps32
  go_wp2_with fail
  refine hq.out.mono ?_
  rintro e w1 ⟨x, ok, rfl, hf, _, hB⟩
  have he := Lib.hid (FDx.code Hset.out hf)
  have HB := Lib.hid hB
  clear hf hB
  go_wp2
  go_ret
  exact ⟨by rw [← hr.out, ← he.out]; rfl, HB.out⟩

/-- what IsCode tells -/
def icOf (ss : List ByteArray) : Bool := W.isSet ss && isCd ss
theorem icOf_no {ss : List ByteArray} (h : W.isSet ss = false) : icOf ss = false := by unfold icOf; rw [h]; rfl
theorem icOf_yes {ss : List ByteArray} (h : W.isSet ss = true) : icOf ss = isCd ss := by unfold icOf; rw [h]; rfl
theorem spec_IsCode (A : Option Addr) (ss : List ByteArray) (c : Nat) (w : World) (h : Row w w.heap.size A (strs ss)) (hl : ss.length ≤ 9223372036854775807) (hs : ∀ s ∈ ss, s.size ≤ 9223372036854775807) :
    Calls Tryd.prog 10 #[.slice A ss.length c] w fun e w' => e = .returned (.tuple #[.bool (icOf ss), .bool (W.isSet ss)]) ∧ Below w.heap.size w w' := by
  have hc := spec_wdSet A ss c w h hl hs
  cases hq : W.isSet ss
  · rw [icOf_no hq]
    rw [hq] at hc
    replace hc := Lib.hid hc
    clear h hs hq
    go_enter Tryd.func10, Tryd.ntmps10
    go_wp2_with (go_at_call 29; refine hc.out.mono ?_; rintro e w' ⟨rfl, rfl⟩)
    go_ret2
    exact ⟨rfl, Below.refl _ _⟩
  · rw [icOf_yes hq]
    have hd := Lib.hid (spec_dcCode A ss c w h hq)
    rw [hq] at hc
    replace hc := Lib.hid hc
    clear h hs hq
    generalize isCd ss = r at hd ⊢
    go_enter Tryd.func10, Tryd.ntmps10
    go_wp2_with fail
    refine hc.out.mono ?_
    rintro e w' ⟨rfl, rfl⟩
    go_wp2_with fail
    refine hd.out.mono ?_
    rintro e w1 ⟨rfl, hB⟩
    have HB := Lib.hid hB
    clear hB
    go_wp2
    go_ret2
    exact ⟨rfl, HB.out⟩
theorem impl_IsCode (A : Option Addr) (ss : List ByteArray) (c : Nat) (w : World) (h : Row w w.heap.size A (strs ss)) (hl : ss.length ≤ 9223372036854775807) (hs : ∀ s ∈ ss, s.size ≤ 9223372036854775807) :
    Calls Tryd.prog 12 #[.slice A ss.length c] w fun e w' => e = .returned (.tuple #[.bool (icOf ss), .bool (W.isSet ss)]) ∧ Below w.heap.size w w' := by
  have hc := impl_IsSet A ss c w h hl hs
  cases hq : W.isSet ss
  · rw [icOf_no hq]
    rw [hq] at hc
    replace hc := Lib.hid hc
    clear h hs hq
    go_enter Tryd.func12, Tryd.ntmps12
    go_wp2_with (go_at_call 31; refine hc.out.mono ?_; rintro e w1 ⟨rfl, hB⟩)
    go_ret2
    exact ⟨rfl, hB⟩
  · rw [icOf_yes hq]
    have hd := Lib.hid (fun W hr => impl_isCode A ss c W hr hq)
    rw [hq] at hc
    replace hc := Lib.hid hc
    replace h := Lib.hid h
    clear hs hq
    generalize isCd ss = r at hd ⊢
    go_enter Tryd.func12, Tryd.ntmps12
    go_wp2_with fail
    refine hc.out.mono ?_
    rintro e w1 ⟨rfl, hB⟩
    have HB := Lib.hid hB
    clear hB
    go_wp2_with fail
    refine (hd.out w1 ((h.out.below HB.out).more HB.out.size)).mono ?_
    rintro e w2 ⟨rfl, hB2⟩
    have HB2 := Lib.hid (HB.out.trans (hB2.mono HB.out.size))
    clear hB2
    go_wp2
    go_ret2
    exact ⟨rfl, HB2.out⟩

end Go.Proofs.YtiemoocdffobgaaDoor
