/-
  WHAT THIS FILE PROVES: whether a set is a code: the specification's and the program's functions tell the same; asked: a slice of texts in memory, lengths that an int holds.
-/
import Derived.Test.YtjopbmhldpcpdaaGreatDoorCode
import Derived.Test.YtjopbmhldpcpdaaGreatDoorMtI
namespace Go.Proofs.YtjopbmhldpcpdaaGreatDoor
open Go.RowKit Go.Shelf

theorem FDx.code {ss : List ByteArray} (h : W.isSet ss = true) {x : ByteArray} {ok : Bool} (hf : FDx ss x ok) : (!ok) = isCd ss := by
  rw [isCd_FD h hf]
  cases ok <;> rfl
theorem impl_isCode (A : Option Addr) (ss : List ByteArray) (c : Nat) (w : World) (h : Row w w.heap.size A (strs ss)) (hset : W.isSet ss = true) :
    Calls Tryz.prog 15 #[.slice A ss.length c] w fun e w' => e = .returned (.bool (isCd ss)) ∧ Below w.heap.size w w' := by
  have hq := Lib.hid (impl_firstDouble A ss c w h hset)
  have Hset := Lib.hid hset
  generalize hr : isCd ss = r
  replace hr := Lib.hid hr
  clear h hset
  go_enter Tryz.func15, Tryz.ntmps15
  go_wp2_with fail
  refine hq.out.mono ?_
  rintro e w1 ⟨x, ok, rfl, hf, _, hB⟩
  have he := Lib.hid (FDx.code Hset.out hf)
  have HB := Lib.hid hB
  clear hf hB
  go_wp2
  go_ret
  exact ⟨by rw [← hr.out, ← he.out]; rfl, HB.out⟩

/-- what IsCode tells -/
def icOf (ss : List ByteArray) : Bool := W.isSet ss && isCd ss
theorem icOf_no {ss : List ByteArray} (h : W.isSet ss = false) : icOf ss = false := by unfold icOf; rw [h]; rfl
theorem icOf_yes {ss : List ByteArray} (h : W.isSet ss = true) : icOf ss = isCd ss := by unfold icOf; rw [h]; rfl

end Go.Proofs.YtjopbmhldpcpdaaGreatDoor
