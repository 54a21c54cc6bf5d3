/-
  WHAT THIS FILE PROVES: at how many places a word is within another one: the specification's and the program's functions give the same number; asked: lengths that an int holds.
-/
import Derived.Test.YtjffgpgmgnfafaaDoorPair
import Derived.Laws.RangeString
namespace Go.Proofs.YtjffgpgmgnfafaaDoor
open Go.RowKit Go.Shelf

theorem extract_end (s : ByteArray) (k : Nat) : (s.extract k s.size).data.toList = s.data.toList.drop k := by
  rw [Lib.extract_eq]
  show (List.take (s.size - k) (List.drop k s.data.toList)) = _
  exact List.take_of_length_le (by simp)

theorem good_byte (s : ByteArray) (h : W.good s.data.toList = true) (k : Nat) (hk : k < s.size) : (s[k]'hk).toNat < 128 := by
  have h2 : W.isWd s.data.toList = true := by unfold W.good at h; simp only [Bool.and_eq_true] at h; exact h.2
  have hl : k < s.data.toList.length := by simpa using hk
  have := List.all_eq_true.1 h2 (s.data.toList[k]) (List.getElem_mem hl)
  rw [byte_toList s k hk] at this
  unfold W.isL at this
  simp at this
  omega

theorem countIn_of (s t : ByteArray) (h1 : W.good s.data.toList = true) (h2 : W.good t.data.toList = true) (h3 : t.toList.isEmpty = false) : W.countIn s.data.toList t.data.toList = W.cnt s.data.toList t.data.toList s.size := by
  rw [Lib.toList_data] at h3
  unfold W.countIn
  rw [h1, h2, h3, Lib.size_eq]
  rfl

/-- a number and whether it is told -/
def countOk (s t : ByteArray) : Bool := both s t && !t.toList.isEmpty

theorem countIn_no (s t : ByteArray) (h : countOk s t = false) : W.countIn s.data.toList t.data.toList = 0 := by
  unfold countOk both at h
  rw [Lib.toList_data] at h
  unfold W.countIn
  rw [h]
  rfl

end Go.Proofs.YtjffgpgmgnfafaaDoor
