/-
  WHAT THIS FILE PROVES: whether a text is a word: the specification's and the program's functions both return true just for at most 60 letters a, b, c; the specification's leave memory as it is, the program's turn nothing that was there; asked: a length that an int holds.
-/
import Derived.Test.YtjffgpgmgnfafaaDoorShelf
import Derived.Test.YtjffgpgmgnfafaaDoorPure
import Derived.Shelf.Strings.SlTrimAscii
import Derived.WalkKit
import Derived.WalkSpells
import Derived.WalkLawsBesides
import Derived.Below
import Derived.Outline
import Derived.Lib.Hide
namespace Go.Proofs.YtjffgpgmgnfafaaDoor
open Go.RowKit Go.Shelf

theorem ret_int {k : IntKind} {a b : Int} (h : a = b) : Ending.returned (.int k a) = .returned (.int k b) := by rw [h]
theorem ret_bool {a b : Bool} (h : a = b) : Ending.returned (.bool a) = .returned (.bool b) := by rw [h]

theorem byte_toList (s : ByteArray) (k : Nat) (h : k < s.size) : s.data.toList[k]'(by simpa using h) = s[k] := rfl

theorem not_wd (s : ByteArray) (k : Nat) (h : k < s.size) (hb : ¬ (97 ≤ s[k].toNat ∧ s[k].toNat ≤ 99)) : W.isWd s.data.toList = false := by
  refine W.isWd_of_take _ (k + 1) ?_
  rw [W.isWd_take_succ _ _ (by simpa using h), byte_toList s k h]
  simp [W.isL, hb]
theorem yes_wd (s : ByteArray) (k : Nat) (h : k < s.size) (h0 : W.isWd (s.data.toList.take k) = true) (hb : 97 ≤ s[k].toNat ∧ s[k].toNat ≤ 99) : W.isWd (s.data.toList.take (k + 1)) = true := by
  rw [W.isWd_take_succ _ _ (by simpa using h), byte_toList s k h, h0]
  simp [W.isL, hb]

set_option maxHeartbeats 400000 in
theorem spec_wdIs (s : ByteArray) (w : World) (hs : s.size ≤ 9223372036854775807) :
    Calls Tryd.prog 36 #[.string s] w fun e w' => e = .returned (.bool (W.isWd s.data.toList)) ∧ w = w' := by
  go_enter Tryd.func36, Tryd.ntmps36
  go_wp2
  go_loop [3] (fun i => ∃ k : Nat, k ≤ s.size ∧ i = .int .i64 k ∧ W.isWd (s.data.toList.take k) = true) (fun i => s.size - (intOf i).toNat)
  case atStart => exact ⟨0, Nat.zero_le _, rfl, rfl⟩
  case round =>
    obtain ⟨k, hk, rfl, hw0⟩ := hrel
    have Hw := Lib.hid hw0
    clear hw0
    by_cases hlt : k < s.size
    · have Hno : ¬ (97 ≤ s[k].toNat ∧ s[k].toNat ≤ 99) → W.isWd s.data.toList = false := not_wd s k hlt
      have Hyes := yes_wd s k hlt Hw.out
      replace Hno := Lib.hid Hno
      replace Hyes := Lib.hid Hyes
      go_wp2
      · have hb : s[k].toNat < 256 := s[k].toNat_lt
        go_ret
        exact ⟨ret_bool (Hno.out (by omega)).symm, rfl⟩
      · have hb : s[k].toNat < 256 := s[k].toNat_lt
        exact ⟨⟨k + 1, by omega, by go_num, Hyes.out (by omega)⟩, by simp [intOf]; omega⟩
      · go_ret
        exact ⟨ret_bool (Hno.out (by omega)).symm, rfl⟩
    · go_wp2
      go_ret
      have := Hw.out
      rw [List.take_of_length_le (by simp; omega)] at this
      exact ⟨ret_bool this.symm, rfl⟩



theorem trim_abc (s : ByteArray) (w : World) (hs : s.size ≤ 9223372036854775807) :
    Calls Tryd.prog 47 #[.string s, .string ⟨#[97, 98, 99]⟩] w fun e w' => e = .returned (.string ⟨(Lib.trimS s.data.toList [97, 98, 99]).toArray⟩) ∧ Below w.heap.size w w' :=
  Any.strings_Trim_laid Tryd.lays160 (by kernel_rfl) s ⟨#[97, 98, 99]⟩ w hs (by decide) (ascii_of_all (by decide))

set_option maxHeartbeats 400000 in
theorem impl_isWord (s : ByteArray) (w : World) (hs : s.size ≤ 9223372036854775807) :
    Calls Tryd.prog 37 #[.string s] w fun e w' => e = .returned (.bool (W.good s.data.toList)) ∧ Below w.heap.size w w' := by
  by_cases h : s.size ≤ 60
  · have hg : W.good s.data.toList = (Lib.trimS s.data.toList [97, 98, 99]).isEmpty := by rw [W.trim_abc]; simp [W.good, h]
    rw [hg]
    clear hg
    have hc := trim_abc s w hs
    generalize Lib.trimS s.data.toList [97, 98, 99] = l at hc ⊢
    replace hc := Lib.hid hc
    go_enter Tryd.func37, Tryd.ntmps37
    go_wp2_with (go_at_call 47; refine hc.out.mono ?_; rintro e w' ⟨rfl, hB⟩)
    go_ret
    exact ⟨by simp, hB⟩
  · have hg : W.good s.data.toList = false := by simp [W.good]; omega
    rw [hg]
    clear hg
    go_enter Tryd.func37, Tryd.ntmps37
    go_wp2
    go_ret
    exact ⟨rfl, Below.refl _ _⟩


end Go.Proofs.YtjffgpgmgnfafaaDoor
