/-
  WHAT THIS FILE PROVES: the program's list of a word with each letter behind reads as the plain one; asked: a text of at most 60 letters, at most three letters.
-/
import Derived.Test.YtdmbfmpagcjdpaaShk
import Derived.Test.YtdmbfmpagcjdpaaMemS
import Derived.Deep.RegionHeld3
namespace Go.Proofs.Ytdmbfmpagcjdpaa
open Go.RowKit Go.Shelf

set_option maxHeartbeats 1600000 in
theorem impl_oneLonger (s : ByteArray) (L : Nat) (w : World) (hs : s.size ≤ 60) (hL : L ≤ 3) :
    Calls Try.prog 23 #[.string s, .int .i64 L] w (GivesStrs w (kids s L)) := by
  obtain ⟨i0, hi, hz0, hz1, hz2⟩ := info_parts infoStr
  have HR := Lib.hid (And.intro hi (And.intro hz0 (And.intro hz1 hz2)))
  clear hi hz0 hz1 hz2
  have hs1 : (s.size : Int) ≤ 8388608 := by omega
  go_enter Try.func23, Try.ntmps23
  go_wp2
  go_loopw [5, 8] (fun v i wr => ∃ (x : Nat) (acc : List ByteArray), acc = kids s x ∧ x ≤ L ∧ i = .int .i64 x ∧ wr.ownsRow w.heap.size 9 1 v acc.length (strs acc) ∧ Below w.heap.size w wr) (fun _ i _ => L - (intOf i).toNat)
  case atStart => exact ⟨0, [], rfl, Nat.zero_le _, rfl, World.ownsRow_nil _ _ _ _, Below.refl _ _⟩
  case round =>
    obtain ⟨x, acc, hacc, hx1, rfl, ho, hB⟩ := hrel
    obtain ⟨Ar, cr, rfl⟩ := own_slice ho
    have hO := Lib.hid (And.intro ho hB)
    clear ho hB
    by_cases hlt : x < L
    · have hlt' : (x : Int) < (L : Int) := by omega
      have hx3 : (x : Int) < 3 := by omega
      have hx3' : x < 3 := by omega
      have he := Lib.hid (show acc ++ [kid s x] = kids s (x + 1) by rw [kids_succ, hacc])
      have hkd : kid s x = s ++ (⟨#[97, 98, 99]⟩ : ByteArray).extract x (x + 1) := rfl
      have hal : acc.length ≤ 3 := by rw [hacc, kids_len]; omega
      have hsz := hO.out.2.size
      have hlt4 := Lib.hid hO.out.1.lt
      clear hacc
      go_wp2_with (at_builtin; refine wpList_append_own _ rfl _ _ 22 rfl w.heap.size 9 i0 (.string ByteArray.empty) 1 16 Try.underlying22 HR.out.1 HR.out.2.1 HR.out.2.2.1 HR.out.2.2.2 rfl (by decide) _ _ _ rfl (hO.out.1.alloc _) ⟨wr.heap.size, 0, none⟩ 1 1 [.string (s ++ (⟨#[97, 98, 99]⟩ : ByteArray).extract x (x + 1))] rfl rfl (cell_one_new _ _ _) (one_text _) (by unfold maxLen; omega) (by omega) (by simp; omega) ?_)
      intro v' w6 hown' hgrow _
      have hF6 := Lib.hid (And.intro hown' ((hO.out.2.alloc hsz _).grown hgrow (by simp; omega) (fun g hg => (hlt4.out g hg).1)))
      clear hown' hgrow hlt4
      go_wp2
      go_roundw
      case rel =>
        refine ⟨x + 1, acc ++ [kid s x], he.out, by omega, by go_num, ?_, hF6.out.2⟩
        rw [strs_snoc, List.length_append, hkd]
        exact hF6.out.1
      case measure => simp [intOf]; omega
    · obtain rfl : x = L := by omega
      have HE := Lib.hid hacc
      clear hacc
      go_wp2
      go_ret
      rw [← HE.out]
      exact givesStrs_of hO.out.1 rfl hO.out.2
end Go.Proofs.Ytdmbfmpagcjdpaa
