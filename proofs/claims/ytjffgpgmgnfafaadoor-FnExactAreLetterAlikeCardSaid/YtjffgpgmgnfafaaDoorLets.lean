/-
  WHAT THIS FILE PROVES: the numbers of a word's letters: the specification's and the program's functions hand back slices of their own with the same three numbers; asked: a length that an int holds.
-/
import Derived.Test.YtjffgpgmgnfafaaDoorBord
namespace Go.Proofs.YtjffgpgmgnfafaaDoor
open Go.RowKit Go.Shelf

theorem good_letter (s : ByteArray) (h : W.good s.data.toList = true) (k : Nat) (hk : k < s.size) : s[k] = 97 ∨ s[k] = 98 ∨ s[k] = 99 := by
  have h2 : W.isWd s.data.toList = true := by unfold W.good at h; simp only [Bool.and_eq_true] at h; exact h.2
  have hl : k < s.data.toList.length := by simpa using hk
  have := List.all_eq_true.1 h2 (s.data.toList[k]) (List.getElem_mem hl)
  rw [byte_toList s k hk] at this
  exact W.isL_cases _ this

theorem own_lets (w0 w1 : World) (x y z : Int) (hB : w0.heap.size ≤ w1.heap.size) :
    (w1.alloc (.cells #[.int .i64 x, .int .i64 y, .int .i64 z] 3)).ownsRow w0.heap.size 3 1 (.slice (some ⟨w1.heap.size, 0, none⟩) 3 3) 3 (ints [x, y, z]) :=
  World.ownsRow_lit w1 #[.int .i64 x, .int .i64 y, .int .i64 z] 3 hB (by unfold maxLen; omega) rfl

theorem mk3 : ∀ w, (Instr.makeSlice 28 (.int .i64 3) (.int .i64 3)).run Tryd.prog w = .ok (.slice (some ⟨w.heap.size, 0, none⟩) 3 3) (w.alloc (.cells #[.int .i64 0, .int .i64 0, .int .i64 0] 3)) := fun _ => by kernel_rfl

/-- how often a letter stands among the first k -/
def cl (s : ByteArray) (c : UInt8) (k : Nat) : Int := ((s.data.toList.take k).count c : Nat)
theorem cl_zero (s : ByteArray) (c : UInt8) : cl s c 0 = 0 := rfl
theorem cl_yes (s : ByteArray) (c : UInt8) (k : Nat) (hk : k < s.size) (h : s[k] = c) : cl s c (k + 1) = cl s c k + 1 := by
  unfold cl
  rw [W.count_take_succ _ k (by simpa using hk), byte_toList s k hk, if_pos h]
  rfl
theorem cl_no (s : ByteArray) (c : UInt8) (k : Nat) (hk : k < s.size) (h : ¬ s[k] = c) : cl s c (k + 1) = cl s c k := by
  unfold cl
  rw [W.count_take_succ _ k (by simpa using hk), byte_toList s k hk, if_neg h]
  rfl
theorem cl_bd (s : ByteArray) (c : UInt8) (k : Nat) : 0 ≤ cl s c k ∧ cl s c k ≤ s.size := by
  unfold cl
  have h := List.count_le_length (a := c) (l := s.data.toList.take k)
  have h2 : (s.data.toList.take k).length ≤ s.data.toList.length := by simp; omega
  rw [← Lib.size_eq] at h2
  omega

set_option maxHeartbeats 1600000 in
theorem spec_wdLetters (s : ByteArray) (w : World) (hs : s.size ≤ 1099511627776) (hg : W.good s.data.toList = true) :
    Calls Tryd.prog 16 #[.string s] w fun e w' => e = .returned (.slice (some ⟨w.heap.size, 0, none⟩) 3 3) ∧
      w.alloc (.cells #[.int .i64 (cl s 97 s.size), .int .i64 (cl s 98 s.size), .int .i64 (cl s 99 s.size)] 3) = w' := by
  have hmk := mk3
  replace hg := Lib.hid hg
  go_enter Tryd.func16, Tryd.ntmps16
  go_wp2
  go_loopw [4] (fun i wr => ∃ k : Nat, k ≤ s.size ∧ i = .int .i64 k ∧ wr = w.alloc (.cells #[.int .i64 (cl s 97 k), .int .i64 (cl s 98 k), .int .i64 (cl s 99 k)] 3)) (fun i _ => s.size - (intOf i).toNat)
  case atStart => exact ⟨0, Nat.zero_le _, rfl, rfl⟩
  case round =>
    obtain ⟨k, hk, rfl, rfl⟩ := hrel
    by_cases hlt : k < s.size
    · have b0 := cl_bd s 97 k
      have b1 := cl_bd s 98 k
      have b2 := cl_bd s 99 k
      obtain ⟨b00, b01⟩ := b0
      obtain ⟨b10, b11⟩ := b1
      obtain ⟨b20, b21⟩ := b2
      rcases good_letter s hg.out k hlt with hb | hb | hb
      · have h0 : Hid (cl s 97 (k + 1) = cl s 97 k + 1) := cl_yes s 97 k hlt hb
        have h1 : Hid (cl s 98 (k + 1) = cl s 98 k) := cl_no s 98 k hlt (by rw [hb]; decide)
        have h2 : Hid (cl s 99 (k + 1) = cl s 99 k) := cl_no s 99 k hlt (by rw [hb]; decide)
        go_wp2
        go_roundw
        case rel => exact ⟨k + 1, by omega, by go_num, by rw [h0.out, h1.out, h2.out]⟩
        case measure => simp [intOf]; omega
      · have h0 : Hid (cl s 98 (k + 1) = cl s 98 k + 1) := cl_yes s 98 k hlt hb
        have h1 : Hid (cl s 97 (k + 1) = cl s 97 k) := cl_no s 97 k hlt (by rw [hb]; decide)
        have h2 : Hid (cl s 99 (k + 1) = cl s 99 k) := cl_no s 99 k hlt (by rw [hb]; decide)
        go_wp2
        go_roundw
        case rel => exact ⟨k + 1, by omega, by go_num, by rw [h0.out, h1.out, h2.out]⟩
        case measure => simp [intOf]; omega
      · have h0 : Hid (cl s 99 (k + 1) = cl s 99 k + 1) := cl_yes s 99 k hlt hb
        have h1 : Hid (cl s 97 (k + 1) = cl s 97 k) := cl_no s 97 k hlt (by rw [hb]; decide)
        have h2 : Hid (cl s 98 (k + 1) = cl s 98 k) := cl_no s 98 k hlt (by rw [hb]; decide)
        go_wp2
        go_roundw
        case rel => exact ⟨k + 1, by omega, by go_num, by rw [h0.out, h1.out, h2.out]⟩
        case measure => simp [intOf]; omega
    · obtain rfl : k = s.size := by omega
      go_wp2
      go_ret
      exact ⟨rfl, rfl⟩

theorem lettersOf_good (s : ByteArray) (h : W.good s.data.toList = true) : W.lettersOf s.data.toList = [cl s 97 s.size, cl s 98 s.size, cl s 99 s.size] := by
  unfold W.lettersOf W.lets cl
  rw [h, List.take_of_length_le (by rw [← Lib.size_eq]; exact Nat.le_refl _)]
  rfl
theorem lettersOf_no (s : ByteArray) (h : W.good s.data.toList = false) : W.lettersOf s.data.toList = [] := by
  unfold W.lettersOf
  rw [h]
  rfl


theorem count_is (s : ByteArray) (c : UInt8) : (Lib.countByte s.data.toList c : Int) = cl s c s.size := by
  unfold cl
  rw [List.take_of_length_le (by rw [← Lib.size_eq]; exact Nat.le_refl _)]
  rfl

/-- the block behind k rounds -/
def lay3 (x y z : Int) : Nat → Array Value
  | 0 => #[.int .i64 0, .int .i64 0, .int .i64 0]
  | 1 => #[.int .i64 x, .int .i64 0, .int .i64 0]
  | 2 => #[.int .i64 x, .int .i64 y, .int .i64 0]
  | _ => #[.int .i64 x, .int .i64 y, .int .i64 z]

theorem givesInts_three (w0 w1 : World) (x y z : Int) (hA : Below w0.heap.size w0 w1) : GivesInts w0 [x, y, z] (.returned (.slice (some ⟨w1.heap.size, 0, none⟩) 3 3)) (w1.alloc (.cells #[.int .i64 x, .int .i64 y, .int .i64 z] 3)) :=
  givesInts_of (xs := [x, y, z]) (own_lets w0 w1 x y z hA.size) rfl (hA.alloc hA.size _)
set_option maxHeartbeats 1600000 in
theorem impl_letterNumbers (s : ByteArray) (w : World) :
    Calls Tryd.prog 23 #[.string s] w fun e w' => e = .returned (.slice (some ⟨w.heap.size, 0, none⟩) 3 3) ∧
      w.alloc (.cells #[.int .i64 (cl s 97 s.size), .int .i64 (cl s 98 s.size), .int .i64 (cl s 99 s.size)] 3) = w' := by
  have hc0 := fun w => (Tryd.strings_Count_one s 97 w).mono fun _ _ h => And.intro h.1 h.2.symm
  have hc1 := fun w => (Tryd.strings_Count_one s 98 w).mono fun _ _ h => And.intro h.1 h.2.symm
  have hc2 := fun w => (Tryd.strings_Count_one s 99 w).mono fun _ _ h => And.intro h.1 h.2.symm
  rw [count_is] at hc0 hc1 hc2
  generalize cl s 97 s.size = x at hc0 ⊢
  generalize cl s 98 s.size = y at hc1 ⊢
  generalize cl s 99 s.size = z at hc2 ⊢
  replace hc0 := Lib.hid hc0
  replace hc1 := Lib.hid hc1
  replace hc2 := Lib.hid hc2
  have hmk := mk3
  go_enter Tryd.func23, Tryd.ntmps23
  go_wp2
  go_loopw [8] (fun i wr => ∃ k : Nat, k ≤ 3 ∧ i = .int .i64 k ∧ wr = w.alloc (.cells (lay3 x y z k) 3)) (fun i _ => 3 - (intOf i).toNat)
  case atStart => exact ⟨0, Nat.zero_le _, rfl, rfl⟩
  case round =>
    obtain ⟨k, hk, rfl, rfl⟩ := hrel
    rcases (by omega : k = 0 ∨ k = 1 ∨ k = 2 ∨ k = 3) with rfl | rfl | rfl | rfl <;> unfold lay3
    · go_wp2_with (go_at_call 34; refine (hc0.out _).mono ?_; rintro e w' ⟨rfl, rfl⟩)
      go_roundw
      case rel => exact ⟨1, by omega, rfl, rfl⟩
      case measure => simp [intOf]
    · go_wp2_with (go_at_call 34; refine (hc1.out _).mono ?_; rintro e w' ⟨rfl, rfl⟩)
      go_roundw
      case rel => exact ⟨2, by omega, rfl, rfl⟩
      case measure => simp [intOf]
    · go_wp2_with (go_at_call 34; refine (hc2.out _).mono ?_; rintro e w' ⟨rfl, rfl⟩)
      go_roundw
      case rel => exact ⟨3, by omega, rfl, rfl⟩
      case measure => simp [intOf]
    · go_wp2
      go_ret
      exact ⟨rfl, rfl⟩


end Go.Proofs.YtjffgpgmgnfafaaDoor
