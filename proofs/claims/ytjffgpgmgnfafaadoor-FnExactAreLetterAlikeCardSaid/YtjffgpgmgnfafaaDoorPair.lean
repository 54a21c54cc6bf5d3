/-
  WHAT THIS FILE PROVES: what the functions over two words give (beginnings, ends, the order): the specification's and the program's the same, false and false where one of the two texts is no word; asked: lengths that an int holds.
-/
import Derived.Test.YtjffgpgmgnfafaaDoorWord
import Derived.LoopTactic
namespace Go.Proofs.YtjffgpgmgnfafaaDoor
open Go.RowKit Go.Shelf

/-- both texts are words -/
def both (s t : ByteArray) : Bool := W.good s.data.toList && W.good t.data.toList



theorem toList_lss (s t : ByteArray) : Op.bytesLess s.toList t.toList = decide (Lib.compareBytes s.data.toList t.data.toList < 0) := by
  rw [W.compareBytes_neg, Lib.toList_data, Lib.toList_data]

set_option maxHeartbeats 400000 in
theorem spec_wdLess (s t : ByteArray) (w : World) :
    Calls Tryd.prog 25 #[.string s, .string t] w fun e w' => e = .returned (.bool (W.less s.data.toList t.data.toList)) ∧ w = w' := by
  have e1 : s.data.toList.length = s.size := (Lib.size_eq s).symm
  have e2 : t.data.toList.length = t.size := (Lib.size_eq t).symm
  by_cases h1 : s.size < t.size
  · have hr : W.less s.data.toList t.data.toList = true := by unfold W.less; rw [e1, e2]; simp [h1]
    rw [hr]
    clear hr e1 e2
    go_enter Tryd.func25, Tryd.ntmps25
    go_wp2
    go_ret
    exact ⟨rfl, rfl⟩
  · by_cases h2 : s.size = t.size
    · have hr : W.less s.data.toList t.data.toList = Op.bytesLess s.toList t.toList := by rw [toList_lss]; unfold W.less; rw [e1, e2]; simp [h2]
      rw [hr]
      clear hr e1 e2
      have hb : ((s.size : Int) == t.size) = true := by simp; omega
      have ha : decide ((s.size : Int) < t.size) = false := by simp; omega
      clear h2
      go_enter Tryd.func25, Tryd.ntmps25
      go_wp2
      go_ret
      exact ⟨rfl, rfl⟩
    · have hr : W.less s.data.toList t.data.toList = false := by unfold W.less; rw [e1, e2]; simp [h1, h2]
      rw [hr]
      clear hr e1 e2
      have hb : ((s.size : Int) == t.size) = false := by simp; omega
      have ha : decide ((s.size : Int) < t.size) = false := by simp; omega
      clear h2
      go_enter Tryd.func25, Tryd.ntmps25
      go_wp2
      go_ret
      exact ⟨rfl, rfl⟩

/-- cmp.Or of two ints that lie in a block of their own. -/
theorem cmp_Or (b : Nat) (x y : Int) (w : World) (h0 : w.cell? ⟨b, 0, none⟩ = some (.int .i64 x)) (h1 : w.cell? ⟨b, 1, none⟩ = some (.int .i64 y)) :
    Calls Tryd.prog 38 #[.slice (some ⟨b, 0, none⟩) 2 2] w fun e w' => e = .returned (.int .i64 (if x = 0 then y else x)) ∧ w = w' := by
  by_cases hx : x = 0
  · rw [if_pos hx]
    have hx' : (x != 0) = false := by simp [hx]
    clear hx
    by_cases hy : y = 0
    · have hy' : (y != 0) = false := by simp [hy]
      subst hy
      go_enter Tryd.func38, Tryd.ntmps38
      go_wp2
      go_loop [8] (fun i => ∃ k : Nat, k ≤ 2 ∧ i = .int .i64 k) (fun i => 2 - (intOf i).toNat)
      case atStart => exact ⟨0, by omega, rfl⟩
      case round =>
        obtain ⟨k, hk, rfl⟩ := hrel
        rcases (by omega : k = 0 ∨ k = 1 ∨ k = 2) with rfl | rfl | rfl
        · go_wp2
          exact ⟨⟨1, by omega, rfl⟩, by simp [intOf]⟩
        · go_wp2
          exact ⟨⟨2, by omega, rfl⟩, by simp [intOf]⟩
        · go_wp2
          go_ret
          exact ⟨rfl, rfl⟩
    · have hy' : (y != 0) = true := by simp [hy]
      clear hy
      go_enter Tryd.func38, Tryd.ntmps38
      go_wp2
      go_loop [8] (fun i => ∃ k : Nat, k ≤ 1 ∧ i = .int .i64 k) (fun i => 2 - (intOf i).toNat)
      case atStart => exact ⟨0, by omega, rfl⟩
      case round =>
        obtain ⟨k, hk, rfl⟩ := hrel
        rcases (by omega : k = 0 ∨ k = 1) with rfl | rfl
        · go_wp2
          exact ⟨⟨1, by omega, rfl⟩, by simp [intOf]⟩
        · go_wp2
          go_ret
          exact ⟨rfl, rfl⟩
  · rw [if_neg hx]
    have hx' : (x != 0) = true := by simp [hx]
    clear hx
    go_enter Tryd.func38, Tryd.ntmps38
    go_wp2
    go_loop [8] (fun i => i = .int .i64 0) (fun i => 2 - (intOf i).toNat)
    case atStart => rfl
    case round =>
      subst hrel
      go_wp2
      go_ret
      exact ⟨rfl, rfl⟩

set_option maxHeartbeats 400000 in
theorem impl_compareWords (s t : ByteArray) (w : World) :
    Calls Tryd.prog 28 #[.string s, .string t] w fun e w' => e = .returned (.int .i64 (W.cw s.data.toList t.data.toList)) ∧
      w.alloc (.cells #[.int .i64 (Lib.compareInt s.size t.size), .int .i64 (Lib.compareBytes s.data.toList t.data.toList)] 3) = w' := by
  have hr : W.cw s.data.toList t.data.toList = if Lib.compareInt s.size t.size = 0 then Lib.compareBytes s.data.toList t.data.toList else Lib.compareInt s.size t.size := by
    unfold W.cw
    rw [Lib.size_eq, Lib.size_eq]
  rw [hr]
  clear hr
  have c1 := fun w => Tryd.cmp_Compare_int s.size t.size w
  have c2 := fun w => Tryd.strings_Compare s t w
  generalize Lib.compareInt s.size t.size = x at c1 ⊢
  generalize Lib.compareBytes s.data.toList t.data.toList = y at c2 ⊢
  replace c1 := Lib.hid c1
  replace c2 := Lib.hid c2
  go_enter Tryd.func28, Tryd.ntmps28
  go_wp2_with (first | (go_at_call 39; refine (c1.out _).mono ?_; rintro e w' ⟨rfl, rfl⟩) | (go_at_call 40; refine (c2.out _).mono ?_; rintro e w' ⟨rfl, rfl⟩) | (go_at_call 38; refine (cmp_Or _ x y _ (by simp [go_sem]) (by simp [go_sem])).mono ?_; rintro e w' ⟨rfl, rfl⟩))
  all_goals (go_ret; exact ⟨rfl, rfl⟩)







end Go.Proofs.YtjffgpgmgnfafaaDoor
