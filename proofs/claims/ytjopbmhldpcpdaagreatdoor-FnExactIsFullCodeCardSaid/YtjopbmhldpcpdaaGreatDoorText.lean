/-
  WHAT THIS FILE PROVES: the texts of sets, and words that are put one behind the other: the specification's and the program's functions give the same; asked: a row that lies in memory, lengths that an int holds.
-/
import Derived.Test.YtjopbmhldpcpdaaGreatDoorIsSet
import Derived.Test.YtjopbmhldpcpdaaGreatDoorTexts
namespace Go.Proofs.YtjopbmhldpcpdaaGreatDoor
open Go.RowKit Go.Shelf

theorem set_sizes8 (ss : List ByteArray) (h : W.isSet ss = true) (k : Nat) (hk : k < ss.length) : 1 ≤ (W.nth ss k).size ∧ (W.nth ss k).size ≤ 8 := W.short_size _ (W.isSet_short ss h k hk)
theorem isEmpty_size (x : ByteArray) : x.toList.isEmpty = decide (x.size = 0) := by
  rw [Lib.toList_data, Lib.size_eq]
  cases x.data.toList <;> simp
theorem row_cells {w : World} {B b off : Nat} {ss : List ByteArray} (h : Row w B (some ⟨b, off, none⟩) (strs ss)) : ∀ (j : Nat) x, ss[j]? = some x → w.cell? ⟨b, off + j, none⟩ = some (.string x) := fun j x hx => by
  have hj : j < ss.length := (List.getElem?_eq_some_iff.1 hx).1
  obtain ⟨b', off', e, _, hc⟩ := h (by rw [strs_length]; omega)
  injection e with e
  injection e with e1 e2
  subst e1
  subst e2
  refine hc j _ ?_
  unfold strs
  rw [List.getElem?_map, hx]
  rfl

/-- strings.Join, whatever the list. -/
theorem join_any (A : Option Addr) (ss : List ByteArray) (c : Nat) (sep : ByteArray) (w : World) (h : Row w w.heap.size A (strs ss)) (hcap : ss.length ≤ c) (hN : ss.length ≤ 1048576)
    (hlen : (Lib.join (W.bytes ss) sep.data.toList).length ≤ 1048576) :
    Calls Tryz.prog 45 #[.slice A ss.length c, .string sep] w fun e w' => e = .returned (.string ⟨(Lib.join (W.bytes ss) sep.data.toList).toArray⟩) ∧ Below w.heap.size w w' := by
  by_cases h0 : ss.length = 0
  · have hn : ss = [] := List.eq_nil_of_length_eq_zero h0
    subst hn
    refine (Tryz.strings_Join_none A c sep w).mono fun e w' ⟨he, hw⟩ => ⟨he, by rw [hw]; exact Below.refl _ _⟩
  · obtain ⟨b, off, rfl, hb, _⟩ := h (by rw [strs_length]; omega)
    exact Tryz.strings_Join b off c ss sep w (row_cells h) hb (by omega) hcap (by show (Lib.join (W.bytes ss) sep.data.toList).length ≤ _; omega)

set_option maxHeartbeats 1600000 in
theorem spec_wdTextW (A : Option Addr) (ss : List ByteArray) (c : Nat) (w : World) (h : Row w w.heap.size A (strs ss)) (h12 : ss.length ≤ 500) (hz : ∀ k, k < ss.length → 1 ≤ (W.nth ss k).size ∧ (W.nth ss k).size ≤ 8) :
    Calls Tryz.prog 29 #[.slice A ss.length c] w fun e w' => e = .returned (.string (W.textOf ss)) ∧ w = w' := by
  have Hz := Lib.hid hz
  have Ht := Lib.hid (W.tx_size ss 8)
  replace h := Lib.hid h
  clear hz
  go_enter Tryz.func29, Tryz.ntmps29
  go_wp2
  go_loop [3, 8] (fun o i => ∃ k : Nat, k ≤ ss.length ∧ i = .int .i64 k ∧ o = .string (W.tx ss k)) (fun _ i => ss.length - (intOf i).toNat)
  case atStart => exact ⟨0, Nat.zero_le _, rfl, rfl⟩
  case round =>
    obtain ⟨k, hk, rfl, rfl⟩ := hrel
    by_cases hlt : k < ss.length
    · obtain ⟨b, off, rfl, hb, hcc⟩ := h.out (by rw [strs_length]; omega)
      have hlt' : (k : Int) < (ss.length : Int) := by omega
      have hx := (Hz.out k hlt).2
      have hsz : (W.tx ss k).size ≤ 4500 := by have := Ht.out k (fun i hi => (Hz.out i (by omega)).2); omega
      by_cases hk0 : k = 0
      · subst hk0
        have c1 : w.cell? ⟨b, off, none⟩ = some (.string (W.nth ss 0)) := hcc 0 _ (strs_nth ss 0 hlt)
        have Hs : Hid (W.tx ss 1 = W.tx ss 0 ++ W.nth ss 0) := rfl
        clear hcc
        generalize W.nth ss 0 = x at c1 hx Hs
        generalize hy : W.tx ss 0 = y at hsz Hs
        replace hy := Lib.hid hy
        go_wp2
        go_round
        case rel => exact ⟨1, by omega, by go_num, by rw [Hs.out]⟩
        case measure => simp [intOf]; omega
      · have c1 := hcc k _ (strs_nth ss k hlt)
        have hkp : (0 : Int) < (k : Int) := by omega
        have Hs : Hid (W.tx ss (k + 1) = W.tx ss k ++ ⟨#[44]⟩ ++ W.nth ss k) := by
          show W.tx ss (k + 1) = _
          show (if k = 0 then W.tx ss k else W.tx ss k ++ ⟨#[44]⟩) ++ W.nth ss k = _
          rw [if_neg hk0]
        clear hcc hk0
        generalize W.nth ss k = x at c1 hx Hs
        generalize hy : W.tx ss k = y at hsz Hs
        replace hy := Lib.hid hy
        have hone : (⟨#[44]⟩ : ByteArray).size = 1 := rfl
        have hsz2 : (y ++ ⟨#[44]⟩).size ≤ 4501 := by rw [ByteArray.size_append]; omega
        clear hone
        go_wp2
        go_round
        case rel => exact ⟨k + 1, by omega, by go_num, by rw [Hs.out]⟩
        case measure => simp [intOf]; omega
    · obtain rfl : k = ss.length := by omega
      by_cases h0 : ss.length = 0
      · have he : (W.tx ss ss.length).toList.isEmpty = true := by rw [isEmpty_size, h0]; rfl
        have hf : Hid (W.textOf ss = ⟨#[45]⟩) := if_pos h0
        clear h0
        go_wp2
        go_ret
        first | exact ⟨rfl, rfl⟩ | exact ⟨by rw [hf.out]; rfl, rfl⟩
      · have he : (W.tx ss ss.length).toList.isEmpty = false := by
          rw [isEmpty_size, decide_eq_false]
          have h1 := W.tx_pos ss (ss.length - 1) (Hz.out _ (by omega)).1
          rw [show ss.length - 1 + 1 = ss.length by omega] at h1
          omega
        have hf : Hid (W.textOf ss = W.tx ss ss.length) := if_neg h0
        clear h0
        go_wp2
        go_ret
        first | exact ⟨rfl, rfl⟩ | exact ⟨by rw [hf.out]; rfl, rfl⟩
theorem spec_wdText (A : Option Addr) (ss : List ByteArray) (c : Nat) (w : World) (h : Row w w.heap.size A (strs ss)) (hq : W.isSet ss = true) :
    Calls Tryz.prog 29 #[.slice A ss.length c] w fun e w' => e = .returned (.string (W.textOf ss)) ∧ w = w' :=
  spec_wdTextW A ss c w h (by have := W.isSet_len ss hq; omega) (set_sizes8 ss hq)




end Go.Proofs.YtjopbmhldpcpdaaGreatDoor
