/-
  WHAT THIS FILE PROVES: whether a slice of texts has a text: the specification's function and the library's tell it; asked: a slice of texts in memory.
-/
import Derived.Test.YtjopbmhldpcpdaaGreatDoorHb
import Derived.Test.YtjopbmhldpcpdaaGreatDoorQuot
import Derived.Test.YtjopbmhldpcpdaaGreatDoorMemS
import Derived.Lib.SlicesS
import Derived.Test.YtjopbmhldpcpdaaGreatDoorShelf
namespace Go.Proofs.YtjopbmhldpcpdaaGreatDoor
open Go.RowKit Go.Shelf

theorem hasB_nil (x : ByteArray) : hasB [] x = false := rfl
theorem toList_eq {s t : ByteArray} : (s.toList == t.toList) = decide (s = t) := by
  by_cases h : s = t
  · subst h; simp
  · rw [decide_eq_false h]
    exact beq_eq_false_iff_ne.2 (fun e => h (data_inj (by rw [Lib.toList_data, Lib.toList_data] at e; exact e)))

set_option maxHeartbeats 800000 in
theorem spec_wdHas (A : Option Addr) (ss : List ByteArray) (c : Nat) (s : ByteArray) (w : World) (h : Row w w.heap.size A (strs ss)) (hl : ss.length ≤ 1048576) :
    Calls Tryz.prog 20 #[.slice A ss.length c, .string s] w fun e w' => e = .returned (.bool (hasB ss s)) ∧ w = w' := by
  replace h := Lib.hid h
  have Hyes := Lib.hid (show ∀ k (hk : k < ss.length), W.nth ss k = s → hasB ss s = true from fun k hk e => hasB_mem.2 (by rw [← e, W.nth_lt ss k hk]; exact List.getElem_mem hk))
  have Hno := Lib.hid (show (∀ k, k < ss.length → W.nth ss k ≠ s) → hasB ss s = false from fun hk => by
    cases hb : hasB ss s
    · rfl
    · obtain ⟨i, hi, e⟩ := List.getElem_of_mem (hasB_mem.1 hb)
      exact absurd (by rw [W.nth_lt ss i hi]; exact e) (hk i hi))
  generalize hasB ss s = r at Hyes Hno ⊢
  go_enter Tryz.func20, Tryz.ntmps20
  go_wp2
  go_loop [9] (fun i => ∃ k : Nat, k ≤ ss.length ∧ i = .int .i64 k ∧ Hid (∀ j, j < k → W.nth ss j ≠ s)) (fun i => ss.length - (intOf i).toNat)
  case atStart => exact ⟨0, Nat.zero_le _, rfl, fun j hj => absurd hj (Nat.not_lt_zero _)⟩
  case round =>
    obtain ⟨k, hk, rfl, hno⟩ := hrel
    by_cases hlt : k < ss.length
    · obtain ⟨b, off, rfl, hb, hcc⟩ := h.out (by rw [strs_length]; omega)
      have hlt' : (k : Int) < (ss.length : Int) := by omega
      have c1 := hcc k _ (strs_nth ss k hlt)
      clear hcc
      have Hy := Lib.hid (Hyes.out k hlt)
      have Hk2 := Lib.hid (show W.nth ss k ≠ s → ∀ j, j < k + 1 → W.nth ss j ≠ s from fun e j hj => by
        by_cases e2 : j = k
        · subst e2; exact e
        · exact hno.out j (by omega))
      generalize W.nth ss k = t at c1 Hy Hk2
      by_cases heq : t = s
      · have hr := Hy.out heq
        have heq' : (s.toList == t.toList) = true := by rw [heq]; exact beq_self_eq_true _
        subst hr
        clear heq Hy Hk2
        go_wp2
        go_ret
        exact ⟨rfl, rfl⟩
      · have heq' : (s.toList == t.toList) = false := by rw [toList_eq]; exact decide_eq_false (fun e => heq e.symm)
        have Hk3 : Hid (∀ j, j < k + 1 → W.nth ss j ≠ s) := Hk2.out heq
        clear heq Hy Hk2
        go_wp2
        go_round
        case rel => exact ⟨k + 1, by omega, by go_num, Hk3⟩
        case measure => simp [intOf]; omega
    · have hke : k = ss.length := by omega
      subst hke
      have hr := Hno.out hno.out
      subst hr
      go_wp2
      go_ret
      exact ⟨rfl, rfl⟩
theorem row_getD {w : World} {B b off : Nat} {ss : List ByteArray} (h : Row w B (some ⟨b, off, none⟩) (strs ss)) : ∀ j, j < ss.length → w.cell? ⟨b, off + j, none⟩ = some (.string (ss.getD j ByteArray.empty)) := fun j hj => by
  obtain ⟨b', off', e, _, hc⟩ := h (by rw [strs_length]; omega)
  simp only [Option.some.injEq, Addr.mk.injEq, and_true] at e
  obtain ⟨rfl, rfl⟩ := e
  exact hc j _ (strs_nth ss j hj)
theorem containsS_hasB (l : List ByteArray) (x : ByteArray) : Lib.containsS l x = hasB l x := by
  have h1 := Lib.containsS_iff l x
  have h2 := hasB_mem (l := l) (x := x)
  cases h3 : Lib.containsS l x <;> cases h4 : hasB l x
  · rfl
  · rw [h3] at h1; exact absurd (h1.2 (h2.1 h4)) (by simp)
  · rw [h4] at h2; exact absurd (h2.2 (h1.1 h3)) (by simp)
  · rfl
theorem contains_any (A : Option Addr) (ss : List ByteArray) (c : Nat) (x : ByteArray) (w : World) (h : Row w w.heap.size A (strs ss)) (hl : ss.length ≤ 1048576) :
    Calls Tryz.prog 50 #[.slice A ss.length c, .string x] w fun e w' => e = .returned (.bool (hasB ss x)) ∧ w = w' := by
  by_cases h0 : ss.length = 0
  · obtain rfl := List.eq_nil_of_length_eq_zero h0
    exact (Tryz.slices_Contains_string_empty A c x w).mono fun e w' ⟨he, hw⟩ => ⟨he, hw.symm⟩
  · obtain ⟨b, off, rfl, hb, _⟩ := h (by rw [strs_length]; omega)
    refine (Tryz.slices_Contains_string b off ss.length c ss x w (Nat.le_refl _) (by omega) (row_getD h)).mono fun e w' ⟨he, hw⟩ => ⟨?_, hw.symm⟩
    rw [he, List.take_length, containsS_hasB]

end Go.Proofs.YtjopbmhldpcpdaaGreatDoor
