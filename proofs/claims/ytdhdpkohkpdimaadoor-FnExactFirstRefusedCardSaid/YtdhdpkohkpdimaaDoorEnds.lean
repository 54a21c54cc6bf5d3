/-
  WHAT THIS FILE PROVES: whether a dangling list is the last one, whatever lists are before it: the program's function tells it; asked: two slices of texts in memory.
-/
import Derived.Test.YtdhdpkohkpdimaaDoorDangS
namespace Go.Proofs.YtdhdpkohkpdimaaDoor
open Go.RowKit Go.Shelf

theorem row_getD {w : World} {B b off : Nat} {ss : List ByteArray} (h : Row w B (some ⟨b, off, none⟩) (strs ss)) : ∀ j, j < ss.length → w.cell? ⟨b, off + j, none⟩ = some (.string (ss.getD j ByteArray.empty)) := fun j hj => by
  obtain ⟨b', off', e, _, hc⟩ := h (by rw [strs_length]; omega)
  simp only [Option.some.injEq, Addr.mk.injEq, and_true] at e
  obtain ⟨rfl, rfl⟩ := e
  exact hc j _ (strs_nth ss j hj)
theorem containsS_hasB (l : List ByteArray) (x : ByteArray) : Lib.containsS l x = hasB l x := by
  have h1 := Lib.containsS_iff l x
  have h2 := hasB_mem (l := l) (x := x)
  cases h3 : Lib.containsS l x <;> cases h4 : hasB l x
  · rfl
  · rw [h3] at h1; exact absurd (h1.2 (h2.1 h4)) (by simp)
  · rw [h4] at h2; exact absurd (h2.2 (h1.1 h3)) (by simp)
  · rfl
theorem contains_any (A : Option Addr) (ss : List ByteArray) (c : Nat) (x : ByteArray) (w : World) (h : Row w w.heap.size A (strs ss)) (hl : ss.length ≤ 1048576) :
    Calls Tryd.prog 62 #[.slice A ss.length c, .string x] w fun e w' => e = .returned (.bool (hasB ss x)) ∧ w = w' := by
  by_cases h0 : ss.length = 0
  · obtain rfl := List.eq_nil_of_length_eq_zero h0
    exact (Tryd.slices_Contains_string_empty A c x w).mono fun e w' ⟨he, hw⟩ => ⟨he, hw.symm⟩
  · obtain ⟨b, off, rfl, hb, _⟩ := h (by rw [strs_length]; omega)
    refine (Tryd.slices_Contains_string b off ss.length c ss x w (Nat.le_refl _) (by omega) (row_getD h)).mono fun e w' ⟨he, hw⟩ => ⟨?_, hw.symm⟩
    rw [he, List.take_length, containsS_hasB]
theorem impl_ends1 (b : Nat) (A : Option Addr) (ss : List ByteArray) (c : Nat) (s : ByteArray) (w : World) (hc : w.cell? ⟨b, 0, none⟩ = some (.slice A ss.length c)) (h : Row w w.heap.size A (strs ss)) (hl : ss.length ≤ 1048576) :
    Calls Tryd.prog 61 #[.string s, .pointer (some ⟨b, 0, none⟩)] w fun e w' => e = .returned (.bool (hasB ss s)) ∧ w = w' := by
  have hq := Lib.hid (contains_any A ss c s w h hl)
  generalize hasB ss s = r at hq ⊢
  go_enter Tryd.func61, Tryd.ntmps61
  go_wp2_with (go_at_call 62; refine hq.out.mono ?_; rintro e w' ⟨rfl, rfl⟩)
  go_ret
  exact ⟨rfl, rfl⟩
/-- an index is found just if some text is in the set -/
def FoundAt (ss l : List ByteArray) (w : World) (e : Ending) (w' : World) : Prop := ∃ r : Int, e = .returned (.int .i64 r) ∧ decide (0 ≤ r) = dHit ss l ∧ w = w'
set_option maxHeartbeats 800000 in
theorem index_ends (b : Nat) (A : Option Addr) (ss : List ByteArray) (c : Nat) (A' : Option Addr) (l : List ByteArray) (c' : Nat) (w : World) (hc : w.cell? ⟨b, 0, none⟩ = some (.slice A ss.length c)) (h : Row w w.heap.size A (strs ss)) (h' : Row w w.heap.size A' (strs l)) (hl : ss.length ≤ 1048576) (hl' : l.length ≤ 1048576) :
    Calls Tryd.prog 76 #[.slice A' l.length c', .func (.func 61) #[] #[.pointer (some ⟨b, 0, none⟩)]] w (FoundAt ss l w) := by
  have hq := Lib.hid (fun s => impl_ends1 b A ss c s w hc h hl)
  replace h' := Lib.hid h'
  clear hc h
  go_enter Tryd.func76, Tryd.ntmps76
  go_wp2
  go_loop [8] (fun i => ∃ k : Nat, k ≤ l.length ∧ i = .int .i64 k ∧ Hid (dHit ss (l.take k) = false)) (fun i => l.length - (intOf i).toNat)
  case atStart => exact ⟨0, Nat.zero_le _, rfl, rfl⟩
  case round =>
    obtain ⟨k, hk, rfl, hno⟩ := hrel
    by_cases hlt : k < l.length
    · obtain ⟨b2, off, rfl, hb, hcc⟩ := h'.out (by rw [strs_length]; omega)
      have hlt' : (k : Int) < (l.length : Int) := by omega
      have c1 := hcc k _ (strs_nth l k hlt)
      have hs := Lib.hid (dHit_succ ss l k hlt)
      have hall : Hid (hasB ss (W.nth l k) = true → dHit ss l = true) := fun e => by
        unfold dHit
        rw [List.any_eq_true]
        exact ⟨_, by rw [W.nth_lt l k hlt]; exact List.getElem_mem hlt, e⟩
      clear hcc
      generalize W.nth l k = x at c1 hs hall
      have hq1 := Lib.hid (hq.out x)
      cases hd : hasB ss x
      · rw [hd] at hq1
        have hs2 : Hid (dHit ss (l.take (k + 1)) = false) := by
          show _ = _
          rw [hs.out, hno.out, hd]
          rfl
        clear hd hs
        go_wp2_with (go_at_call 61; refine hq1.out.mono ?_; rintro e w' ⟨rfl, rfl⟩)
        go_round
        case rel => exact ⟨k + 1, by omega, by go_num, hs2⟩
        case measure => simp [intOf]; omega
      · rw [hd] at hq1
        have ha := Lib.hid (hall.out hd)
        clear hd hs hall
        go_wp2_with (go_at_call 61; refine hq1.out.mono ?_; rintro e w' ⟨rfl, rfl⟩)
        go_ret
        exact ⟨k, rfl, by rw [ha.out]; simp, rfl⟩
    · obtain rfl : k = l.length := by omega
      have hn := hno.out
      rw [List.take_length] at hn
      have Hn := Lib.hid hn
      clear hn hno
      go_wp2
      go_ret
      exact ⟨-1, rfl, by rw [Hn.out]; rfl, rfl⟩
theorem contains_ends (b : Nat) (A : Option Addr) (ss : List ByteArray) (c : Nat) (A' : Option Addr) (l : List ByteArray) (c' : Nat) (w : World) (hc : w.cell? ⟨b, 0, none⟩ = some (.slice A ss.length c)) (h : Row w w.heap.size A (strs ss)) (h' : Row w w.heap.size A' (strs l)) (hl : ss.length ≤ 1048576) (hl' : l.length ≤ 1048576) :
    Calls Tryd.prog 60 #[.slice A' l.length c', .func (.func 61) #[] #[.pointer (some ⟨b, 0, none⟩)]] w fun e w' => e = .returned (.bool (dHit ss l)) ∧ w = w' := by
  have hq := Lib.hid (index_ends b A ss c A' l c' w hc h h' hl hl')
  generalize hd : dHit ss l = r at hq ⊢
  replace hd := Lib.hid hd
  go_enter Tryd.func60, Tryd.ntmps60
  go_wp2_with fail
  refine hq.out.mono ?_
  rintro e w' ⟨x, rfl, hx, rfl⟩
  rw [hd.out] at hx
  subst hx
  go_wp2
  go_ret
  exact ⟨rfl, rfl⟩
set_option maxHeartbeats 800000 in
theorem impl_endsDangling (A' : Option Addr) (l : List ByteArray) (c' : Nat) (A : Option Addr) (ss : List ByteArray) (c : Nat) (w : World) (h' : Row w w.heap.size A' (strs l)) (h : Row w w.heap.size A (strs ss)) (hl : ss.length ≤ 1048576) (hl' : l.length ≤ 1048576) :
    Calls Tryd.prog 36 #[.slice A' l.length c', .slice A ss.length c] w fun e w' => e = .returned (.bool (l.isEmpty || dHit ss l)) ∧ Below w.heap.size w w' := by
  have hB := Lib.hid ((Below.refl w.heap.size w).alloc (Nat.le_refl _) (.cells #[.slice A ss.length c] 22))
  have hq := Lib.hid (contains_ends w.heap.size A ss c A' l c' (w.alloc (.cells #[.slice A ss.length c] 22)) (by rw [World.cell?_alloc_at _ _ _ _ rfl]; rfl) ((h.below hB.out).more hB.out.size) ((h'.below hB.out).more hB.out.size) hl hl')
  clear h h'
  by_cases h0 : l.length = 0
  · have hl0 : l = [] := List.eq_nil_of_length_eq_zero h0
    subst hl0
    clear h0 hq
    go_enter Tryd.func36, Tryd.ntmps36
    go_wp2
    go_ret
    exact ⟨rfl, hB.out⟩
  · have he : ((l.length : Int) == 0) = false := beq_eq_false_iff_ne.2 (by omega)
    have he2 : Hid (l.isEmpty = false) := by
      show _ = _
      cases l with
      | nil => exact absurd rfl h0
      | cons a r => rfl
    clear h0
    generalize dHit ss l = r at hq ⊢
    go_enter Tryd.func36, Tryd.ntmps36
    go_wp2_with (go_at_call 60; refine hq.out.mono ?_; rintro e w' ⟨rfl, rfl⟩)
    go_ret
    exact ⟨by rw [he2.out]; rfl, hB.out⟩

end Go.Proofs.YtdhdpkohkpdimaaDoor
