/-
  WHAT THIS FILE PROVES: the lengths of a word's borders: the specification's and the program's functions hand back slices of their own with the same numbers; asked: a length that an int holds.
-/
import Derived.Test.YtaghllkmifehmaaDoorCount
import Derived.Test.YtaghllkmifehmaaDoorMem
namespace Go.Proofs.YtaghllkmifehmaaDoor
open Go.RowKit Go.Shelf

theorem one_cell (x : Int) : ∀ u ∈ [Value.int .i64 x], u.oneCell' = true := fun u hu => by
  simp only [List.mem_cons, List.mem_nil_iff, or_false] at hu
  subst hu
  rfl

theorem extract_front (s : ByteArray) (k : Nat) : (s.extract 0 k).data.toList = s.data.toList.take k := by
  rw [Lib.extract_eq]
  simp

set_option maxHeartbeats 1600000 in
theorem spec_BordersOf (s : ByteArray) (w : World) (hs : s.size ≤ 9223372036854775807) :
    Calls Tryd.prog 20 #[.string s] w (OkInts w (W.bordersOf s.data.toList) (W.good s.data.toList)) := by
  cases h1 : W.good s.data.toList
  · have hr : W.bordersOf s.data.toList = [] := by unfold W.bordersOf; rw [h1]; rfl
    rw [hr]
    clear hr
    go_enter Tryd.func20, Tryd.ntmps20
    go_wp2_with (go_at_call 27; refine (spec_wdGood s _ hs).mono ?_; rintro e w1 ⟨rfl, rfl⟩)
    go_ret2
    exact okInts_nil _ _ _ (Below.refl _ _)
  · have hr : W.bordersOf s.data.toList = W.bord s.data.toList s.size := by unfold W.bordersOf; rw [h1, Lib.size_eq]; rfl
    have h60 : s.size ≤ 60 := by
      have := h1
      unfold W.good at this
      simp only [Bool.and_eq_true, decide_eq_true_eq] at this
      have h := this.1
      rwa [← Lib.size_eq] at h
    obtain ⟨i0, hi, hz0, hz1, hz2⟩ := info_parts infoInt
    have HR := Lib.hid (And.intro hr (And.intro hi (And.intro hz0 (And.intro hz1 hz2))))
    clear hr hi hz0 hz1 hz2
    go_enter Tryd.func20, Tryd.ntmps20
    go_wp2_with (go_at_call 27; refine (spec_wdGood s _ hs).mono ?_; rintro e w1 ⟨rfl, rfl⟩)
    go_loopw [4, 5] (fun v i wr => ∃ k : Nat, 1 ≤ k ∧ (k ≤ s.size ∨ k = 1) ∧ i = .int .i64 k ∧ wr.ownsRow w.heap.size 3 1 v (W.bord s.data.toList k).length (ints (W.bord s.data.toList k)) ∧ Below w.heap.size w wr)
      (fun _ i _ => s.size - (intOf i).toNat)
    case atStart => exact ⟨1, Nat.le_refl _, .inr rfl, rfl, by rw [W.bord_one]; exact World.ownsRow_nil _ _ _ _, Below.refl _ _⟩
    case round =>
      obtain ⟨k, hk1, hk2, rfl, ho, hB⟩ := hrel
      by_cases hlt : k < s.size
      · have hc := fun W => spec_wdEnds s (s.extract 0 k) W hs
        rw [extract_front] at hc
        have Hs := Lib.hid (W.bord_succ s.data.toList k hk1)
        have hlen := W.bord_length s.data.toList k
        cases hq : Lib.hasSuffix s.data.toList (s.data.toList.take k)
        · rw [hq] at hc
          have Hq := Lib.hid hq
          clear hq
          replace hc := Lib.hid hc
          have hO := Lib.hid (And.intro ho hB)
          clear ho hB
          go_wp2_with (go_at_call 31; refine (hc.out _).mono ?_; rintro e w' ⟨rfl, rfl⟩)
          go_roundw
          case rel =>
            refine ⟨k + 1, by omega, .inl (by omega), by go_num, ?_, hO.out.2⟩
            rw [Hs.out, Hq.out]
            simpa using hO.out.1
          case measure => simp [intOf]; omega
        · rw [hq] at hc
          have Hq := Lib.hid hq
          clear hq
          replace hc := Lib.hid hc
          have hO := Lib.hid (And.intro ho hB)
          clear ho hB
          go_wp2_with (first | (go_at_call 31; refine (hc.out _).mono ?_; rintro e w' ⟨rfl, rfl⟩) | (at_builtin; refine wpList_append_own _ rfl _ _ 28 rfl w.heap.size 3 i0 (.int .i64 0) 1 8 Tryd.underlying28 HR.out.2.1 HR.out.2.2.1 HR.out.2.2.2.1 HR.out.2.2.2.2 rfl (by decide) _ _ _ rfl (hO.out.1.alloc _) ⟨wr.heap.size, 0, none⟩ 1 1 [.int .i64 k] rfl rfl ?c1 ?c2 ?c3 ?c4 ?c5 ?_))
          case c1 => exact cell_one_new _ _ _
          case c2 => exact one_cell _
          case c3 => unfold maxLen; omega
          case c4 => omega
          case c5 => have := hO.out.2.size; simp; omega
          intro v' w1 hown' hgrow _
          have hO2 := Lib.hid (And.intro hown' hgrow)
          clear hown' hgrow
          go_wp2
          go_roundw
          case rel =>
            refine ⟨k + 1, by omega, .inl (by omega), by go_num, ?_, ?_⟩
            · rw [Hs.out, Hq.out]
              have := hO2.out.1
              unfold ints at this ⊢
              simpa using this
            · have hlt := hO.out.1.lt
              exact (hO.out.2.alloc hO.out.2.size _).grown hO2.out.2 (by have := hO.out.2.size; simp; omega) (fun g hg => (hlt g hg).1)
          case measure => simp [intOf]; omega
      · have hO := Lib.hid (And.intro ho hB)
        clear ho hB
        go_wp2
        go_ret2
        have hkk : W.bord s.data.toList s.size = W.bord s.data.toList k := by
          rcases hk2 with h | h
          · have : k = s.size := by omega
            rw [this]
          · subst h
            rcases (by omega : s.size = 0 ∨ s.size = 1) with h0 | h0 <;> rw [h0]
            rw [W.bord_one]
            rfl
        rw [HR.out.1, hkk]
        exact okInts_of hO.out.1 rfl hO.out.2

set_option maxHeartbeats 1600000 in
theorem impl_BordersOf (s : ByteArray) (w : World) (hs : s.size ≤ 9223372036854775807) :
    Calls Tryd.prog 21 #[.string s] w (OkInts w (W.bordersOf s.data.toList) (W.good s.data.toList)) := by
  cases h1 : W.good s.data.toList
  · have hr : W.bordersOf s.data.toList = [] := by unfold W.bordersOf; rw [h1]; rfl
    rw [hr]
    clear hr
    go_enter Tryd.func21, Tryd.ntmps21
    go_wp2_with (go_at_call 11; refine (impl_IsWord s _ hs).mono ?_; rintro e w1 ⟨rfl, hA⟩)
    go_ret2
    exact okInts_nil _ _ _ hA
  · have hr : W.bordersOf s.data.toList = W.bord s.data.toList s.size := by unfold W.bordersOf; rw [h1, Lib.size_eq]; rfl
    have h60 : s.size ≤ 60 := by
      have := h1
      unfold W.good at this
      simp only [Bool.and_eq_true, decide_eq_true_eq] at this
      have h := this.1
      rwa [← Lib.size_eq] at h
    obtain ⟨i0, hi, hz0, hz1, hz2⟩ := info_parts infoInt
    have HR := Lib.hid (And.intro hr (And.intro hi (And.intro hz0 (And.intro hz1 hz2))))
    clear hr hi hz0 hz1 hz2
    go_enter Tryd.func21, Tryd.ntmps21
    go_wp2_with (go_at_call 11; refine (impl_IsWord s _ hs).mono ?_; rintro e w1 ⟨rfl, hA⟩)
    go_loopw [4, 5] (fun v i wr => ∃ k : Nat, 1 ≤ k ∧ (k ≤ s.size ∨ k = 1) ∧ i = .int .i64 k ∧ wr.ownsRow w.heap.size 3 1 v (W.bord s.data.toList k).length (ints (W.bord s.data.toList k)) ∧ Below w.heap.size w wr)
      (fun _ i _ => s.size - (intOf i).toNat)
    case atStart => exact ⟨1, Nat.le_refl _, .inr rfl, rfl, by rw [W.bord_one]; exact World.ownsRow_nil _ _ _ _, hA⟩
    case round =>
      obtain ⟨k, hk1, hk2, rfl, ho, hB⟩ := hrel
      by_cases hlt : k < s.size
      · have hc := fun W => (Tryd.strings_HasSuffix s (s.extract 0 k) W hs).mono fun _ _ h => And.intro h.1 h.2.symm
        rw [extract_front] at hc
        have Hs := Lib.hid (W.bord_succ s.data.toList k hk1)
        have hlen := W.bord_length s.data.toList k
        cases hq : Lib.hasSuffix s.data.toList (s.data.toList.take k)
        · rw [hq] at hc
          have Hq := Lib.hid hq
          clear hq
          replace hc := Lib.hid hc
          have hO := Lib.hid (And.intro ho hB)
          clear ho hB
          go_wp2_with (go_at_call 32; refine (hc.out _).mono ?_; rintro e w' ⟨rfl, rfl⟩)
          go_roundw
          case rel =>
            refine ⟨k + 1, by omega, .inl (by omega), by go_num, ?_, hO.out.2⟩
            rw [Hs.out, Hq.out]
            simpa using hO.out.1
          case measure => simp [intOf]; omega
        · rw [hq] at hc
          have Hq := Lib.hid hq
          clear hq
          replace hc := Lib.hid hc
          have hO := Lib.hid (And.intro ho hB)
          clear ho hB
          go_wp2_with (first | (go_at_call 32; refine (hc.out _).mono ?_; rintro e w' ⟨rfl, rfl⟩) | (at_builtin; refine wpList_append_own _ rfl _ _ 28 rfl w.heap.size 3 i0 (.int .i64 0) 1 8 Tryd.underlying28 HR.out.2.1 HR.out.2.2.1 HR.out.2.2.2.1 HR.out.2.2.2.2 rfl (by decide) _ _ _ rfl (hO.out.1.alloc _) ⟨wr.heap.size, 0, none⟩ 1 1 [.int .i64 k] rfl rfl ?c1 ?c2 ?c3 ?c4 ?c5 ?_))
          case c1 => exact cell_one_new _ _ _
          case c2 => exact one_cell _
          case c3 => unfold maxLen; omega
          case c4 => omega
          case c5 => have := hO.out.2.size; simp; omega
          intro v' w1 hown' hgrow _
          have hO2 := Lib.hid (And.intro hown' hgrow)
          clear hown' hgrow
          go_wp2
          go_roundw
          case rel =>
            refine ⟨k + 1, by omega, .inl (by omega), by go_num, ?_, ?_⟩
            · rw [Hs.out, Hq.out]
              have := hO2.out.1
              unfold ints at this ⊢
              simpa using this
            · have hlt := hO.out.1.lt
              exact (hO.out.2.alloc hO.out.2.size _).grown hO2.out.2 (by have := hO.out.2.size; simp; omega) (fun g hg => (hlt g hg).1)
          case measure => simp [intOf]; omega
      · have hO := Lib.hid (And.intro ho hB)
        clear ho hB
        go_wp2
        go_ret2
        have hkk : W.bord s.data.toList s.size = W.bord s.data.toList k := by
          rcases hk2 with h | h
          · have : k = s.size := by omega
            rw [this]
          · subst h
            rcases (by omega : s.size = 0 ∨ s.size = 1) with h0 | h0 <;> rw [h0]
            rw [W.bord_one]
            rfl
        rw [HR.out.1, hkk]
        exact okInts_of hO.out.1 rfl hO.out.2

end Go.Proofs.YtaghllkmifehmaaDoor
