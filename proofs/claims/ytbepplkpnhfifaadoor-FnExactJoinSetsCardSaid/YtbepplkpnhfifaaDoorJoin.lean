/-
  WHAT THIS FILE PROVES: the set of two sets' words: the specification's and the program's functions hand back slices of their own that read the same; asked: rows that lie in memory, lengths that an int holds.
-/
import Derived.Test.YtbepplkpnhfifaaDoorFit
import Derived.Test.YtbepplkpnhfifaaDoorSConcat
namespace Go.Proofs.YtbepplkpnhfifaaDoor
open Go.RowKit Go.Shelf

def joOk (s0 s1 : List ByteArray) : Bool := W.isSet s0 && W.isSet s1 && fitOk (s0 ++ s1)
def joOf (s0 s1 : List ByteArray) : List ByteArray := if joOk s0 s1 then ordB (s0 ++ s1) else []
theorem joOf_no {s0 s1 : List ByteArray} (h : joOk s0 s1 = false) : joOf s0 s1 = [] := by unfold joOf; rw [h]; rfl
theorem joOf_fit {s0 s1 : List ByteArray} (h0 : W.isSet s0 = true) (h1 : W.isSet s1 = true) : joOk s0 s1 = fitOk (s0 ++ s1) ∧ joOf s0 s1 = fitOf (s0 ++ s1) := by
  have e : joOk s0 s1 = fitOk (s0 ++ s1) := by unfold joOk; rw [h0, h1]; rfl
  refine ⟨e, ?_⟩
  unfold joOf fitOf
  rw [e]
theorem joOk_len {s0 s1 : List ByteArray} (h : joOk s0 s1 = true) : s0.length ≤ 12 ∧ s1.length ≤ 12 := by
  unfold joOk at h
  simp only [Bool.and_eq_true] at h
  exact ⟨W.isSet_len _ h.1.1, W.isSet_len _ h.1.2⟩

/-- the call that the program makes: the two slices lie in a block of its own. -/
theorem concat2_here (A1 A2 : Option Addr) (s1 s2 : List ByteArray) (c1 c2 : Nat) (w w1 W2 : World) (hW : W2 = w1.alloc (.cells #[.slice A1 s1.length c1, .slice A2 s2.length c2] 22) ∨ W2 = (w1.alloc (.cells #[.slice A1 s1.length c1, .slice A2 s2.length c2] 22)).drew) (hB : Below w.heap.size w w1)
    (h1 : Row w w.heap.size A1 (strs s1)) (h2 : Row w w.heap.size A2 (strs s2)) (l1 : s1.length ≤ 12) (l2 : s2.length ≤ 12) :
    Calls Tryd.prog 38 #[.slice (some ⟨w1.heap.size, 0, none⟩) 2 2] W2
      fun e w2 => ∃ A c, e = .returned (.slice A (s1 ++ s2).length c) ∧ Row w2 w2.heap.size A (strs (s1 ++ s2)) ∧ Below w.heap.size w w2 := by
  have hBa : Below w.heap.size w W2 := by
    rcases hW with rfl | rfl
    · exact hB.alloc hB.size _
    · exact (hB.alloc hB.size _).drew
  refine (slices_Concat2 w1.heap.size A1 A2 s1 s2 c1 c2 _ ?_ ?_ ?_ ((h1.below hBa).more hBa.size) ((h2.below hBa).more hBa.size) (by omega) (by omega)).mono ?_
  · rcases hW with rfl | rfl
    · show w1.heap.size < (w1.heap.push _).size
      rw [Array.size_push]; omega
    · show w1.heap.size < (w1.heap.push _).size
      rw [Array.size_push]; omega
  · have : (w1.alloc (.cells #[.slice A1 s1.length c1, .slice A2 s2.length c2] 22)).cell? ⟨w1.heap.size, 0, none⟩ = some (.slice A1 s1.length c1) := by
      rw [World.cell?_alloc_at _ _ _ _ rfl]
      rfl
    rcases hW with rfl | rfl
    · exact this
    · exact this
  · have : (w1.alloc (.cells #[.slice A1 s1.length c1, .slice A2 s2.length c2] 22)).cell? ⟨w1.heap.size, 1, none⟩ = some (.slice A2 s2.length c2) := by
      rw [World.cell?_alloc_at _ _ _ _ rfl]
      rfl
    rcases hW with rfl | rfl
    · exact this
    · exact this
  · rintro e w2 ⟨A, c, rfl, ho, hB2⟩
    exact ⟨A, c, rfl, Row.of_own ho, hBa.trans (hB2.mono hBa.size)⟩

set_option maxHeartbeats 3200000 in
theorem spec_JoinSets (A : Option Addr) (s0 : List ByteArray) (c : Nat) (A' : Option Addr) (s1 : List ByteArray) (c' : Nat) (w : World) (h : Row w w.heap.size A (strs s0)) (hl : s0.length ≤ 9223372036854775807) (hs : ∀ s ∈ s0, s.size ≤ 9223372036854775807)
    (h' : Row w w.heap.size A' (strs s1)) (hl' : s1.length ≤ 9223372036854775807) (hs' : ∀ s ∈ s1, s.size ≤ 9223372036854775807) :
    Calls Tryd.prog 17 #[.slice A s0.length c, .slice A' s1.length c'] w (OkStrs w (joOf s0 s1) (joOk s0 s1)) := by
  have hc := spec_wdSet A s0 c w h hl hs
  have hc' := spec_wdSet A' s1 c' w h' hl' hs'
  have ARMS : True := trivial
  cases hq : W.isSet s0
  · have hno : joOk s0 s1 = false := by unfold joOk; rw [hq]; rfl
    rw [hno, joOf_no hno]
    rw [hq] at hc
    replace hc := Lib.hid hc
    clear hc' hno hq h h' hs hs'
    go_enter Tryd.func17, Tryd.ntmps17
    go_wp2_with (go_at_call 33; refine hc.out.mono ?_; rintro e w' ⟨rfl, rfl⟩)
    go_ret2
    exact okStrs_nil _ _ _ (Below.refl _ _)
  · cases hq' : W.isSet s1
    · have hno : joOk s0 s1 = false := by unfold joOk; rw [hq']; simp
      rw [hno, joOf_no hno]
      rw [hq] at hc
      rw [hq'] at hc'
      replace hc := Lib.hid hc
      replace hc' := Lib.hid hc'
      clear hno hq hq' h h' hs hs'
      go_enter Tryd.func17, Tryd.ntmps17
      go_wp2_with fail
      refine hc.out.mono ?_
      rintro e w' ⟨rfl, rfl⟩
      go_wp2_with fail
      refine hc'.out.mono ?_
      rintro e w' ⟨rfl, rfl⟩
      go_wp2
      go_ret2
      exact okStrs_nil _ _ _ (Below.refl _ _)
    · obtain ⟨e1, e2⟩ := joOf_fit hq hq'
      rw [e1, e2]
      have h12 := W.isSet_len s0 hq
      have h12' := W.isSet_len s1 hq'
      have Hm := Lib.hid (show ∀ x ∈ s0 ++ s1, W.short x = true from fun x hx => by
        rcases List.mem_append.1 hx with hx | hx
        · exact set_mem hq x hx
        · exact set_mem hq' x hx)
      rw [hq] at hc
      rw [hq'] at hc'
      replace hc := Lib.hid hc
      replace hc' := Lib.hid hc'
      replace h := Lib.hid h
      replace h' := Lib.hid h'
      clear e1 e2 hq hq' hs hs'
      go_enter Tryd.func17, Tryd.ntmps17
      go_wp2_with fail
      refine hc.out.mono ?_
      rintro e w' ⟨rfl, rfl⟩
      go_wp2_with fail
      refine hc'.out.mono ?_
      rintro e w' ⟨rfl, rfl⟩
      go_wp2_with fail
      go_loopw [6, 21] (fun v i wr => ∃ k : Nat, k ≤ s0.length ∧ i = .int .i64 k ∧ wr.ownsRow w.heap.size 9 1 v (ordB (s0.take k)).length (strs (ordB (s0.take k))) ∧ Below w.heap.size w wr)
        (fun _ i _ => s0.length - (intOf i).toNat)
      case atStart => exact ⟨0, Nat.zero_le _, rfl, World.ownsRow_nil _ _ _ _, Below.refl _ _⟩
      case round =>
        obtain ⟨k, hk, rfl, ho, hB⟩ := hrel
        obtain ⟨Ar, cr, rfl⟩ := own_slice ho
        have hO := Lib.hid (And.intro ho hB)
        clear ho hB
        by_cases hlt : k < s0.length
        · obtain ⟨b, off, rfl, hb, hcc⟩ := h.out (by rw [strs_length]; omega)
          have hlt' : (k : Int) < (s0.length : Int) := by omega
          have c1 := (hO.out.2.cell (p := ⟨b, off + k, none⟩) hb).trans (hcc k _ (strs_nth s0 k hlt))
          clear hcc
          have Hs := Lib.hid (ord_succ s0 k hlt)
          have hn := ord_length (s0.take k)
          rw [List.length_take] at hn
          have hput := Lib.hid (spec_wdPut w.heap.size Ar (ordB (s0.take k)) cr (W.nth s0 k) wr hO.out.1 hO.out.2.size (by omega))
          generalize W.nth s0 k = x at c1 Hs hput
          generalize ordB (s0.take k) = acc at hO Hs hput
          go_wp2_with (go_at_call 27; refine hput.out.mono ?_; rintro e w2 ⟨A2, c2, rfl, ho2, hB2⟩)
          have hO2 := Lib.hid (And.intro ho2 hB2)
          clear ho2 hB2
          go_roundw
          case rel => exact ⟨k + 1, by omega, by go_num, by rw [Hs.out]; exact hO2.out.1, hO.out.2.trans (hO2.out.2.mono hO.out.2.size)⟩
          case measure => simp [intOf]; omega
        · have hke : k = s0.length := by omega
          subst hke
          have hO0 := hO.out
          rw [List.take_length] at hO0
          have HA := Lib.hid hO0
          clear hO0 hO
          rw [List.take_length]
          have h00 : s0 ++ s1.take 0 = s0 := by rw [List.take_zero, List.append_nil]
          have H00 := Lib.hid h00
          clear h00
          generalize hn0 : (ordB s0).length = n0 at HA
          have Hn0 := Lib.hid hn0
          clear hn0
          go_wp2_with fail
          go_loopw [6, 31] (fun v i wr => ∃ k : Nat, k ≤ s1.length ∧ i = .int .i64 k ∧ wr.ownsRow w.heap.size 9 1 v (ordB (s0 ++ s1.take k)).length (strs (ordB (s0 ++ s1.take k))) ∧ Below w.heap.size w wr)
            (fun _ i _ => s1.length - (intOf i).toNat)
          case atStart => exact ⟨0, Nat.zero_le _, rfl, by rw [H00.out, Hn0.out]; exact HA.out.1, HA.out.2⟩
          case round =>
            obtain ⟨k, hk, rfl, ho, hB⟩ := hrel
            obtain ⟨Ar, cr, rfl⟩ := own_slice ho
            have hO := Lib.hid (And.intro ho hB)
            clear ho hB
            by_cases hlt : k < s1.length
            · obtain ⟨b, off, rfl, hb, hcc⟩ := h'.out (by rw [strs_length]; omega)
              have hlt' : (k : Int) < (s1.length : Int) := by omega
              have c1 := (hO.out.2.cell (p := ⟨b, off + k, none⟩) hb).trans (hcc k _ (strs_nth s1 k hlt))
              clear hcc
              have Hs := Lib.hid (ord_succ2 s0 s1 k hlt)
              have hn := ord_length (s0 ++ s1.take k)
              rw [List.length_append, List.length_take] at hn
              have hput := Lib.hid (spec_wdPut w.heap.size Ar (ordB (s0 ++ s1.take k)) cr (W.nth s1 k) wr hO.out.1 hO.out.2.size (by omega))
              generalize W.nth s1 k = x at c1 Hs hput
              generalize ordB (s0 ++ s1.take k) = acc at hO Hs hput
              go_wp2_with (go_at_call 27; refine hput.out.mono ?_; rintro e w2 ⟨A2, c2, rfl, ho2, hB2⟩)
              have hO2 := Lib.hid (And.intro ho2 hB2)
              clear ho2 hB2
              go_roundw
              case rel => exact ⟨k + 1, by omega, by go_num, by rw [Hs.out]; exact hO2.out.1, hO.out.2.trans (hO2.out.2.mono hO.out.2.size)⟩
              case measure => simp [intOf]; omega
            · have hke : k = s1.length := by omega
              subst hke
              have ho := hO.out.1
              rw [List.take_length] at ho
              have Hif := Lib.hid (spec_wdIf Ar (s0 ++ s1) cr wr w.heap.size ho (by rw [List.length_append]; omega) Hm.out)
              have HB := Lib.hid hO.out.2
              clear ho hO
              rw [List.take_length]
              generalize ordB (s0 ++ s1) = acc at Hif
              go_wp2_with (go_at_call 28; refine Hif.out.mono ?_; rintro e w2 ⟨v, rfl, ho2, rfl⟩)
              have HO2 := Lib.hid ho2
              clear ho2
              go_ret2
              exact okStrs_of HO2.out rfl HB.out

set_option maxHeartbeats 3200000 in
theorem impl_JoinSets (A : Option Addr) (s0 : List ByteArray) (c : Nat) (A' : Option Addr) (s1 : List ByteArray) (c' : Nat) (w : World) (h : Row w w.heap.size A (strs s0)) (hl : s0.length ≤ 9223372036854775807) (hs : ∀ s ∈ s0, s.size ≤ 9223372036854775807)
    (h' : Row w w.heap.size A' (strs s1)) (hl' : s1.length ≤ 9223372036854775807) (hs' : ∀ s ∈ s1, s.size ≤ 9223372036854775807) :
    Calls Tryd.prog 18 #[.slice A s0.length c, .slice A' s1.length c'] w (OkStrs w (joOf s0 s1) (joOk s0 s1)) := by
  have hc := impl_IsSet A s0 c w h hl hs
  have hc' := fun (W : World) (hr : Row W W.heap.size A' (strs s1)) => impl_IsSet A' s1 c' W hr hl' hs'
  cases hq : W.isSet s0
  · have hno : joOk s0 s1 = false := by unfold joOk; rw [hq]; rfl
    rw [hno, joOf_no hno]
    rw [hq] at hc
    replace hc := Lib.hid hc
    clear hc' hno hq h h' hs hs'
    go_enter Tryd.func18, Tryd.ntmps18
    go_wp2_with (go_at_call 35; refine hc.out.mono ?_; rintro e w1 ⟨rfl, hB⟩)
    go_ret2
    exact okStrs_nil _ _ _ hB
  · cases hq' : W.isSet s1
    · have hno : joOk s0 s1 = false := by unfold joOk; rw [hq']; simp
      rw [hno, joOf_no hno]
      rw [hq] at hc
      rw [hq'] at hc'
      replace hc := Lib.hid hc
      replace hc' := Lib.hid hc'
      replace h' := Lib.hid h'
      clear hno hq hq' h hs hs'
      go_enter Tryd.func18, Tryd.ntmps18
      go_wp2_with fail
      refine hc.out.mono ?_
      rintro e w1 ⟨rfl, hB⟩
      have HB := Lib.hid hB
      clear hB
      have hcc := Lib.hid (hc'.out w1 ((h'.out.below HB.out).more HB.out.size))
      go_wp2_with fail
      refine hcc.out.mono ?_
      rintro e w2 ⟨rfl, hB2⟩
      have HB2 := Lib.hid (HB.out.trans (hB2.mono HB.out.size))
      clear hB2
      go_wp2
      go_ret2
      exact okStrs_nil _ _ _ HB2.out
    · obtain ⟨e1, e2⟩ := joOf_fit hq hq'
      rw [e1, e2]
      have h12 := W.isSet_len s0 hq
      have h12' := W.isSet_len s1 hq'
      rw [hq] at hc
      rw [hq'] at hc'
      replace hc := Lib.hid hc
      replace hc' := Lib.hid hc'
      replace h := Lib.hid h
      replace h' := Lib.hid h'
      clear e1 e2 hq hq' hs hs'
      go_enter Tryd.func18, Tryd.ntmps18
      go_wp2_with fail
      refine hc.out.mono ?_
      rintro e w1 ⟨rfl, hB⟩
      have HB := Lib.hid hB
      clear hB
      have hcc := Lib.hid (hc'.out w1 ((h'.out.below HB.out).more HB.out.size))
      go_wp2_with fail
      refine hcc.out.mono ?_
      rintro e w2 ⟨rfl, hB2⟩
      have HB2 := Lib.hid (HB.out.trans (hB2.mono HB.out.size))
      clear hB2 hcc
      have hcat := concat2_here A A' s0 s1 c c' w w2 _ (.inl rfl) HB2.out h.out h'.out h12 h12'
      have hfit : ∀ A c W, Row W W.heap.size A (strs (s0 ++ s1)) → Calls Tryd.prog 31 #[.slice A (s0.length + s1.length) c] W (OkStrs W (fitOf (s0 ++ s1)) (fitOk (s0 ++ s1))) := fun A c W hr => by
        have := impl_setOfFitting A (s0 ++ s1) c W hr (by rw [List.length_append]; omega)
        rwa [List.length_append] at this
      replace hcat := Lib.hid hcat
      replace hfit := Lib.hid hfit
      go_wp2_with (first | (go_at_call 38; refine hcat.out.mono ?_; rintro e w3 ⟨A3, c3, rfl, hr3, hB3⟩; have HR3 := Lib.hid (And.intro hr3 hB3); clear hr3 hB3) | (go_at_call 31; refine (hfit.out A3 c3 w3 HR3.out.1).mono ?_; rintro e w4 ⟨A4, c4, rfl, ho4, hB4⟩))
      have HO := Lib.hid (And.intro (own_base ho4 HR3.out.2.size) (HR3.out.2.trans (hB4.mono HR3.out.2.size)))
      clear ho4 hB4
      go_ret2
      exact okStrs_of HO.out.1 rfl HO.out.2

end Go.Proofs.YtbepplkpnhfifaaDoor
