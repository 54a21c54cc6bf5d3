/-
  WHAT THIS FILE PROVES: the set of a list's words: the specification's and the program's functions hand back slices of their own that read the same; asked: a row that lies in memory, lengths that an int holds.
-/
import Derived.Test.YtbepplkpnhfifaaDoorFit
namespace Go.Proofs.YtbepplkpnhfifaaDoor
open Go.RowKit Go.Shelf

def soOk (ss : List ByteArray) : Bool := decide (ss.length ≤ 40) && W.allTo W.short ss ss.length && fitOk ss
def soOf (ss : List ByteArray) : List ByteArray := if soOk ss then ordB ss else []
theorem soOf_no {ss : List ByteArray} (h : soOk ss = false) : soOf ss = [] := by unfold soOf; rw [h]; rfl
theorem soOf_fit {ss : List ByteArray} (h1 : ss.length ≤ 40) (h2 : W.allTo W.short ss ss.length = true) : soOk ss = fitOk ss ∧ soOf ss = fitOf ss := by
  have e : soOk ss = fitOk ss := by unfold soOk; rw [decide_eq_true h1, h2]; rfl
  refine ⟨e, ?_⟩
  unfold soOf fitOf
  rw [e]

set_option maxHeartbeats 3200000 in
theorem spec_SetOf (A : Option Addr) (ss : List ByteArray) (c : Nat) (w : World) (h : Row w w.heap.size A (strs ss)) (_hl : ss.length ≤ 9223372036854775807) (hs : ∀ s ∈ ss, s.size ≤ 9223372036854775807) :
    Calls Tryd.prog 9 #[.slice A ss.length c] w (OkStrs w (soOf ss) (soOk ss)) := by
  by_cases h40 : ss.length ≤ 40
  · have h40' : ¬ (40 : Int) < (ss.length : Int) := by omega
    have HF := Lib.hid (fun h2 => soOf_fit (ss := ss) h40 h2)
    replace h := Lib.hid h
    replace hs := Lib.hid hs
    go_enter Tryd.func9, Tryd.ntmps9
    go_wp2
    go_loopw [4, 12] (fun v i wr => ∃ k : Nat, k ≤ ss.length ∧ i = .int .i64 k ∧ Hid (W.allTo W.short ss k = true) ∧ wr.ownsRow w.heap.size 9 1 v (ordB (ss.take k)).length (strs (ordB (ss.take k))) ∧ Below w.heap.size w wr)
      (fun _ i _ => ss.length - (intOf i).toNat)
    case atStart => exact ⟨0, Nat.zero_le _, rfl, rfl, World.ownsRow_nil _ _ _ _, Below.refl _ _⟩
    case round =>
      obtain ⟨k, hk, rfl, hok, ho, hB⟩ := hrel
      obtain ⟨A', c', rfl⟩ := own_slice ho
      have hO := Lib.hid (And.intro ho hB)
      clear ho hB
      by_cases hlt : k < ss.length
      · obtain ⟨b, off, rfl, hb, hcc⟩ := h.out (by rw [strs_length]; omega)
        have hlt' : (k : Int) < (ss.length : Int) := by omega
        have c1 := (hO.out.2.cell (p := ⟨b, off + k, none⟩) hb).trans (hcc k _ (strs_nth ss k hlt))
        clear hcc
        have hz : (W.nth ss k).size ≤ 9223372036854775807 := by rw [W.nth_lt ss k hlt]; exact hs.out _ (List.getElem_mem hlt)
        have hc1 := fun W' => spec_wdShort (W.nth ss k) W' hz
        have Hall := Lib.hid (W.allTo_succ W.short ss k)
        have Hs := Lib.hid (ord_succ ss k hlt)
        have hn := ord_length (ss.take k)
        rw [List.length_take] at hn
        cases hq : W.short (W.nth ss k)
        · rw [hq] at hc1
          have hno : soOk ss = false := by
            unfold soOk
            rw [W.allTo_no W.short ss (k + 1) _ hlt (by rw [Hall.out, hq]; simp)]
            simp
          have HN := Lib.hid (And.intro hno (soOf_no hno))
          replace hc1 := Lib.hid hc1
          clear hq hno
          go_wp2_with (go_at_call 26; refine (hc1.out _).mono ?_; rintro e w' ⟨rfl, rfl⟩)
          go_ret2
          rw [HN.out.1, HN.out.2]
          exact okStrs_nil _ _ _ hO.out.2
        · rw [hq] at hc1
          have h1 : Hid (W.allTo W.short ss (k + 1) = true) := by
            show W.allTo W.short ss (k + 1) = true
            rw [Hall.out, hok.out, hq]
            rfl
          have hput := Lib.hid (spec_wdPut w.heap.size A' (ordB (ss.take k)) c' (W.nth ss k) wr hO.out.1 hO.out.2.size (by omega))
          replace hc1 := Lib.hid hc1
          clear hq
          generalize W.nth ss k = x at c1 hz hc1 Hs hput
          generalize ordB (ss.take k) = acc at hO Hs hput
          go_wp2_with (first | (go_at_call 26; refine (hc1.out _).mono ?_; rintro e w' ⟨rfl, rfl⟩) | (go_at_call 27; refine hput.out.mono ?_; rintro e w2 ⟨A2, c2, rfl, ho2, hB2⟩))
          have hO2 := Lib.hid (And.intro ho2 hB2)
          clear ho2 hB2
          go_roundw
          case rel => exact ⟨k + 1, by omega, by go_num, h1, by rw [Hs.out]; exact hO2.out.1, hO.out.2.trans (hO2.out.2.mono hO.out.2.size)⟩
          case measure => simp [intOf]; omega
      · have hke : k = ss.length := by omega
        subst hke
        have hf := HF.out hok.out
        have HE := Lib.hid hf
        clear hf
        have ho := hO.out.1
        rw [List.take_length] at ho
        have hif := spec_wdIf A' ss c' wr w.heap.size ho (by omega) (allTo_mem hok.out)
        have e0 : ss.take ss.length = ss := List.take_length
        rw [e0] at hO ⊢
        have Hif := Lib.hid hif
        clear hif ho e0
        generalize ordB ss = acc at hO Hif
        go_wp2_with (go_at_call 28; refine Hif.out.mono ?_; rintro e w2 ⟨v, rfl, ho2, rfl⟩)
        have HO2 := Lib.hid ho2
        clear ho2
        go_ret2
        rw [HE.out.1, HE.out.2]
        exact okStrs_of HO2.out rfl hO.out.2
  · have h40' : (40 : Int) < (ss.length : Int) := by omega
    have hno : soOk ss = false := by unfold soOk; rw [decide_eq_false h40]; rfl
    rw [hno, soOf_no hno]
    clear hno h hs
    go_enter Tryd.func9, Tryd.ntmps9
    go_wp2
    go_ret2
    exact okStrs_nil _ _ _ (Below.refl _ _)

set_option maxHeartbeats 1600000 in
theorem impl_SetOf (A : Option Addr) (ss : List ByteArray) (c : Nat) (w : World) (h : Row w w.heap.size A (strs ss)) (hl : ss.length ≤ 9223372036854775807) (hs : ∀ s ∈ ss, s.size ≤ 9223372036854775807) :
    Calls Tryd.prog 11 #[.slice A ss.length c] w (OkStrs w (soOf ss) (soOk ss)) := by
  by_cases h40 : ss.length ≤ 40
  · have h40' : ¬ (40 : Int) < (ss.length : Int) := by omega
    have hc := areAll_fitsInSet A ss c w h hl hs
    cases hq : W.allTo W.short ss ss.length
    · have hno : soOk ss = false := by unfold soOk; rw [hq]; simp
      rw [hno, soOf_no hno]
      rw [hq] at hc
      replace hc := Lib.hid hc
      clear hno hq h hs
      go_enter Tryd.func11, Tryd.ntmps11
      go_wp2_with (go_at_call 29; refine hc.out.mono ?_; rintro e w1 ⟨rfl, hB⟩)
      go_ret2
      exact okStrs_nil _ _ _ hB
    · obtain ⟨e1, e2⟩ := soOf_fit h40 hq
      rw [e1, e2]
      rw [hq] at hc
      replace hc := Lib.hid hc
      replace h := Lib.hid h
      clear e1 e2 hq hs
      go_enter Tryd.func11, Tryd.ntmps11
      go_wp2_with (first | (go_at_call 29; refine hc.out.mono ?_; rintro e w1 ⟨rfl, hB⟩; have HB := Lib.hid hB; clear hB) | (go_at_call 31; refine (impl_setOfFitting A ss c w1 ((h.out.below HB.out).more HB.out.size) (by omega)).mono ?_; rintro e w2 ⟨A2, c2, rfl, ho2, hB2⟩))
      have HO := Lib.hid (And.intro ho2 hB2)
      clear ho2 hB2
      go_ret2
      exact okStrs_of (own_base HO.out.1 HB.out.size) rfl (HB.out.trans (HO.out.2.mono HB.out.size))
  · have h40' : (40 : Int) < (ss.length : Int) := by omega
    have hno : soOk ss = false := by unfold soOk; rw [decide_eq_false h40]; rfl
    rw [hno, soOf_no hno]
    clear hno h hs
    go_enter Tryd.func11, Tryd.ntmps11
    go_wp2
    go_ret2
    exact okStrs_nil _ _ _ (Below.refl _ _)

end Go.Proofs.YtbepplkpnhfifaaDoor
