/-
  WHAT THIS FILE PROVES: states, and where words lead from them, of a complete prefix set: the specification's functions tell the plain values; asked: a slice of texts in memory, lengths that an int holds.
-/
import Derived.Test.YtlapmjligdjniaaGreatDoorStpT
namespace Go.Proofs.YtlapmjligdjniaaGreatDoor
open Go.RowKit Go.Shelf

/-- a complete prefix set and a word of its letters -/
def gvOk (ss : List ByteArray) (s : ByteArray) : Bool := stOk ss && (W.good s.data.toList && W.krWd (ltrs ss : Nat) s.data.toList)
def gvT (ss : List ByteArray) (s : ByteArray) : List (List Int) := if gvOk ss s then tab ss (inB ss).length else []
theorem gvT_no {ss : List ByteArray} {s : ByteArray} (h : gvOk ss s = false) : gvT ss s = [] := by unfold gvT; rw [h]; rfl
theorem gvT_yes {ss : List ByteArray} {s : ByteArray} (h : gvOk ss s = true) : gvT ss s = tab ss (inB ss).length := by unfold gvT; rw [h]; rfl
theorem gvOk_parts {ss : List ByteArray} {s : ByteArray} (h : gvOk ss s = true) : stOk ss = true ∧ s.size ≤ 60 ∧ W.krWd (ltrs ss : Nat) s.data.toList = true := by
  unfold gvOk W.good at h
  simp only [Bool.and_eq_true, decide_eq_true_eq] at h
  rw [← Lib.size_eq] at h
  exact ⟨h.1, h.2.1.1, h.2.2⟩
theorem st_bounds {ss : List ByteArray} (h : stOk ss = true) : 0 < (inB ss).length ∧ (inB ss).length ≤ 11 := by
  have h1 := inB_few h
  have h2 := W.isSet_len ss (stOk_parts h).1
  omega
set_option maxHeartbeats 3200000 in
theorem spec_syGiven (A : Option Addr) (ss : List ByteArray) (c : Nat) (s : ByteArray) (w : World) (h : Row w w.heap.size A (strs ss)) (hcap : ss.length ≤ c) (hl : ss.length ≤ 9223372036854775807) (hs : ∀ s ∈ ss, s.size ≤ 9223372036854775807) (hs2 : s.size ≤ 9223372036854775807) :
    Calls Tryz.prog 15 #[.slice A ss.length c, .string s] w (OkSS 58 3 w (intss (gvT ss s)) (gvOk ss s)) := by
  have hk := spec_syLetters A ss c w h hcap hl hs
  cases hq : stOk ss
  · have hno : gvOk ss s = false := by unfold gvOk; rw [hq]; rfl
    rw [gvT_no hno, hno]
    rw [hq] at hk
    replace hk := Lib.hid hk
    clear h hs hq hno
    go_enter Tryz.func15, Tryz.ntmps15
    go_wp2_with fail
    refine hk.out.mono ?_
    rintro e w1 ⟨rfl, hB⟩
    go_wp2_with fail
    go_ret2
    exact okSS_nil _ _ _ _ _ hB
  · rw [slN_yes hq, hq] at hk
    replace hk := Lib.hid hk
    have hset := (stOk_parts hq).1
    have hg := Lib.hid (fun u => spec_wdGood s u hs2)
    cases hgd : W.good s.data.toList
    · have hno : gvOk ss s = false := by unfold gvOk; rw [hgd]; simp
      rw [gvT_no hno, hno]
      rw [hgd] at hg
      clear h hs hq hno
      go_enter Tryz.func15, Tryz.ntmps15
      go_wp2_with fail
      refine hk.out.mono ?_
      rintro e w1 ⟨rfl, hB⟩
      go_wp2_with fail
      refine (hg.out _).mono ?_
      rintro e w2 ⟨rfl, rfl⟩
      go_wp2_with fail
      go_ret2
      exact okSS_nil _ _ _ _ _ hB
    · rw [hgd] at hg
      have h60 : s.size ≤ 60 ∧ W.isWd s.data.toList = true := by
        unfold W.good at hgd
        simp only [Bool.and_eq_true, decide_eq_true_eq] at hgd
        rw [← Lib.size_eq] at hgd
        exact hgd
      have hkw := Lib.hid (fun u => spec_krWord s (ltrs ss : Nat) u (by omega) h60.2)
      cases hkd : W.krWd (ltrs ss : Nat) s.data.toList
      · have hno : gvOk ss s = false := by unfold gvOk; rw [hkd]; simp
        rw [gvT_no hno, hno]
        rw [hkd] at hkw
        clear h hs hq hno
        go_enter Tryz.func15, Tryz.ntmps15
        go_wp2_with fail
        refine hk.out.mono ?_
        rintro e w1 ⟨rfl, hB⟩
        go_wp2_with fail
        refine (hg.out _).mono ?_
        rintro e w2 ⟨rfl, rfl⟩
        go_wp2_with fail
        refine (hkw.out _).mono ?_
        rintro e w2 ⟨rfl, rfl⟩
        go_wp2_with fail
        go_ret2
        exact okSS_nil _ _ _ _ _ hB
      · have hyes : gvOk ss s = true := by unfold gvOk; rw [hq, hgd, hkd]; rfl
        rw [gvT_yes hyes, hyes]
        rw [hkd] at hkw
        have ht := Lib.hid (fun (u : World) (hB : Below w.heap.size w u) => spec_syTable A ss c u ((h.below hB).more hB.size) hset)
        generalize intss (tab ss (inB ss).length) = T at ht ⊢
        clear h hs hq hyes hset
        go_enter Tryz.func15, Tryz.ntmps15
        go_wp2_with fail
        refine hk.out.mono ?_
        rintro e w1 ⟨rfl, hB⟩
        have HB := Lib.hid hB
        clear hB
        have ht1 := Lib.hid (ht.out w1 HB.out)
        go_wp2_with fail
        refine (hg.out _).mono ?_
        rintro e w2 ⟨rfl, rfl⟩
        go_wp2_with fail
        refine (hkw.out _).mono ?_
        rintro e w2 ⟨rfl, rfl⟩
        go_wp2_with fail
        refine ht1.out.mono ?_
        rintro e w2 ⟨A2, c2, rfl, ho, hB2⟩
        go_wp2_with fail
        go_ret2
        exact okSS_of (base := w.heap.size) (ownSS_lower ho HB.out.size) rfl (HB.out.trans (hB2.mono HB.out.size))
/-- what StatesOf tells -/
def soOf (ss : List ByteArray) : List ByteArray := if stOk ss then inB ss else []
theorem soOf_no {ss : List ByteArray} (h : stOk ss = false) : soOf ss = [] := by unfold soOf; rw [h]; rfl
theorem soOf_yes {ss : List ByteArray} (h : stOk ss = true) : soOf ss = inB ss := by unfold soOf; rw [h]; rfl
theorem soOf_len (ss : List ByteArray) : (soOf ss).length ≤ 1048576 := by
  cases h : stOk ss
  · rw [soOf_no h]; simp
  · rw [soOf_yes h]; have := (st_bounds h).2; omega
/-- what StateAfter tells -/
def saOk (ss : List ByteArray) (q : Int) (s : ByteArray) : Bool := gvOk ss s && decide (0 ≤ q ∧ q < (inB ss).length)
def saOf (ss : List ByteArray) (q : Int) (s : ByteArray) : Nat := if saOk ss q s then stAt (tr ss) q.toNat s.data.toList else 0
theorem saOf_no {ss : List ByteArray} {q : Int} {s : ByteArray} (h : saOk ss q s = false) : saOf ss q s = 0 := by unfold saOf; rw [h]; rfl
theorem saOf_yes {ss : List ByteArray} {q : Nat} {s : ByteArray} (h : saOk ss (q : Int) s = true) : saOf ss (q : Int) s = stAt (tr ss) q s.data.toList := by unfold saOf; rw [h]; rfl
/-- what IsStepWord tells -/
def isOf (ss : List ByteArray) (s : ByteArray) : Bool := gvOk ss s && oneB (beh (tr ss) (inB ss).length s.data.toList)
theorem isOf_no {ss : List ByteArray} {s : ByteArray} (h : gvOk ss s = false) : isOf ss s = false := by unfold isOf; rw [h]; rfl
theorem isOf_yes {ss : List ByteArray} {s : ByteArray} (h : gvOk ss s = true) : isOf ss s = oneB (beh (tr ss) (inB ss).length s.data.toList) := by unfold isOf; rw [h]; rfl
/-- what StatesBehind tells -/
def sbOf (ss : List ByteArray) (s : ByteArray) : List Int := if gvOk ss s then (mems (inB ss).length (beh (tr ss) (inB ss).length s.data.toList)).map fun (j : Nat) => (j : Int) else []
theorem sbOf_no {ss : List ByteArray} {s : ByteArray} (h : gvOk ss s = false) : sbOf ss s = [] := by unfold sbOf; rw [h]; rfl
theorem sbOf_yes {ss : List ByteArray} {s : ByteArray} (h : gvOk ss s = true) : sbOf ss s = (mems (inB ss).length (beh (tr ss) (inB ss).length s.data.toList)).map fun (j : Nat) => (j : Int) := by unfold sbOf; rw [h]; rfl
theorem sbOf_len (ss : List ByteArray) (s : ByteArray) : (sbOf ss s).length ≤ 1048576 := by
  cases h : gvOk ss s
  · rw [sbOf_no h]; simp
  · rw [sbOf_yes h, List.length_map]
    have h1 := mems_len (inB ss).length (beh (tr ss) (inB ss).length s.data.toList)
    have h2 := (st_bounds (gvOk_parts h).1).2
    omega
theorem given_tab {w : World} {P : Program} {f : FuncId} {args : Array Value} {ss : List ByteArray} (h : Calls P f args w (OkSS 58 3 w (intss (tab ss (inB ss).length)) true)) :
    Calls P f args w fun e w' => ∃ A1 c1, e = .returned (.tuple #[.slice A1 (inB ss).length c1, .bool true]) ∧ RowTab w' w'.heap.size A1 ss ∧ Below w.heap.size w w' := h.mono fun e w' ⟨A1, c1, he, ho, hB⟩ => by
  rw [intss_length, tab_len] at he
  exact ⟨A1, c1, he, RowSS.of_own ho, hB⟩
end Go.Proofs.YtlapmjligdjniaaGreatDoor
