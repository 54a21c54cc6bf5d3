/-
  WHAT THIS FILE PROVES: the first word with two readings: the program's function tells it; asked: a slice of texts in memory, lengths that an int holds.
-/
import Derived.Test.YtiemoocdffobgaaDoorTwo
import Derived.Test.YtiemoocdffobgaaDoorFd
namespace Go.Proofs.YtiemoocdffobgaaDoor
open Go.RowKit Go.Shelf

theorem catL_wd {ss : List ByteArray} (hset : W.isSet ss = true) : ∀ ts : List ByteArray, (∀ t ∈ ts, t ∈ ss) → W.isWd (catL ts) = true
  | [], _ => rfl
  | t :: ts, h => by
    have ih := catL_wd hset ts (fun x hx => h x (List.mem_cons_of_mem _ hx))
    have h1 := set_mem hset t (h t (List.mem_cons_self ..))
    unfold W.short at h1
    simp only [Bool.and_eq_true] at h1
    have h2 := h1.2
    rw [catL_cons]
    unfold W.isWd at *
    rw [List.all_append, ih, h2]
    rfl
theorem FD.wd {ss : List ByteArray} (hset : W.isSet ss = true) {w : List UInt8} (h : FD ss (some w)) : W.isWd w = true := by
  obtain ⟨⟨u, hu, hd⟩, _⟩ := h.1 w rfl
  obtain ⟨a, p, b, q, ha, hb, hab, hp, hq, h1, h2⟩ := db_two hd
  rw [← h1]
  exact catL_wd hset _ (fun x hx => by
    rcases List.mem_cons.1 hx with rfl | hx
    · exact ha
    · exact hp x hx)
def GivesSD (w0 : World) (ss : List ByteArray) (e : Ending) (w' : World) : Prop :=
  e = .returned (.tuple #[.string (sdOf ss), .bool (sdOk ss)]) ∧ Below w0.heap.size w0 w'

set_option maxHeartbeats 800000 in
theorem impl_ShortestDouble (A : Option Addr) (ss : List ByteArray) (c : Nat) (w : World) (h : Row w w.heap.size A (strs ss)) (hl : ss.length ≤ 9223372036854775807) (hs : ∀ s ∈ ss, s.size ≤ 9223372036854775807) :
    Calls Tryd.prog 23 #[.slice A ss.length c] w fun e w' => e = .returned (.tuple #[.string (sdOf ss), .bool (sdOk ss)]) ∧ Below w.heap.size w w' := by
  have hc := impl_IsSet A ss c w h hl hs
  cases hq : W.isSet ss
  · rw [sdOf_no (sdOk_no hq), sdOk_no hq]
    rw [hq] at hc
    replace hc := Lib.hid hc
    clear h hs hq
    go_enter Tryd.func23, Tryd.ntmps23
    go_wp2_with (go_at_call 31; refine hc.out.mono ?_; rintro e w1 ⟨rfl, hB⟩)
    go_ret2
    exact ⟨rfl, hB⟩
  · have hd := Lib.hid (fun W hr => impl_firstDouble A ss c W hr hq)
    have Hset := Lib.hid hq
    rw [hq] at hc
    replace hc := Lib.hid hc
    replace h := Lib.hid h
    clear hs hq
    generalize hso : sdOf ss = so
    generalize hsk : sdOk ss = sk
    replace hso := Lib.hid hso
    replace hsk := Lib.hid hsk
    go_enter Tryd.func23, Tryd.ntmps23
    go_wp2_with fail
    refine hc.out.mono ?_
    rintro e w1 ⟨rfl, hB⟩
    have HB := Lib.hid hB
    clear hB
    go_wp2_with fail
    refine (hd.out w1 ((h.out.below HB.out).more HB.out.size)).mono ?_
    rintro e w2 ⟨x, ok, rfl, hf, hx, hB2⟩
    have HB2 := Lib.hid (HB.out.trans (hB2.mono HB.out.size))
    have hz2 := HB2.out.size
    have Hf := Lib.hid hf
    clear hB2 hf
    cases ok
    · have hno := sdOk_none Hf.out
      have Hno := Lib.hid (And.intro (hsk.out.symm.trans hno) (hso.out.symm.trans (sdOf_no hno)))
      clear hno
      go_wp2
      go_ret2
      exact ⟨by rw [Hno.out.1, Hno.out.2]; rfl, HB2.out⟩
    · have hw := FD.wd Hset.out Hf.out
      have hgood : W.good x.data.toList = decide (x.size ≤ 60) := by
        unfold W.good
        rw [hw, Bool.and_true, Lib.size_eq]
      have hi := impl_IsWord x w2 (by omega)
      rw [hgood] at hi
      have hk := sdOk_some Hset.out Hf.out
      by_cases h60 : x.size ≤ 60
      · rw [decide_eq_true h60] at hi hk
        have Hyes := Lib.hid (And.intro (hsk.out.symm.trans hk) (hso.out.symm.trans (sdOf_some Hset.out Hf.out h60)))
        replace hi := Lib.hid hi
        clear hw hgood hk h60
        go_wp2_with fail
        refine hi.out.mono ?_
        rintro e w3 ⟨rfl, hB3⟩
        have HB3 := Lib.hid (HB2.out.trans (hB3.mono hz2))
        clear hB3
        go_wp2
        go_ret2
        exact ⟨by rw [Hyes.out.1, Hyes.out.2]; rfl, HB3.out⟩
      · rw [decide_eq_false h60] at hi hk
        have Hno := Lib.hid (And.intro (hsk.out.symm.trans hk) (hso.out.symm.trans (sdOf_no hk)))
        replace hi := Lib.hid hi
        clear hw hgood hk h60
        go_wp2_with fail
        refine hi.out.mono ?_
        rintro e w3 ⟨rfl, hB3⟩
        have HB3 := Lib.hid (HB2.out.trans (hB3.mono hz2))
        clear hB3
        go_wp2
        go_ret2
        exact ⟨by rw [Hno.out.1, Hno.out.2]; rfl, HB3.out⟩

end Go.Proofs.YtiemoocdffobgaaDoor
