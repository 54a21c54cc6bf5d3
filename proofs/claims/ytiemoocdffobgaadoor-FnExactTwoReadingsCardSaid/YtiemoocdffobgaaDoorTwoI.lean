/-
  WHAT THIS FILE PROVES: the first two readings of the first word with two readings: the program's function hands them back in slices of its own; asked: a slice of texts in memory, lengths that an int holds.
-/
import Derived.Test.YtiemoocdffobgaaDoorShortI
import Derived.Test.YtiemoocdffobgaaDoorRead
import Derived.OwnWalk
import Derived.Deep.RegionWith
namespace Go.Proofs.YtiemoocdffobgaaDoor
open Go.RowKit Go.Shelf

/-- two slices of the call's own, apart from each other, and whether they are told -/
def OkTwo (w0 : World) (xs ys : List Int) (ok : Bool) (e : Ending) (w' : World) : Prop :=
  ∃ A c A' c', e = .returned (.tuple #[.slice A xs.length c, .slice A' ys.length c', .bool ok]) ∧ w'.ownsRow w0.heap.size 3 1 (.slice A xs.length c) xs.length (ints xs) ∧ w'.ownsRow w0.heap.size 3 1 (.slice A' ys.length c') ys.length (ints ys) ∧
    ((Value.slice A xs.length c).ownBlock = none ∨ (Value.slice A xs.length c).ownBlock ≠ (Value.slice A' ys.length c').ownBlock) ∧ Below w0.heap.size w0 w'
theorem okTwo_nil (w0 w' : World) (ok : Bool) (hB : Below w0.heap.size w0 w') : OkTwo w0 [] [] ok (.returned (.tuple #[.slice none 0 0, .slice none 0 0, .bool ok])) w' :=
  ⟨none, 0, none, 0, rfl, World.ownsRow_nil _ _ _ _, World.ownsRow_nil _ _ _ _, .inl rfl, hB⟩
noncomputable def trOf (ss : List ByteArray) (k : Nat) : List Int := if sdOk ss then (W.reads ss (sdOf ss).data.toList).getD k [] else []
theorem trOf_no {ss : List ByteArray} (h : sdOk ss = false) (k : Nat) : trOf ss k = [] := by unfold trOf; rw [h]; rfl
theorem trOf_yes {ss : List ByteArray} (h : sdOk ss = true) (k : Nat) : trOf ss k = (W.reads ss (sdOf ss).data.toList).getD k [] := by unfold trOf; rw [h]; rfl
theorem tr_two {ss : List ByteArray} (h : sdOk ss = true) : 2 ≤ (W.reads ss (sdOf ss).data.toList).length := by
  obtain ⟨hset, hf, _⟩ := sdOk_word h
  rw [W.reads_length]
  exact hf.two hset
theorem tr_get {ss : List ByteArray} (h : sdOk ss = true) {k : Nat} (hk : k < 2) : (W.reads ss (sdOf ss).data.toList)[k]? = some (trOf ss k) := by
  have := tr_two h
  rw [trOf_yes h, List.getD_eq_getElem?_getD, List.getElem?_eq_getElem (by omega)]
  rfl
theorem tr_take {ss : List ByteArray} (h : sdOk ss = true) : (W.reads ss (sdOf ss).data.toList).take 2 = [trOf ss 0, trOf ss 1] := by
  have h0 := tr_get h (k := 0) (by omega)
  have h1 := tr_get h (k := 1) (by omega)
  generalize W.reads ss (sdOf ss).data.toList = l at h0 h1
  match l, h0, h1 with
  | [], h0, _ => cases h0
  | [a], _, h1 => cases h1
  | a :: b :: r, h0, h1 =>
    injection h0 with h0
    injection h1 with h1
    rw [← h0, ← h1]
    rfl
theorem trOf_len (ss : List ByteArray) (k : Nat) : (trOf ss k).length ≤ 1048576 := by
  cases h : sdOk ss
  · rw [trOf_no h]; simp
  · rw [trOf_yes h]
    obtain ⟨hset, _, h60⟩ := sdOk_word h
    rw [List.getD_eq_getElem?_getD]
    cases hq : (W.reads ss (sdOf ss).data.toList)[k]? with
    | none => simp
    | some r =>
      have := W.reads_len (fun i hi => W.set_pos hset i hi) (sdOf ss).size (sdOf ss).data.toList (by rw [Lib.size_eq]) r (List.mem_of_getElem? hq)
      show r.length ≤ _
      omega

set_option maxHeartbeats 1600000 in
theorem impl_TwoReadings (A : Option Addr) (ss : List ByteArray) (c : Nat) (w : World) (h : Row w w.heap.size A (strs ss)) (hl : ss.length ≤ 9223372036854775807) (hs : ∀ s ∈ ss, s.size ≤ 9223372036854775807) :
    Calls Tryd.prog 25 #[.slice A ss.length c] w (OkTwo w (trOf ss 0) (trOf ss 1) (sdOk ss)) := by
  have hc := impl_ShortestDouble A ss c w h hl hs
  cases hq : sdOk ss
  · rw [trOf_no hq, trOf_no hq]
    rw [hq] at hc
    generalize sdOf ss = so at hc
    replace hc := Lib.hid hc
    clear h hs hq
    go_enter Tryd.func25, Tryd.ntmps25
    go_wp2_with fail
    refine hc.out.mono ?_
    rintro e w1 ⟨rfl, hB⟩
    have HB := Lib.hid hB
    clear hB
    go_wp2
    go_ret3
    exact okTwo_nil _ _ _ HB.out
  · obtain ⟨hset, hf, h60⟩ := sdOk_word hq
    have h2 := tr_two hq
    rw [W.reads_length] at h2
    have hr0 := tr_get hq (k := 0) (by omega)
    have hr1 := tr_get hq (k := 1) (by omega)
    rw [hq] at hc
    generalize sdOf ss = so at hc h60 h2 hr0 hr1
    have hro := Lib.hid (fun W hr => impl_readingsOf A ss c so W hr hset h60)
    have hrd0 : Hid (∀ g W, Row W W.heap.size A (strs ss) → TblAt W W.heap.size g ss so → Calls Tryd.prog 43 #[.agg #[.slice A ss.length c, .string so, .slice (some ⟨g, 0, none⟩) (so.size + 1) (so.size + 1)], .int .i64 0] W (GivesInts W (trOf ss 0))) := fun g W hr htb => impl_reading A ss c so g 0 _ W hr hset h60 htb (by omega) hr0
    have hrd1 : Hid (∀ g W, Row W W.heap.size A (strs ss) → TblAt W W.heap.size g ss so → Calls Tryd.prog 43 #[.agg #[.slice A ss.length c, .string so, .slice (some ⟨g, 0, none⟩) (so.size + 1) (so.size + 1)], .int .i64 1] W (GivesInts W (trOf ss 1))) := fun g W hr htb => impl_reading A ss c so g 1 _ W hr hset h60 htb (by omega) hr1
    generalize trOf ss 0 = x0 at hrd0 ⊢
    generalize trOf ss 1 = x1 at hrd1 ⊢
    replace hc := Lib.hid hc
    replace h := Lib.hid h
    clear hs hq hset hf h2 hr0 hr1
    go_enter Tryd.func25, Tryd.ntmps25
    go_wp2_with fail
    refine hc.out.mono ?_
    rintro e w1 ⟨rfl, hB⟩
    have HB := Lib.hid hB
    clear hB
    go_wp2_with fail
    refine (hro.out w1 ((h.out.below HB.out).more HB.out.size)).mono ?_
    rintro e w2 ⟨g, rfl, ho, hB2⟩
    have HB2 := Lib.hid (HB.out.trans (hB2.mono HB.out.size))
    have HT := Lib.hid (TblAt.of_own ho)
    clear ho hB2
    go_wp2_with fail
    have hBa := Lib.hid ((HB2.out.alloc HB2.out.size (.cells #[.slice A ss.length c, .string so, .slice (some ⟨g, 0, none⟩) (so.size + 1) (so.size + 1)] 53)).drew)
    have hTa := Lib.hid (HT.out.below ((Below.refl w2.heap.size w2).alloc (Nat.le_refl _) (.cells #[.slice A ss.length c, .string so, .slice (some ⟨g, 0, none⟩) (so.size + 1) (so.size + 1)] 53)).drew)
    have hza : w2.heap.size < ((w2.alloc (.cells #[.slice A ss.length c, .string so, .slice (some ⟨g, 0, none⟩) (so.size + 1) (so.size + 1)] 53)).drew).heap.size := by show w2.heap.size < (w2.alloc _).heap.size; simp
    have hq0 := Lib.hid (hrd0.out g _ ((h.out.below hBa.out).more hBa.out.size) (hTa.out.more (Nat.le_of_lt hza)))
    go_region_with (first
      | (go_at_call_of 43 (Value.int IntKind.i64 0); refine hq0.out.mono ?_; rintro e w3 ⟨A3, c3, rfl, ho3, hB3⟩; have d0 := (hB3.cell (p := ⟨w2.heap.size, 0, none⟩) hza); have d1 := (hB3.cell (p := ⟨w2.heap.size, 1, none⟩) hza); have d2 := (hB3.cell (p := ⟨w2.heap.size, 2, none⟩) hza); have H3 := Lib.hid (And.intro ho3 hB3); clear ho3 hB3)
      | (go_at_call_of 43 (Value.int IntKind.i64 1); refine (hrd1.out g w3 ((h.out.below (hBa.out.trans (H3.out.2.mono hBa.out.size))).more (hBa.out.trans (H3.out.2.mono hBa.out.size)).size) (((hTa.out.more (Nat.le_of_lt hza)).below H3.out.2).more H3.out.2.size)).mono ?_; rintro e w4 ⟨A4, c4, rfl, ho4, hB4⟩; have H4 := Lib.hid (And.intro ho4 hB4); clear ho4 hB4))
    all_goals
      have hsep : (Value.slice A3 x0.length c3).ownBlock = none ∨ (Value.slice A3 x0.length c3).ownBlock ≠ (Value.slice A4 x1.length c4).ownBlock := by
        cases hb : (Value.slice A3 x0.length c3).ownBlock with
        | none => exact .inl rfl
        | some k =>
          refine .inr fun e => ?_
          have h1 := (H3.out.1.lt k hb).2
          have h2 := (H4.out.1.lt k e.symm).1
          omega
      have hB3 := hBa.out.trans (H3.out.2.mono hBa.out.size)
      have HF := Lib.hid (And.intro (own_base (own_below H3.out.1 H4.out.2) hBa.out.size) (And.intro (own_base H4.out.1 hB3.size) (And.intro hsep (hB3.trans (H4.out.2.mono hB3.size)))))
      clear hsep hB3
      go_wp2
      go_ret3
      exact ⟨_, _, _, _, rfl, HF.out⟩

end Go.Proofs.YtiemoocdffobgaaDoor
