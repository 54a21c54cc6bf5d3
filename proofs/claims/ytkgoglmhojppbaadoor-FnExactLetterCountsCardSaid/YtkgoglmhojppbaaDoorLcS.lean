/-
  WHAT THIS FILE PROVES: the counts of all words of a set: the specification hands back a slice of slices of its own; asked: slices in memory, lengths that an int holds.
-/
import Derived.Test.YtkgoglmhojppbaaDoorLets
import Derived.Test.YtkgoglmhojppbaaDoorIsSet
import Derived.Test.YtkgoglmhojppbaaDoorSiM
import Derived.Maps.AppendAt
import Derived.OwnWalk
namespace Go.Proofs.YtkgoglmhojppbaaDoor
open Go.RowKit Go.Shelf

/-- the counts of a word -/
def ltN (s : ByteArray) : List Int := [cl s 97 s.size, cl s 98 s.size, cl s 99 s.size]
def lcOf (ss : List ByteArray) : List (List Int) := if W.isSet ss then ss.map ltN else []
theorem lcOf_no {ss : List ByteArray} (h : W.isSet ss = false) : lcOf ss = [] := by unfold lcOf; rw [h]; rfl
theorem lcOf_yes {ss : List ByteArray} (h : W.isSet ss = true) : lcOf ss = ss.map ltN := by unfold lcOf; rw [h]; rfl
theorem lcOf_len (ss : List ByteArray) : (lcOf ss).length ≤ 1048576 := by
  cases h : W.isSet ss
  · rw [lcOf_no h]; simp
  · rw [lcOf_yes h, List.length_map]
    have := W.isSet_len ss h
    omega
theorem lcOf_three (ss : List ByteArray) : ∀ x ∈ lcOf ss, x.length ≤ 3 := by
  intro x hx
  unfold lcOf at hx
  split at hx
  · obtain ⟨s, _, rfl⟩ := List.mem_map.1 hx
    exact Nat.le_refl _
  · simp at hx
theorem lcOf_bd (ss : List ByteArray) : offI (lcOf ss) (lcOf ss).length ≤ 549755813888 ∧ ∀ x ∈ lcOf ss, x.length ≤ 549755813888 := by
  have h3 := lcOf_three ss
  refine ⟨?_, fun x hx => by have := h3 x hx; omega⟩
  have h1 := offI_bd (lcOf ss) 3 h3 (lcOf ss).length (Nat.le_refl _)
  have h2 := lcOf_len ss
  omega
theorem set_good {ss : List ByteArray} (h : W.isSet ss = true) (k : Nat) (hk : k < ss.length) : W.good (W.nth ss k).data.toList = true ∧ (W.nth ss k).size ≤ 8 := by
  have h1 := W.isSet_short ss h k hk
  refine ⟨?_, (W.short_size _ h1).2⟩
  rw [W.short_good, Bool.and_eq_true] at h1
  exact h1.2
theorem map_take_succC (ss : List ByteArray) (k : Nat) (h : k < ss.length) : (ss.map ltN).take (k + 1) = (ss.map ltN).take k ++ [ltN (W.nth ss k)] := by
  rw [List.take_succ_eq_append_getElem (by simpa using h), List.getElem_map, W.nth_lt ss k h]
theorem map_take_lenC (ss : List ByteArray) (k : Nat) (h : k ≤ ss.length) : (intss ((ss.map ltN).take k)).length = k := by
  rw [intss_length, List.length_take, List.length_map]; omega
theorem spec_letters (s : ByteArray) (w : World) (hs : s.size ≤ 1099511627776) (hg : W.good s.data.toList = true) :
    Calls Tryd.prog 36 #[.string s] w (GivesInts w (ltN s)) :=
  (spec_wdLetters s w hs hg).mono fun e w' h => by
    obtain ⟨rfl, rfl⟩ := h
    exact givesInts_three w w _ _ _ (Below.refl _ _)
set_option maxHeartbeats 1600000 in
theorem spec_LetterCounts (A : Option Addr) (ss : List ByteArray) (c : Nat) (w : World) (h : Row w w.heap.size A (strs ss)) (hl : ss.length ≤ 9223372036854775807) (hs : ∀ s ∈ ss, s.size ≤ 9223372036854775807) :
    Calls Tryd.prog 12 #[.slice A ss.length c] w (OkSS 22 3 w (intss (lcOf ss)) (W.isSet ss)) := by
  have hc := spec_wdSet A ss c w h hl hs
  cases hq : W.isSet ss
  · rw [lcOf_no hq]
    rw [hq] at hc
    replace hc := Lib.hid hc
    clear hq h hs
    go_enter Tryd.func12, Tryd.ntmps12
    go_wp2_with (go_at_call 35; refine hc.out.mono ?_; rintro e w' ⟨rfl, rfl⟩)
    go_ret2
    exact okSS_nil _ _ _ _ _ (Below.refl _ _)
  · rw [lcOf_yes hq]
    have h12 := W.isSet_len ss hq
    obtain ⟨i0, hi, hz0, hz1, hz2⟩ := info_parts infoSI
    have HR := Lib.hid (And.intro hi (And.intro hz0 (And.intro hz1 hz2)))
    have hq' := Lib.hid (fun k (u : World) (hk : k < ss.length) => spec_letters (W.nth ss k) u (by have := (set_good hq k hk).2; omega) (set_good hq k hk).1)
    have hln := Lib.hid (map_take_lenC ss)
    rw [hq] at hc
    replace hc := Lib.hid hc
    replace h := Lib.hid h
    clear hi hz0 hz1 hz2 hq hs
    go_enter Tryd.func12, Tryd.ntmps12
    go_wp2_with (go_at_call 35; refine hc.out.mono ?_; rintro e w' ⟨rfl, rfl⟩)
    go_loopw [4, 12] (fun v i wr => ∃ k : Nat, k ≤ ss.length ∧ i = .int .i64 k ∧ (∃ vs : List Value, OwnAt wr w.heap.size 22 3 v vs (intss ((ss.map ltN).take k))) ∧ Below w.heap.size w wr)
      (fun _ i _ => ss.length - (intOf i).toNat)
    case atStart => exact ⟨0, Nat.zero_le _, rfl, ⟨[], ownAt_nil _ _ _ _⟩, Below.refl _ _⟩
    case round =>
      obtain ⟨k, hk, rfl, ⟨vs, hV⟩, hB⟩ := hrel
      have hlk := Lib.hid (hln.out k hk)
      obtain ⟨Av, cv, rfl⟩ := own_slice hV.own
      rw [hlk.out] at hV ⊢
      have hO := Lib.hid (And.intro hV hB)
      have hsz := hB.size
      by_cases hlt : k < ss.length
      · obtain ⟨b, off, rfl, hb, hcc⟩ := h.out (by rw [strs_length]; omega)
        have hlt' : (k : Int) < (ss.length : Int) := by omega
        have c1 := (hB.cell (p := ⟨b, off + k, none⟩) hb).trans (hcc k _ (strs_nth ss k hlt))
        have hbk := Lib.hid (hq'.out k wr hlt)
        have Hs := Lib.hid (map_take_succC ss k hlt)
        have Hl := Lib.hid (show ((ss.map ltN).take k).length = k from by rw [List.length_take, List.length_map]; omega)
        clear hcc hV hB
        generalize ltN (W.nth ss k) = m at Hs hbk
        generalize W.nth ss k = x at c1 hbk
        go_wp2_with fail
        refine hbk.out.mono ?_
        rintro e w2 ⟨A2, c2, rfl, ho2, hB2⟩
        have hV2 := Lib.hid (show (w2.alloc (.cells #[.slice A2 m.length c2] 22)).ownsRow w.heap.size 22 1 (.slice Av k cv) k vs from by
          have := ((hO.out.1.below hB2).below ((Below.refl w2.heap.size w2).alloc (Nat.le_refl _) (.cells #[.slice A2 m.length c2] 22))).own
          rwa [hlk.out] at this)
        have hB3 := Lib.hid ((hO.out.2.trans (hB2.mono hsz)).alloc (Nat.le_trans hsz hB2.size) (.cells #[.slice A2 m.length c2] 22))
        have H2 := Lib.hid (And.intro ho2 hB2)
        have hsz2 := hB2.size
        clear ho2 hB2 hbk c1
        go_wp2_with (at_builtin; refine wpList_append_own _ rfl _ _ 33 rfl w.heap.size 22 i0 (.slice none 0 0) 1 24 Tryd.underlying33 HR.out.1 HR.out.2.1 HR.out.2.2.1 HR.out.2.2.2 rfl (by decide) (.slice Av k cv) k vs rfl hV2.out ⟨w2.heap.size, 0, none⟩ 1 1 [.slice A2 m.length c2] rfl rfl (cells_sli _ _ _) (one_sli _ _ _) (by unfold maxLen; omega) (by omega) (by simp; omega) ?_)
        intro v5 w5 ho5 hg5 _
        have hP5 := si_push hO.out.1 hsz H2.out.2 H2.out.1 (by rw [Hl.out]; exact ho5) hg5
        have hB5 := hB3.out.grown hg5 (by simp; omega) (fun g hg => (hV2.out.lt g hg).1)
        have H5 := Lib.hid (And.intro hP5 hB5)
        clear hP5 hB5 ho5 hg5 hV2 hB3 H2 hO
        go_wp2
        go_roundw
        case rel => exact ⟨k + 1, by omega, by go_num, by rw [Hs.out]; exact ⟨_, H5.out.1⟩, H5.out.2⟩
        case measure => simp [intOf]; omega
      · obtain rfl : k = ss.length := by omega
        clear hV hB
        go_wp2
        go_ret2
        have hfin := hO.out.1
        rw [List.take_of_length_le (by simp)] at hfin
        have e : (intss (ss.map ltN)).length = ss.length := by rw [intss_length, List.length_map]
        exact ⟨Av, cv, by rw [e]; rfl, ⟨_, by rw [e]; exact hfin⟩, hO.out.2⟩
end Go.Proofs.YtkgoglmhojppbaaDoor
