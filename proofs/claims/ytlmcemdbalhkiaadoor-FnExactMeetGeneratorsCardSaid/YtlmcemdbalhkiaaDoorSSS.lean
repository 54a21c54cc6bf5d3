/-
  WHAT THIS FILE PROVES: what the checks' own functions over slices of slices of strs do: equal ones are told equal, mts are laid and found again; asked: rows that lie in memory, lengths that an int holds.
-/
import Derived.Test.YtlmcemdbalhkiaaDoorMemS
import Derived.Test.YtlmcemdbalhkiaaDoorSSMem
import Derived.Deep.RegionHeld3
namespace Go.Proofs.YtlmcemdbalhkiaaDoor
open Go.RowKit

def strss (xss : List (List ByteArray)) : List (List Value) := xss.map strs
theorem strss_length (xss : List (List ByteArray)) : (strss xss).length = xss.length := by simp [strss]
theorem strss_at (xss : List (List ByteArray)) (k : Nat) (h : k < xss.length) : (strss xss)[k]? = some (strs xss[k]) := by
  unfold strss
  rw [List.getElem?_map, List.getElem?_eq_getElem h]
  rfl
theorem strss_snoc (xss : List (List ByteArray)) (xs : List ByteArray) : strss (xss ++ [xs]) = strss xss ++ [strs xs] := by simp [strss]
theorem strss_set (xss : List (List ByteArray)) (j : Nat) (xs : List ByteArray) : (strss xss).set j (strs xs) = strss (xss.set j xs) := by
  unfold strss
  rw [List.map_set]

/-- how many elements the first j of them have -/
def offS (xss : List (List ByteArray)) (j : Nat) : Nat := ((xss.take j).map List.length).sum
theorem offS_zero (xss : List (List ByteArray)) : offS xss 0 = 0 := rfl
theorem offS_succ (xss : List (List ByteArray)) (j : Nat) (h : j < xss.length) : offS xss (j + 1) = offS xss j + (xss[j]).length := by
  unfold offS
  rw [List.take_succ_eq_append_getElem h, List.map_append, List.sum_append]
  simp
theorem offS_le (xss : List (List ByteArray)) : ∀ j, j ≤ xss.length → offS xss j ≤ offS xss xss.length := by
  intro j hj
  have e : offS xss xss.length = offS xss j + ((xss.drop j).map List.length).sum := by
    unfold offS
    rw [List.take_length, ← List.sum_append, ← List.map_append, List.take_append_drop]
  omega
/-- the mts that are laid: the same numbers of them, one after the other -/
def mtss (k : Int) (xss : List (List ByteArray)) : List (List ByteArray) := xss.zipIdx.map fun p => mts (k + (offS xss p.2 : Nat)) p.1.length
theorem mtss_length (k : Int) (xss : List (List ByteArray)) : (mtss k xss).length = xss.length := by simp [mtss]
theorem mtss_at (k : Int) (xss : List (List ByteArray)) (j : Nat) (h : j < xss.length) : (mtss k xss)[j]'(by rw [mtss_length]; exact h) = mts (k + (offS xss j : Nat)) (xss[j]).length := by simp [mtss]
/-- the first j of the one, then what is left of the other -/
def mixS (ys xs : List (List ByteArray)) (j : Nat) : List (List ByteArray) := ys.take j ++ xs.drop j
theorem mixS_length (ys xs : List (List ByteArray)) (j : Nat) (h : ys.length = xs.length) : (mixS ys xs j).length = xs.length := by
  unfold mixS
  rw [List.length_append, List.length_take, List.length_drop]
  omega
theorem mixS_zero (ys xs : List (List ByteArray)) : mixS ys xs 0 = xs := by simp [mixS]
theorem mixS_all (ys xs : List (List ByteArray)) (h : ys.length = xs.length) : mixS ys xs xs.length = ys := by
  unfold mixS
  rw [List.drop_length, List.append_nil, ← h, List.take_length]
theorem mixS_at (ys xs : List (List ByteArray)) (j : Nat) (h : ys.length = xs.length) (hj : j < xs.length) : (mixS ys xs j)[j]? = some xs[j] := by
  unfold mixS
  have hl : (ys.take j).length = j := by rw [List.length_take]; omega
  rw [List.getElem?_append_right (by omega), hl, Nat.sub_self, List.getElem?_drop, Nat.add_zero, List.getElem?_eq_getElem hj]
theorem mixS_set (ys xs : List (List ByteArray)) (j : Nat) (h : ys.length = xs.length) (hj : j < ys.length) : (mixS ys xs j).set j ys[j] = mixS ys xs (j + 1) := by
  unfold mixS
  have hl : (ys.take j).length = j := by rw [List.length_take]; omega
  rw [List.set_append_right _ _ (by rw [hl]; exact Nat.le_refl _), hl, Nat.sub_self, List.take_succ_eq_append_getElem hj, List.drop_eq_getElem_cons (show j < xs.length by omega), List.set_cons_zero, List.append_assoc]
  rfl

/-- the call hands back a slice of slices of its own that reads as xss, and whether it is told; nothing that was there has turned -/
def OkStrss (w0 : World) (xss : List (List ByteArray)) (ok : Bool) (e : Ending) (w' : World) : Prop :=
  ∃ A c, e = .returned (.tuple #[.slice A xss.length c, .bool ok]) ∧ OwnSS w' w0.heap.size 22 9 (.slice A xss.length c) (strss xss) ∧ Below w0.heap.size w0 w'
theorem okStrss_of {w0 w' : World} {xss : List (List ByteArray)} {ok : Bool} {e : Ending} (h : OkSS 22 9 w0 (strss xss) ok e w') : OkStrss w0 xss ok e w' := by
  obtain ⟨A, c, he, ho, hB⟩ := h
  rw [strss_length] at he ho
  exact ⟨A, c, he, ho, hB⟩
theorem offS_bd (xss : List (List ByteArray)) (b : Nat) (h : ∀ xs ∈ xss, xs.length ≤ b) : ∀ j, j ≤ xss.length → offS xss j ≤ j * b
  | 0, _ => Nat.zero_le _
  | j + 1, hj => by
    rw [offS_succ xss j (by omega), Nat.succ_mul]
    have h1 := offS_bd xss b h j (by omega)
    have h2 := h _ (List.getElem_mem (show j < xss.length by omega))
    omega

/-- nothing but draws -/
def DrawnS (w wr : World) : Prop := ∃ q, wr = w.drewN q
theorem drawnS_refl (w : World) : DrawnS w w := ⟨0, rfl⟩
theorem DrawnS.below {w wr : World} (h : DrawnS w wr) : Below w.heap.size w wr := by
  obtain ⟨q, rfl⟩ := h
  exact below_drewN (Below.refl _ _) _
theorem DrawnS.more {w wr : World} (h : DrawnS w wr) (n : Nat) : DrawnS w (wr.drewN n) := by
  obtain ⟨q, rfl⟩ := h
  exact ⟨q + n, by rw [World.drewN_drewN]⟩

set_option maxHeartbeats 800000 in
/-- two slices of the same slices of strs are told equal -/
theorem eqStringSS_quiet (A A' : Option Addr) (xss : List (List ByteArray)) (c c' : Nat) (w : World) (h : RowSS w w.heap.size A (strss xss)) (h' : RowSS w w.heap.size A' (strss xss)) (hl : xss.length ≤ 2251799813685248) (hn : ∀ xs ∈ xss, xs.length ≤ 2251799813685248) :
    Calls Tryd.prog 24 #[.slice A xss.length c, .slice A' xss.length c'] w fun e w' => e = .returned (.bool true) ∧ ∃ q, w' = w.drewN q := by
  obtain ⟨vs, h1, h2, h3⟩ := h
  obtain ⟨vs', h1', h2', h3'⟩ := h'
  replace h1 := Lib.hid h1
  replace h1' := Lib.hid h1'
  replace h2 := Lib.hid h2
  replace h2' := Lib.hid h2'
  replace h3 := Lib.hid h3
  replace h3' := Lib.hid h3'
  replace hn := Lib.hid hn
  go_enter Tryd.func24, Tryd.ntmps24
  go_wp2
  go_loopw [5] (fun i wr => ∃ k : Nat, k ≤ xss.length ∧ i = .int .i64 k ∧ DrawnS w wr) (fun i _ => xss.length - (intOf i).toNat)
  case atStart => exact ⟨0, Nat.zero_le _, rfl, drawnS_refl w⟩
  case round =>
    obtain ⟨k, hk, rfl, hq⟩ := hrel
    have hB := Lib.hid hq.below
    replace hq := Lib.hid hq
    by_cases hlt : k < xss.length
    · have hlt' : (k : Int) < (xss.length : Int) := by omega
      have H0 := Lib.hid (show 0 < (strss xss).length by rw [strss_length]; omega)
      obtain ⟨b, off, rfl, hb, hc⟩ := h1.out (by rw [h2.out]; exact H0.out)
      obtain ⟨b', off', rfl, hb', hc'⟩ := h1'.out (by rw [h2'.out]; exact H0.out)
      obtain ⟨Ai, ci, hv, hr⟩ := h3.out k _ (strss_at xss k hlt)
      obtain ⟨Ai', ci', hv', hr'⟩ := h3'.out k _ (strss_at xss k hlt)
      have c1 := (hB.out.cell (p := ⟨b, off + k, none⟩) hb).trans (hc k _ hv)
      have c2 := (hB.out.cell (p := ⟨b', off' + k, none⟩) hb').trans (hc' k _ hv')
      rw [strs_length] at c1 c2
      have hxn := hn.out _ (List.getElem_mem hlt)
      generalize xss[k] = xs at c1 c2 hr hr' hxn
      have hR := Lib.hid (And.intro hr hr')
      clear hc hc' hv hv' hr hr'
      have hcall := Lib.hid (fun n => eqStringS_quiet Ai Ai' xs ci ci' (wr.drewN n) ((hR.out.1.below (below_drewN hB.out n)).more hB.out.size) ((hR.out.2.below (below_drewN hB.out n)).more hB.out.size) (by omega))
      go_wp2
      go_quiet ((go_at_call 13; exact Calls.quiet_of (hcall.out _)))
      go_wp2
      go_roundw
      case rel => exact ⟨k + 1, by omega, by go_num, hq.out.more nq⟩
      case measure => simp [intOf]; omega
    · go_wp2
      go_ret
      exact ⟨rfl, hq.out⟩
theorem eqStringSS_same (A A' : Option Addr) (xss : List (List ByteArray)) (c c' : Nat) (w : World) (h : RowSS w w.heap.size A (strss xss)) (h' : RowSS w w.heap.size A' (strss xss)) (hl : xss.length ≤ 2251799813685248) (hn : ∀ xs ∈ xss, xs.length ≤ 2251799813685248) :
    Calls Tryd.prog 24 #[.slice A xss.length c, .slice A' xss.length c'] w fun e w' => e = .returned (.bool true) ∧ Below w.heap.size w w' :=
  (eqStringSS_quiet A A' xss c c' w h h' hl hn).mono fun _ _ ⟨he, q, hw⟩ => ⟨he, by rw [hw]; exact below_drewN (Below.refl _ _) _⟩

theorem offS_mem (xss : List (List ByteArray)) (j : Nat) (h : j < xss.length) : offS xss j + (xss[j]).length ≤ offS xss xss.length := by
  rw [← offS_succ xss j h]
  exact offS_le xss (j + 1) h
set_option maxHeartbeats 800000 in
/-- the mts are laid into rows of the call's own -/
theorem markStringSS_own (A : Option Addr) (xss : List (List ByteArray)) (c base : Nat) (k : Int) (w : World) (hown : OwnSS w base 22 9 (.slice A xss.length c) (strss xss)) (hk0 : 1 ≤ k) (hk1 : k ≤ 1125899906842624) (hl : offS xss xss.length ≤ 1125899906842624) (hl2 : xss.length ≤ 1125899906842624) :
    Calls Tryd.prog 25 #[.slice A xss.length c, .int .i64 k] w fun e w' => e = .returned (.int .i64 (k + (offS xss xss.length : Nat))) ∧
      OwnSS w' base 22 9 (.slice A xss.length c) (strss (mtss k xss)) ∧ Below base w w' := by
  obtain ⟨vs, hown⟩ := hown
  by_cases h0 : 0 < xss.length
  · have hs := own_form (n := xss.length) (by have := hown.own; rw [strss_length] at this; exact this) h0
    obtain ⟨g, rfl, hbg, hlt⟩ := hs
    replace hown := Lib.hid hown
    replace hl := Lib.hid hl
    have hbase := Lib.hid (show base ≤ w.heap.size by omega)
    go_enter Tryd.func25, Tryd.ntmps25
    go_wp2
    go_loopw [1, 5] (fun m i wr => ∃ j : Nat, j ≤ xss.length ∧ i = .int .i64 j ∧ m = .int .i64 (k + (offS xss j : Nat)) ∧
        OwnAt wr base 22 9 (.slice (some ⟨g, 0, none⟩) xss.length c) vs (strss (mixS (mtss k xss) xss j)) ∧ Below base w wr ∧ w.heap.size ≤ wr.heap.size) (fun _ i _ => xss.length - (intOf i).toNat)
    case atStart => exact ⟨0, Nat.zero_le _, rfl, by simp [offS_zero], by rw [mixS_zero]; exact hown.out, Below.refl _ _, Nat.le_refl _⟩
    case round =>
      obtain ⟨j, hj, rfl, rfl, ho, hB, hz⟩ := hrel
      have hO := Lib.hid (And.intro ho hB)
      clear ho hB
      by_cases hlt2 : j < xss.length
      · have hlt' : (j : Int) < (xss.length : Int) := by omega
        have hml := mixS_at (mtss k xss) xss j (mtss_length k xss) hlt2
        have hmi : (strss (mixS (mtss k xss) xss j))[j]? = some (strs xss[j]) := by
          unfold strss
          rw [List.getElem?_map, hml]
          rfl
        obtain ⟨Aj, cj, hv, hrow⟩ := hO.out.1.inner j _ hmi
        have hlen : (strss (mixS (mtss k xss) xss j)).length = xss.length := by rw [strss_length, mixS_length _ _ _ (mtss_length k xss)]
        have c1 : wr.cell? ⟨g, j, none⟩ = some (.slice Aj (strs xss[j]).length cj) := by
          have := hO.out.1.own
          rw [hlen] at this
          rw [this.cellAt j (by omega)]
          exact hv
        have hsum := offS_mem xss j hlt2
        have hsuc := Lib.hid (offS_succ xss j hlt2)
        have hb1 := hl.out
        rw [strs_length] at c1 hrow
        have HS := Lib.hid (fun w' ys h1 h2 h3 => hO.out.1.set (w' := w') (ys := ys) (by decide) hmi hv h1 h2 h3)
        have Hset := Lib.hid (show (strss (mixS (mtss k xss) xss j)).set j (strs (mts (k + (offS xss j : Nat)) (xss[j]).length)) = strss (mixS (mtss k xss) xss (j + 1)) by
          rw [strss_set, ← mtss_at k xss j hlt2, mixS_set _ _ _ (mtss_length k xss) (by rw [mtss_length]; exact hlt2)])
        replace hrow := Lib.hid hrow
        clear hml hmi hlen hv
        have hjk : 1 ≤ k + ((offS xss j : Nat) : Int) := by omega
        have hjk2 : k + ((offS xss j : Nat) : Int) ≤ 2251799813685248 := by omega
        have hjl : (xss[j]).length ≤ 2251799813685248 := by omega
        have hm := Lib.hid (markStringS_own Aj xss[j] cj base (k + (offS xss j : Nat)) wr hrow.out hjk hjk2 hjl)
        clear hb1 hsum
        go_wp2_with fail
        refine hm.out.mono ?_
        rintro e w1 ⟨rfl, ho1, hg1⟩
        have hF := Lib.hid (HS.out w1 (strs (mts (k + (offS xss j : Nat)) (xss[j]).length)) (by rw [strs_length, strs_length, mts_length]) (by rw [strs_length]; exact ho1) (by rw [strs_length]; exact hg1))
        have hz1 := hg1.size
        have hF2 := Lib.hid (hO.out.2.grown hg1 (by have := hbase.out; omega) (fun g hg => (hrow.out.lt g hg).1))
        clear ho1 hg1
        go_wp2
        go_roundw
        case rel => exact ⟨j + 1, by omega, by go_num, by rw [hsuc.out]; go_num, by rw [← Hset.out]; exact hF.out, hF2.out, by omega⟩
        case measure => simp [intOf]; omega
      · obtain rfl : j = xss.length := by omega
        go_wp2
        go_ret
        refine ⟨rfl, ⟨vs, ?_⟩, hO.out.2⟩
        have := hO.out.1
        rwa [mixS_all _ _ (mtss_length k xss)] at this
  · have hn : xss = [] := List.eq_nil_of_length_eq_zero (by omega)
    subst hn
    have hs := Lib.hid hown
    clear hown
    go_enter Tryd.func25, Tryd.ntmps25
    go_wp2
    refine wp_loop_rounds 1 ?_
    rw [rounds_succ]
    go_wp2
    go_ret
    exact ⟨by simp [offS], ⟨vs, hs.out⟩, Below.refl _ _⟩

set_option maxHeartbeats 800000 in
/-- the mts are found again -/
theorem heldStringSS_marks (A : Option Addr) (xss : List (List ByteArray)) (c : Nat) (k : Int) (w : World) (h : RowSS w w.heap.size A (strss (mtss k xss))) (hk0 : 1 ≤ k) (hk1 : k ≤ 1125899906842624) (hl : offS xss xss.length ≤ 1125899906842624) (hl2 : xss.length ≤ 1125899906842624) :
    Calls Tryd.prog 26 #[.slice A xss.length c, .int .i64 k] w fun e w' => e = .returned (.int .i64 (k + (offS xss xss.length : Nat))) ∧ Below w.heap.size w w' := by
  obtain ⟨vs, h1, h2, h3⟩ := h
  rw [strss_length, mtss_length] at h2
  by_cases h0 : 0 < xss.length
  · obtain ⟨b, off, rfl, hb, hc⟩ := h1 (by omega)
    replace hc := Lib.hid hc
    replace h2 := Lib.hid h2
    replace h3 := Lib.hid h3
    replace hl := Lib.hid hl
    clear h1
    go_enter Tryd.func26, Tryd.ntmps26
    go_wp2
    go_loopw [1, 5] (fun m i wr => ∃ j : Nat, j ≤ xss.length ∧ i = .int .i64 j ∧ m = .int .i64 (k + (offS xss j : Nat)) ∧ Below w.heap.size w wr) (fun _ i _ => xss.length - (intOf i).toNat)
    case atStart => exact ⟨0, Nat.zero_le _, rfl, by simp [offS_zero], Below.refl _ _⟩
    case round =>
      obtain ⟨j, hj, rfl, rfl, hB⟩ := hrel
      have hO := Lib.hid hB
      clear hB
      by_cases hlt : j < xss.length
      · have hlt' : (j : Int) < (xss.length : Int) := by omega
        have hat : (strss (mtss k xss))[j]? = some (strs (mts (k + (offS xss j : Nat)) (xss[j]).length)) := by
          rw [strss_at _ j (by rw [mtss_length]; exact hlt), mtss_at k xss j hlt]
        obtain ⟨Aj, cj, hv, hr⟩ := h3.out j _ hat
        have c1 := (hO.out.cell (p := ⟨b, off + j, none⟩) hb).trans (hc.out j _ hv)
        rw [strs_length, mts_length] at c1
        have hsum := offS_mem xss j hlt
        have hsuc := Lib.hid (offS_succ xss j hlt)
        have hb1 := hl.out
        have hjk : 1 ≤ k + ((offS xss j : Nat) : Int) := by omega
        have hjk2 : k + ((offS xss j : Nat) : Int) ≤ 2251799813685248 := by omega
        have hjl : (xss[j]).length ≤ 2251799813685248 := by omega
        have hm := Lib.hid (heldStringS_marks Aj (xss[j]).length cj (k + (offS xss j : Nat)) wr ((hr.below hO.out).more hO.out.size) hjk hjk2 hjl)
        have hge : 0 ≤ k + ((offS xss j : Nat) : Int) + ((xss[j]).length : Int) := by omega
        clear hat hv hr hb1 hsum
        go_wp2_with (go_at_call 15; refine hm.out.mono ?_; rintro e w1 ⟨rfl, hB1⟩)
        go_roundw
        case rel => exact ⟨j + 1, by omega, by go_num, by rw [hsuc.out]; go_num, hO.out.trans (hB1.mono hO.out.size)⟩
        case measure => simp [intOf]; omega
      · obtain rfl : j = xss.length := by omega
        go_wp2
        go_ret
        exact ⟨rfl, hO.out⟩
  · have hn : xss = [] := List.eq_nil_of_length_eq_zero (by omega)
    subst hn
    clear h1 h3
    go_enter Tryd.func26, Tryd.ntmps26
    go_wp2
    refine wp_loop_rounds 1 ?_
    rw [rounds_succ]
    go_wp2
    go_ret
    exact ⟨by simp [offS], Below.refl _ _⟩

end Go.Proofs.YtlmcemdbalhkiaaDoor
