/-
  WHAT THIS FILE PROVES: what the checks' own functions over slices of slices of ints do: equal ones are told equal, marks are laid and found again; asked: rows that lie in memory, lengths that an int holds.
-/
import Derived.Test.YtkgoglmhojppbaaDoorMemI
import Derived.Test.YtkgoglmhojppbaaDoorSSMem
import Derived.Deep.RegionHeld3
namespace Go.Proofs.YtkgoglmhojppbaaDoor
open Go.RowKit

def intss (xss : List (List Int)) : List (List Value) := xss.map ints
theorem intss_length (xss : List (List Int)) : (intss xss).length = xss.length := by simp [intss]
theorem intss_at (xss : List (List Int)) (k : Nat) (h : k < xss.length) : (intss xss)[k]? = some (ints xss[k]) := by
  unfold intss
  rw [List.getElem?_map, List.getElem?_eq_getElem h]
  rfl
theorem intss_snoc (xss : List (List Int)) (xs : List Int) : intss (xss ++ [xs]) = intss xss ++ [ints xs] := by simp [intss]
theorem intss_set (xss : List (List Int)) (j : Nat) (xs : List Int) : (intss xss).set j (ints xs) = intss (xss.set j xs) := by
  unfold intss
  rw [List.map_set]

/-- how many elements the first j of them have -/
def offI (xss : List (List Int)) (j : Nat) : Nat := ((xss.take j).map List.length).sum
theorem offI_zero (xss : List (List Int)) : offI xss 0 = 0 := rfl
theorem offI_succ (xss : List (List Int)) (j : Nat) (h : j < xss.length) : offI xss (j + 1) = offI xss j + (xss[j]).length := by
  unfold offI
  rw [List.take_succ_eq_append_getElem h, List.map_append, List.sum_append]
  simp
theorem offI_le (xss : List (List Int)) : ∀ j, j ≤ xss.length → offI xss j ≤ offI xss xss.length := by
  intro j hj
  have e : offI xss xss.length = offI xss j + ((xss.drop j).map List.length).sum := by
    unfold offI
    rw [List.take_length, ← List.sum_append, ← List.map_append, List.take_append_drop]
  omega
/-- the marks that are laid: the same numbers of them, one after the other -/
def markss (k : Int) (xss : List (List Int)) : List (List Int) := xss.zipIdx.map fun p => marks (k + (offI xss p.2 : Nat)) p.1.length
theorem markss_length (k : Int) (xss : List (List Int)) : (markss k xss).length = xss.length := by simp [markss]
theorem markss_at (k : Int) (xss : List (List Int)) (j : Nat) (h : j < xss.length) : (markss k xss)[j]'(by rw [markss_length]; exact h) = marks (k + (offI xss j : Nat)) (xss[j]).length := by simp [markss]
/-- the first j of the one, then what is left of the other -/
def mixI (ys xs : List (List Int)) (j : Nat) : List (List Int) := ys.take j ++ xs.drop j
theorem mixI_length (ys xs : List (List Int)) (j : Nat) (h : ys.length = xs.length) : (mixI ys xs j).length = xs.length := by
  unfold mixI
  rw [List.length_append, List.length_take, List.length_drop]
  omega
theorem mixI_zero (ys xs : List (List Int)) : mixI ys xs 0 = xs := by simp [mixI]
theorem mixI_all (ys xs : List (List Int)) (h : ys.length = xs.length) : mixI ys xs xs.length = ys := by
  unfold mixI
  rw [List.drop_length, List.append_nil, ← h, List.take_length]
theorem mixI_at (ys xs : List (List Int)) (j : Nat) (h : ys.length = xs.length) (hj : j < xs.length) : (mixI ys xs j)[j]? = some xs[j] := by
  unfold mixI
  have hl : (ys.take j).length = j := by rw [List.length_take]; omega
  rw [List.getElem?_append_right (by omega), hl, Nat.sub_self, List.getElem?_drop, Nat.add_zero, List.getElem?_eq_getElem hj]
theorem mixI_set (ys xs : List (List Int)) (j : Nat) (h : ys.length = xs.length) (hj : j < ys.length) : (mixI ys xs j).set j ys[j] = mixI ys xs (j + 1) := by
  unfold mixI
  have hl : (ys.take j).length = j := by rw [List.length_take]; omega
  rw [List.set_append_right _ _ (by rw [hl]; exact Nat.le_refl _), hl, Nat.sub_self, List.take_succ_eq_append_getElem hj, List.drop_eq_getElem_cons (show j < xs.length by omega), List.set_cons_zero, List.append_assoc]
  rfl

/-- the call hands back a slice of slices of its own that reads as xss, and whether it is told; nothing that was there has turned -/
def OkIntss (w0 : World) (xss : List (List Int)) (ok : Bool) (e : Ending) (w' : World) : Prop :=
  ∃ A c, e = .returned (.tuple #[.slice A xss.length c, .bool ok]) ∧ OwnSS w' w0.heap.size 22 3 (.slice A xss.length c) (intss xss) ∧ Below w0.heap.size w0 w'
theorem okIntss_of {w0 w' : World} {xss : List (List Int)} {ok : Bool} {e : Ending} (h : OkSS 22 3 w0 (intss xss) ok e w') : OkIntss w0 xss ok e w' := by
  obtain ⟨A, c, he, ho, hB⟩ := h
  rw [intss_length] at he ho
  exact ⟨A, c, he, ho, hB⟩
theorem offI_bd (xss : List (List Int)) (b : Nat) (h : ∀ xs ∈ xss, xs.length ≤ b) : ∀ j, j ≤ xss.length → offI xss j ≤ j * b
  | 0, _ => Nat.zero_le _
  | j + 1, hj => by
    rw [offI_succ xss j (by omega), Nat.succ_mul]
    have h1 := offI_bd xss b h j (by omega)
    have h2 := h _ (List.getElem_mem (show j < xss.length by omega))
    omega

/-- nothing but draws -/
def Drawn (w wr : World) : Prop := ∃ q, wr = w.drewN q
theorem drawn_refl (w : World) : Drawn w w := ⟨0, rfl⟩
theorem Drawn.below {w wr : World} (h : Drawn w wr) : Below w.heap.size w wr := by
  obtain ⟨q, rfl⟩ := h
  exact below_drewN (Below.refl _ _) _
theorem Drawn.more {w wr : World} (h : Drawn w wr) (n : Nat) : Drawn w (wr.drewN n) := by
  obtain ⟨q, rfl⟩ := h
  exact ⟨q + n, by rw [World.drewN_drewN]⟩

set_option maxHeartbeats 800000 in
/-- two slices of the same slices of ints are told equal -/
theorem eqIntSS_quiet (A A' : Option Addr) (xss : List (List Int)) (c c' : Nat) (w : World) (h : RowSS w w.heap.size A (intss xss)) (h' : RowSS w w.heap.size A' (intss xss)) (hl : xss.length ≤ 1099511627776) (hn : ∀ xs ∈ xss, xs.length ≤ 1099511627776) :
    Calls Tryd.prog 15 #[.slice A xss.length c, .slice A' xss.length c'] w fun e w' => e = .returned (.bool true) ∧ ∃ q, w' = w.drewN q := by
  obtain ⟨vs, h1, h2, h3⟩ := h
  obtain ⟨vs', h1', h2', h3'⟩ := h'
  replace h1 := Lib.hid h1
  replace h1' := Lib.hid h1'
  replace h2 := Lib.hid h2
  replace h2' := Lib.hid h2'
  replace h3 := Lib.hid h3
  replace h3' := Lib.hid h3'
  replace hn := Lib.hid hn
  go_enter Tryd.func15, Tryd.ntmps15
  go_wp2
  go_loopw [5] (fun i wr => ∃ k : Nat, k ≤ xss.length ∧ i = .int .i64 k ∧ Drawn w wr) (fun i _ => xss.length - (intOf i).toNat)
  case atStart => exact ⟨0, Nat.zero_le _, rfl, drawn_refl w⟩
  case round =>
    obtain ⟨k, hk, rfl, hq⟩ := hrel
    have hB := Lib.hid hq.below
    replace hq := Lib.hid hq
    by_cases hlt : k < xss.length
    · have hlt' : (k : Int) < (xss.length : Int) := by omega
      have H0 := Lib.hid (show 0 < (intss xss).length by rw [intss_length]; omega)
      obtain ⟨b, off, rfl, hb, hc⟩ := h1.out (by rw [h2.out]; exact H0.out)
      obtain ⟨b', off', rfl, hb', hc'⟩ := h1'.out (by rw [h2'.out]; exact H0.out)
      obtain ⟨Ai, ci, hv, hr⟩ := h3.out k _ (intss_at xss k hlt)
      obtain ⟨Ai', ci', hv', hr'⟩ := h3'.out k _ (intss_at xss k hlt)
      have c1 := (hB.out.cell (p := ⟨b, off + k, none⟩) hb).trans (hc k _ hv)
      have c2 := (hB.out.cell (p := ⟨b', off' + k, none⟩) hb').trans (hc' k _ hv')
      rw [ints_length] at c1 c2
      have hxn := hn.out _ (List.getElem_mem hlt)
      generalize xss[k] = xs at c1 c2 hr hr' hxn
      have hR := Lib.hid (And.intro hr hr')
      clear hc hc' hv hv' hr hr'
      have hcall := Lib.hid (fun n => eqIntS_quiet Ai Ai' xs ci ci' (wr.drewN n) ((hR.out.1.below (below_drewN hB.out n)).more hB.out.size) ((hR.out.2.below (below_drewN hB.out n)).more hB.out.size) (by omega))
      go_wp2
      go_quiet ((go_at_call 10; exact Calls.quiet_of (hcall.out _)))
      go_wp2
      go_roundw
      case rel => exact ⟨k + 1, by omega, by go_num, hq.out.more nq⟩
      case measure => simp [intOf]; omega
    · go_wp2
      go_ret
      exact ⟨rfl, hq.out⟩
theorem eqIntSS_same (A A' : Option Addr) (xss : List (List Int)) (c c' : Nat) (w : World) (h : RowSS w w.heap.size A (intss xss)) (h' : RowSS w w.heap.size A' (intss xss)) (hl : xss.length ≤ 1099511627776) (hn : ∀ xs ∈ xss, xs.length ≤ 1099511627776) :
    Calls Tryd.prog 15 #[.slice A xss.length c, .slice A' xss.length c'] w fun e w' => e = .returned (.bool true) ∧ Below w.heap.size w w' :=
  (eqIntSS_quiet A A' xss c c' w h h' hl hn).mono fun _ _ ⟨he, q, hw⟩ => ⟨he, by rw [hw]; exact below_drewN (Below.refl _ _) _⟩

theorem offI_mem (xss : List (List Int)) (j : Nat) (h : j < xss.length) : offI xss j + (xss[j]).length ≤ offI xss xss.length := by
  rw [← offI_succ xss j h]
  exact offI_le xss (j + 1) h
set_option maxHeartbeats 800000 in
/-- the marks are laid into rows of the call's own -/
theorem markIntSS_own (A : Option Addr) (xss : List (List Int)) (c base : Nat) (k : Int) (w : World) (hown : OwnSS w base 22 3 (.slice A xss.length c) (intss xss)) (hk0 : 0 ≤ k) (hk1 : k ≤ 549755813888) (hl : offI xss xss.length ≤ 549755813888) (hl2 : xss.length ≤ 549755813888) :
    Calls Tryd.prog 18 #[.slice A xss.length c, .int .i64 k] w fun e w' => e = .returned (.int .i64 (k + (offI xss xss.length : Nat))) ∧
      OwnSS w' base 22 3 (.slice A xss.length c) (intss (markss k xss)) ∧ Below base w w' := by
  obtain ⟨vs, hown⟩ := hown
  by_cases h0 : 0 < xss.length
  · have hs := own_form (n := xss.length) (by have := hown.own; rw [intss_length] at this; exact this) h0
    obtain ⟨g, rfl, hbg, hlt⟩ := hs
    replace hown := Lib.hid hown
    replace hl := Lib.hid hl
    have hbase := Lib.hid (show base ≤ w.heap.size by omega)
    go_enter Tryd.func18, Tryd.ntmps18
    go_wp2
    go_loopw [1, 5] (fun m i wr => ∃ j : Nat, j ≤ xss.length ∧ i = .int .i64 j ∧ m = .int .i64 (k + (offI xss j : Nat)) ∧
        OwnAt wr base 22 3 (.slice (some ⟨g, 0, none⟩) xss.length c) vs (intss (mixI (markss k xss) xss j)) ∧ Below base w wr ∧ w.heap.size ≤ wr.heap.size) (fun _ i _ => xss.length - (intOf i).toNat)
    case atStart => exact ⟨0, Nat.zero_le _, rfl, by simp [offI_zero], by rw [mixI_zero]; exact hown.out, Below.refl _ _, Nat.le_refl _⟩
    case round =>
      obtain ⟨j, hj, rfl, rfl, ho, hB, hz⟩ := hrel
      have hO := Lib.hid (And.intro ho hB)
      clear ho hB
      by_cases hlt2 : j < xss.length
      · have hlt' : (j : Int) < (xss.length : Int) := by omega
        have hml := mixI_at (markss k xss) xss j (markss_length k xss) hlt2
        have hmi : (intss (mixI (markss k xss) xss j))[j]? = some (ints xss[j]) := by
          unfold intss
          rw [List.getElem?_map, hml]
          rfl
        obtain ⟨Aj, cj, hv, hrow⟩ := hO.out.1.inner j _ hmi
        have hlen : (intss (mixI (markss k xss) xss j)).length = xss.length := by rw [intss_length, mixI_length _ _ _ (markss_length k xss)]
        have c1 : wr.cell? ⟨g, j, none⟩ = some (.slice Aj (ints xss[j]).length cj) := by
          have := hO.out.1.own
          rw [hlen] at this
          rw [this.cellAt j (by omega)]
          exact hv
        have hsum := offI_mem xss j hlt2
        have hsuc := Lib.hid (offI_succ xss j hlt2)
        have hb1 := hl.out
        rw [ints_length] at c1 hrow
        have HS := Lib.hid (fun w' ys h1 h2 h3 => hO.out.1.set (w' := w') (ys := ys) (by decide) hmi hv h1 h2 h3)
        have Hset := Lib.hid (show (intss (mixI (markss k xss) xss j)).set j (ints (marks (k + (offI xss j : Nat)) (xss[j]).length)) = intss (mixI (markss k xss) xss (j + 1)) by
          rw [intss_set, ← markss_at k xss j hlt2, mixI_set _ _ _ (markss_length k xss) (by rw [markss_length]; exact hlt2)])
        replace hrow := Lib.hid hrow
        clear hml hmi hlen hv
        have hjk : 0 ≤ k + ((offI xss j : Nat) : Int) := by omega
        have hjk2 : k + ((offI xss j : Nat) : Int) ≤ 1099511627776 := by omega
        have hjl : (xss[j]).length ≤ 1099511627776 := by omega
        have hm := Lib.hid (markIntS_own Aj xss[j] cj base (k + (offI xss j : Nat)) wr hrow.out hjk hjk2 hjl)
        clear hb1 hsum
        go_wp2_with fail
        refine hm.out.mono ?_
        rintro e w1 ⟨rfl, ho1, hg1⟩
        have hF := Lib.hid (HS.out w1 (ints (marks (k + (offI xss j : Nat)) (xss[j]).length)) (by rw [ints_length, ints_length, marks_length]) (by rw [ints_length]; exact ho1) (by rw [ints_length]; exact hg1))
        have hz1 := hg1.size
        have hF2 := Lib.hid (hO.out.2.grown hg1 (by have := hbase.out; omega) (fun g hg => (hrow.out.lt g hg).1))
        clear ho1 hg1
        go_wp2
        go_roundw
        case rel => exact ⟨j + 1, by omega, by go_num, by rw [hsuc.out]; go_num, by rw [← Hset.out]; exact hF.out, hF2.out, by omega⟩
        case measure => simp [intOf]; omega
      · obtain rfl : j = xss.length := by omega
        go_wp2
        go_ret
        refine ⟨rfl, ⟨vs, ?_⟩, hO.out.2⟩
        have := hO.out.1
        rwa [mixI_all _ _ (markss_length k xss)] at this
  · have hn : xss = [] := List.eq_nil_of_length_eq_zero (by omega)
    subst hn
    have hs := Lib.hid hown
    clear hown
    go_enter Tryd.func18, Tryd.ntmps18
    go_wp2
    refine wp_loop_rounds 1 ?_
    rw [rounds_succ]
    go_wp2
    go_ret
    exact ⟨by simp [offI], ⟨vs, hs.out⟩, Below.refl _ _⟩

set_option maxHeartbeats 800000 in
/-- the marks are found again -/
theorem heldIntSS_marks (A : Option Addr) (xss : List (List Int)) (c : Nat) (k : Int) (w : World) (h : RowSS w w.heap.size A (intss (markss k xss))) (hk0 : 0 ≤ k) (hk1 : k ≤ 549755813888) (hl : offI xss xss.length ≤ 549755813888) (hl2 : xss.length ≤ 549755813888) :
    Calls Tryd.prog 19 #[.slice A xss.length c, .int .i64 k] w fun e w' => e = .returned (.int .i64 (k + (offI xss xss.length : Nat))) ∧ w = w' := by
  obtain ⟨vs, h1, h2, h3⟩ := h
  rw [intss_length, markss_length] at h2
  by_cases h0 : 0 < xss.length
  · obtain ⟨b, off, rfl, hb, hc⟩ := h1 (by omega)
    replace hc := Lib.hid hc
    replace h2 := Lib.hid h2
    replace h3 := Lib.hid h3
    replace hl := Lib.hid hl
    clear h1
    go_enter Tryd.func19, Tryd.ntmps19
    go_wp2
    go_loop [1, 5] (fun m i => ∃ j : Nat, j ≤ xss.length ∧ i = .int .i64 j ∧ m = .int .i64 (k + (offI xss j : Nat))) (fun _ i => xss.length - (intOf i).toNat)
    case atStart => exact ⟨0, Nat.zero_le _, rfl, by simp [offI_zero]⟩
    case round =>
      obtain ⟨j, hj, rfl, rfl⟩ := hrel
      by_cases hlt : j < xss.length
      · have hlt' : (j : Int) < (xss.length : Int) := by omega
        have hat : (intss (markss k xss))[j]? = some (ints (marks (k + (offI xss j : Nat)) (xss[j]).length)) := by
          rw [intss_at _ j (by rw [markss_length]; exact hlt), markss_at k xss j hlt]
        obtain ⟨Aj, cj, hv, hr⟩ := h3.out j _ hat
        have c1 := hc.out j _ hv
        rw [ints_length, marks_length] at c1
        have hsum := offI_mem xss j hlt
        have hsuc := Lib.hid (offI_succ xss j hlt)
        have hb1 := hl.out
        have hjk : 0 ≤ k + ((offI xss j : Nat) : Int) := by omega
        have hjk2 : k + ((offI xss j : Nat) : Int) ≤ 1099511627776 := by omega
        have hjl : (xss[j]).length ≤ 1099511627776 := by omega
        have hm := Lib.hid (heldIntS_marks Aj (xss[j]).length cj (k + (offI xss j : Nat)) w hr hjk hjk2 hjl)
        have hge : 0 ≤ k + ((offI xss j : Nat) : Int) + ((xss[j]).length : Int) := by omega
        clear hat hv hr hb1 hsum
        go_wp2_with (go_at_call 23; refine hm.out.mono ?_; rintro e w' ⟨rfl, rfl⟩)
        go_round
        case rel => exact ⟨j + 1, by omega, by go_num, by rw [hsuc.out]; go_num⟩
        case measure => simp [intOf]; omega
      · obtain rfl : j = xss.length := by omega
        go_wp2
        go_ret
        exact ⟨rfl, rfl⟩
  · have hn : xss = [] := List.eq_nil_of_length_eq_zero (by omega)
    subst hn
    clear h1 h3
    go_enter Tryd.func19, Tryd.ntmps19
    go_wp2
    refine wp_loop_rounds 1 ?_
    rw [rounds_succ]
    go_wp2
    go_ret
    exact ⟨by simp [offI], rfl⟩

end Go.Proofs.YtkgoglmhojppbaaDoor
