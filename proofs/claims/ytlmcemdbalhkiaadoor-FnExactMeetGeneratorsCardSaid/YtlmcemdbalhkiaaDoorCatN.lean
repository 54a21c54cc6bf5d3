/-
  WHAT THIS FILE PROVES: the library's Concat of any number of slices of texts hands back a slice of the call's own with the texts of all; asked: rows that lie in memory, room.
-/
import Derived.Test.YtlmcemdbalhkiaaDoorSConcat
import Derived.Test.YtlmcemdbalhkiaaDoorSSS
import Derived.Test.YtlmcemdbalhkiaaDoorPut
namespace Go.Proofs.YtlmcemdbalhkiaaDoor
open Go.RowKit Go.Shelf

/-- the texts of the first j lists -/
def fl (xss : List (List ByteArray)) (j : Nat) : List ByteArray := (xss.take j).flatten
theorem fl_zero (xss : List (List ByteArray)) : fl xss 0 = [] := rfl
theorem fl_all (xss : List (List ByteArray)) : fl xss xss.length = xss.flatten := by unfold fl; rw [List.take_length]
theorem fl_succ (xss : List (List ByteArray)) (j : Nat) (h : j < xss.length) : fl xss (j + 1) = fl xss j ++ xss[j] := by
  unfold fl
  rw [List.take_succ_eq_append_getElem h, List.flatten_append]
  simp
theorem fl_le (xss : List (List ByteArray)) : ∀ d j, j + d = xss.length → (fl xss j).length ≤ xss.flatten.length
  | 0, j, h => by rw [show j = xss.length by omega, fl_all]; exact Nat.le_refl _
  | d + 1, j, h => by
    have := fl_le xss d (j + 1) (by omega)
    rw [fl_succ xss j (by omega), List.length_append] at this
    omega

set_option maxHeartbeats 3200000 in
theorem slices_ConcatN (A : Option Addr) (xss : List (List ByteArray)) (c : Nat) (w : World) (h : RowSS w w.heap.size A (strss xss)) (hn : xss.length ≤ 1048576) (hl : xss.flatten.length ≤ 524288) :
    Calls Tryd.prog 36 #[.slice A xss.length c] w (GivesStrs w xss.flatten) := by
  obtain ⟨i0, hinfo⟩ := info6
  have HR := Lib.hid hinfo
  have hle := Lib.hid (fun j (hj : j ≤ xss.length) => fl_le xss (xss.length - j) j (by omega))
  have hsucc := Lib.hid (fun j (hj : j < xss.length) => fl_succ xss j hj)
  have hall := Lib.hid (fl_all xss)
  obtain ⟨vs, hv1, hv2, hv3⟩ := h
  rw [strss_length] at hv2
  have H := Lib.hid (And.intro hv1 hv3)
  have hg : Hid (∀ (n : Nat) W, n ≤ 524288 → Calls Tryd.prog 56 #[.slice none 0 0, .int .i64 (n : Int)] W fun e w' => ∃ v, e = .returned v ∧ w'.ownsRow W.heap.size 9 1 v 0 [] ∧ Below W.heap.size W w') := fun n W hn => grow_nil n W (by omega)
  clear hinfo hv1 hv3
  go_enter Tryd.func36, Tryd.ntmps36
  go_wp2
  go_loop [3, 11] (fun z i => ∃ j : Nat, j ≤ xss.length ∧ i = .int .i64 j ∧ z = .int .i64 ((fl xss j).length : Int)) (fun _ i => xss.length - (intOf i).toNat)
  case atStart => exact ⟨0, Nat.zero_le _, rfl, rfl⟩
  case round =>
    obtain ⟨j, hj, rfl, rfl⟩ := hrel
    by_cases hlt : j < xss.length
    · obtain ⟨b, off, rfl, hb, hcc⟩ := H.out.1 (by omega)
      obtain ⟨A', c', h1, _⟩ := H.out.2 j _ (strss_at xss j hlt)
      have c1 := hcc j _ h1
      clear hcc h1
      have e2 := hsucc.out j hlt
      have e3 := hle.out (j + 1) hlt
      rw [e2, List.length_append] at e3
      have hlt' : (j : Int) < (xss.length : Int) := by omega
      rw [strs_length] at c1
      have e4 := Lib.hid (show ((fl xss (j + 1)).length : Int) = ((fl xss j).length : Int) + (xss[j].length : Int) by rw [e2, List.length_append]; omega)
      clear e2
      generalize hn1 : (fl xss j).length = n1 at e3 e4 ⊢
      generalize hn2 : xss[j].length = n2 at c1 e3 e4
      clear hn1 hn2
      go_wp2
      go_round
      case rel => exact ⟨j + 1, by omega, by go_num, by rw [e4.out]; try rfl⟩
      case measure => simp [intOf]; omega
    · have hje : j = xss.length := by omega
      subst hje
      have e3 := hle.out xss.length (Nat.le_refl _)
      have hg2 := Lib.hid (fun W => hg.out (fl xss xss.length).length W (by omega))
      have hnn : (0 : Int) ≤ ((fl xss xss.length).length : Int) := by omega
      generalize (fl xss xss.length).length = n1 at hg2 hnn ⊢
      go_wp2_with fail
      refine (hg2.out _).mono ?_
      rintro e w1 ⟨v1, rfl, ho1, hB1⟩
      have H1 := Lib.hid (And.intro ho1 hB1)
      clear ho1 hB1 hg2 hg
      go_wp2_with fail
      go_loopw [6, 27] (fun v i wr => ∃ j : Nat, j ≤ xss.length ∧ i = .int .i64 j ∧ wr.ownsRow w.heap.size 9 1 v (fl xss j).length (strs (fl xss j)) ∧ Below w.heap.size w wr) (fun _ i _ => xss.length - (intOf i).toNat)
      case atStart => exact ⟨0, Nat.zero_le _, rfl, H1.out.1, H1.out.2⟩
      case round =>
        obtain ⟨j, hj, rfl, ho, hB⟩ := hrel
        obtain ⟨Ar, cr, rfl⟩ := own_slice ho
        by_cases hlt : j < xss.length
        · obtain ⟨b, off, rfl, hb, hcc⟩ := H.out.1 (by omega)
          obtain ⟨A', c', h1, hrow⟩ := H.out.2 j _ (strss_at xss j hlt)
          have c1 := (hB.cell (p := ⟨b, off + j, none⟩) hb).trans (hcc j _ h1)
          clear hcc h1
          have e2 := Lib.hid (hsucc.out j hlt)
          have e5 := hle.out (j + 1) hlt
          rw [e2.out, List.length_append] at e5
          have hlt' : (j : Int) < (xss.length : Int) := by omega
          rw [strs_length] at c1
          have hbs := hB.size
          have hO := Lib.hid (And.intro ho (And.intro hB (hrow.below hB)))
          clear ho hB hrow
          generalize xss[j] = ys at c1 e2 e5 hO
          generalize fl xss j = fj at e2 e5 hO ⊢
          go_wp2_with (at_builtin; refine wpList_append_row _ rfl _ _ 22 rfl w.heap.size 9 i0 _ 16 Tryd.underlying22 HR.out.1 HR.out.2.1 HR.out.2.2.1 HR.out.2.2.2 rfl _ fj.length (strs fj) rfl hO.out.1 w.heap.size A' c' (strs ys) (by rw [strs_length]; rfl) hO.out.2.2 (strs_cells _) (by rw [strs_length]; unfold maxLen; omega) (by rw [strs_length]; omega) hbs ?_)
          intro v2 w2 ho2 hg2
          have hF := Lib.hid (And.intro ho2 hg2)
          clear ho2 hg2
          go_wp2
          go_roundw
          case rel =>
            refine ⟨j + 1, by omega, by go_num, own_nx hF.out.1 ?_ ?_, hO.out.2.1.grown hF.out.2 hbs (fun g hg => (hO.out.1.lt g hg).1)⟩
            · rw [e2.out, List.length_append, strs_length]
            · rw [e2.out, strs_append]
          case measure => simp [intOf]; omega
        · have hje : j = xss.length := by omega
          subst hje
          have hO := Lib.hid (And.intro ho hB)
          clear ho hB
          go_wp2
          go_ret
          rw [← hall.out]
          exact ⟨_, _, rfl, hO.out.1, hO.out.2⟩
end Go.Proofs.YtlmcemdbalhkiaaDoor
