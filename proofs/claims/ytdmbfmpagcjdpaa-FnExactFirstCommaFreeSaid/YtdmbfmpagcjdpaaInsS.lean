/-
  WHAT THIS FILE PROVES: the first word that is within two others where it may not be: the specification's functions give the plain one; asked: a slice of short words in memory.
-/
import Derived.Test.YtdmbfmpagcjdpaaIns
import Derived.Test.YtdmbfmpagcjdpaaIsSet
import Derived.Test.YtdmbfmpagcjdpaaMemI
import Derived.BigQuiet
namespace Go.Proofs.Ytdmbfmpagcjdpaa
open Go.RowKit Go.Shelf

theorem plc_at {ss : List ByteArray} {i j k p : Nat} (h : p + (W.nth ss k).size ≤ (W.nth ss i).size + (W.nth ss j).size) :
    plc ss i j k p = (!(ownP (W.nth ss i).size i j k p) && (((W.nth ss i ++ W.nth ss j).extract p (p + (W.nth ss k).size)).toList == (W.nth ss k).toList)) := by
  unfold plc
  rw [← Lib.occ_of_piece _ _ _ (by rw [ByteArray.size_append]; exact h)]
  rfl
set_option maxRecDepth 100000 in
set_option maxHeartbeats 6400000 in
theorem spec_syInside (A : Option Addr) (ss : List ByteArray) (c : Nat) (w : World) (h : Row w w.heap.size A (strs ss)) (hl : ss.length ≤ 100) (hz : ∀ i, i < ss.length → 1 ≤ (W.nth ss i).size ∧ (W.nth ss i).size ≤ 8) :
    Calls Try.prog 16 #[.slice A ss.length c] w (OkInts w (gives (inS ss)) (inS ss).isSome) := by
  have Hz := Lib.hid hz
  have HS := Lib.hid (show inS ss = fstS (inI ss) ss.length from rfl)
  have HI := Lib.hid (show ∀ i, inI ss i = fstS (inJ ss i) ss.length from fun _ => rfl)
  have HJ := Lib.hid (show ∀ i j, inJ ss i j = fstS (inK ss i j) ss.length from fun _ _ => rfl)
  generalize inS ss = R at HS ⊢
  replace h := Lib.hid h
  clear hz
  go_enter Try.func16, Try.ntmps16
  go_wp2
  go_loop [13] (fun v => ∃ i : Nat, i ≤ ss.length ∧ v = .int .i64 i ∧ Hid (fstS (inI ss) i = none)) (fun v => ss.length - (intOf v).toNat)
  case atStart => exact ⟨0, Nat.zero_le _, rfl, rfl⟩
  case round =>
    obtain ⟨i, hi, rfl, hI⟩ := hrel
    by_cases hlt : i < ss.length
    · obtain ⟨b, off, rfl, hb, hcc⟩ := h.out (by rw [strs_length]; omega)
      have hlt' : (i : Int) < (ss.length : Int) := by omega
      have c1 := hcc i _ (strs_nth ss i hlt)
      have Hcc := Lib.hid hcc
      clear hcc
      have hz1 := (Hz.out i hlt).2
      go_wp2_with fail
      go_loop [20] (fun v => ∃ j : Nat, j ≤ ss.length ∧ v = .int .i64 j ∧ Hid (fstS (inJ ss i) j = none)) (fun v => ss.length - (intOf v).toNat)
      case atStart => exact ⟨0, Nat.zero_le _, rfl, rfl⟩
      case round =>
        obtain ⟨j, hj, rfl, hJ⟩ := hrel
        by_cases hlj : j < ss.length
        · have hlj' : (j : Int) < (ss.length : Int) := by omega
          have c2 := Hcc.out j _ (strs_nth ss j hlj)
          have hz2 := (Hz.out j hlj).2
          go_wp2_with fail
          go_loop [27] (fun v => ∃ k : Nat, k ≤ ss.length ∧ v = .int .i64 k ∧ Hid (fstS (inK ss i j) k = none)) (fun v => ss.length - (intOf v).toNat)
          case atStart => exact ⟨0, Nat.zero_le _, rfl, rfl⟩
          case round =>
            obtain ⟨k, hk, rfl, hK⟩ := hrel
            by_cases hlk : k < ss.length
            · have hlk' : (k : Int) < (ss.length : Int) := by omega
              have c3 := Hcc.out k _ (strs_nth ss k hlk)
              have hz3 := Hz.out k hlk
              have hz31 := hz3.1
              have hz32 := hz3.2
              clear hz3
              have Hpl := Lib.hid (fun p hp => plc_at (ss := ss) (i := i) (j := j) (k := k) (p := p) hp)
              have Hfar := Lib.hid (fun p hp => plc_far (ss := ss) (i := i) (j := j) (k := k) (p := p) hz31 hp)
              have HF := Lib.hid (show plF ss i j k = fstS (fun p => if plc ss i j k p then some p else none) ((W.nth ss i).size + (W.nth ss j).size) from rfl)
              have HK := Lib.hid (show inK ss i j k = (plF ss i j k).map fun p => [(i : Int), (j : Int), (k : Int), (p : Int)] from rfl)
              generalize W.nth ss i = s at c1 hz1 Hpl Hfar HF
              generalize W.nth ss j = t at c2 hz2 Hpl Hfar HF
              generalize W.nth ss k = u at c3 hz31 hz32 Hpl Hfar
              have hst : (s ++ t).size = s.size + t.size := ByteArray.size_append
              go_wp2_with fail
              go_loop [10] (fun v => ∃ p : Nat, p ≤ s.size + t.size ∧ v = .int .i64 p ∧ Hid (fstS (fun p => if plc ss i j k p then some p else none) p = none)) (fun v => (s.size + t.size + 1) - (intOf v).toNat)
              case atStart => exact ⟨0, Nat.zero_le _, rfl, rfl⟩
              case round =>
                obtain ⟨p, hp, rfl, hP⟩ := hrel
                by_cases hlp : p + u.size ≤ s.size + t.size
                · have hlp' : (p : Int) + (u.size : Int) ≤ (s.size : Int) + (t.size : Int) := by omega
                  have hpu : ((p : Int) + (u.size : Int)).toNat = p + u.size := by omega
                  have hpl := Hpl.out p hlp
                  rcases own_ways s.size i j k p with ⟨ho, hw⟩ | ⟨ho, hw⟩
                  · rw [ho] at hpl
                    have hN : Hid (fstS (fun p => if plc ss i j k p then some p else none) (p + 1) = none) := (fstS_next hP.out).trans (by rw [hpl]; rfl)
                    clear hpl ho
                    rcases hw with ⟨a1, a2⟩ | ⟨a1, a2, a3⟩ | ⟨a1, a2, a3, a4⟩
                    all_goals
                      go_wp2_with fail
                      go_round
                      case rel => exact ⟨p + 1, by omega, by go_num, hN⟩
                      case measure => simp [intOf]; omega
                  · rw [ho] at hpl
                    cases hm : (((s ++ t).extract p (p + u.size)).toList == u.toList)
                    · rw [hm] at hpl
                      have hN : Hid (fstS (fun p => if plc ss i j k p then some p else none) (p + 1) = none) := (fstS_next hP.out).trans (by rw [hpl]; rfl)
                      clear hpl ho
                      rcases hw with ⟨a1, a2⟩ | ⟨a1, a2, a3⟩ | ⟨a1, a2, a3⟩ | ⟨a1, a2, a3, a4⟩
                      all_goals
                        go_wp2_with fail
                        go_round
                        case rel => exact ⟨p + 1, by omega, by go_num, hN⟩
                        case measure => simp [intOf]; omega
                    · rw [hm] at hpl
                      have hR : R = some [(i : Int), (j : Int), (k : Int), (p : Int)] := by
                        rw [HS.out]
                        refine fstS_at hI.out ?_ hlt
                        rw [HI.out]
                        refine fstS_at hJ.out ?_ hlj
                        rw [HJ.out]
                        refine fstS_at hK.out ?_ hlk
                        rw [HK.out, HF.out, fstS_at hP.out (show (fun p => if plc ss i j k p then some p else none) p = some p by show (if plc ss i j k p then some p else none) = _; rw [hpl]; rfl) (show p < s.size + t.size by omega)]
                        rfl
                      subst hR
                      clear hpl ho
                      rcases hw with ⟨a1, a2⟩ | ⟨a1, a2, a3⟩ | ⟨a1, a2, a3⟩ | ⟨a1, a2, a3, a4⟩
                      all_goals
                        go_wp2_with fail
                        go_ret2
                        exact okInts_of (World.ownsRow_lit w #[.int .i64 i, .int .i64 j, .int .i64 k, .int .i64 p] 4 (Nat.le_refl _) (by unfold maxLen; omega) rfl) rfl ((Below.refl _ _).alloc (Nat.le_refl _) _)
                · have hlp' : ¬ ((p : Int) + (u.size : Int) ≤ (s.size : Int) + (t.size : Int)) := by omega
                  have hN : Hid (fstS (inK ss i j) (k + 1) = none) := by
                    refine (fstS_next hK.out).trans ?_
                    rw [HK.out, HF.out]
                    have := fstS_rest hP.out (s.size + t.size - p) (fun m h1 h2 => by show (if plc ss i j k m then some m else none) = none; rw [Hfar.out m (by omega)]; rfl)
                    rw [show p + (s.size + t.size - p) = s.size + t.size by omega] at this
                    rw [this]
                    rfl
                  go_wp2_with fail
                  go_round
                  case rel => exact ⟨k + 1, by omega, by go_num, hN⟩
                  case measure => simp [intOf]; omega
            · obtain rfl : k = ss.length := by omega
              have hN : Hid (fstS (inJ ss i) (j + 1) = none) := (fstS_next hJ.out).trans (by rw [HJ.out]; exact hK.out)
              go_wp2_with fail
              go_round
              case rel => exact ⟨j + 1, by omega, by go_num, hN⟩
              case measure => simp [intOf]; omega
        · obtain rfl : j = ss.length := by omega
          have hN : Hid (fstS (inI ss) (i + 1) = none) := (fstS_next hI.out).trans (by rw [HI.out]; exact hJ.out)
          go_wp2_with fail
          go_round
          case rel => exact ⟨i + 1, by omega, by go_num, hN⟩
          case measure => simp [intOf]; omega
    · obtain rfl : i = ss.length := by omega
      have hR : R = none := by rw [HS.out]; exact hI.out
      subst hR
      go_wp2_with fail
      go_ret2
      exact okInts_nil _ _ _ (Below.refl _ _)
end Go.Proofs.Ytdmbfmpagcjdpaa
