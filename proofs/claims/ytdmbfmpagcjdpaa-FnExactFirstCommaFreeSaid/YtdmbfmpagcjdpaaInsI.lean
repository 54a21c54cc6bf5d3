/-
  WHAT THIS FILE PROVES: the first word that is within two others where it may not be: the program's functions give the plain one; asked: a slice of short words in memory.
-/
import Derived.Test.YtdmbfmpagcjdpaaIns
import Derived.Test.YtdmbfmpagcjdpaaIsSet
import Derived.Test.YtdmbfmpagcjdpaaMemI
import Derived.Test.YtdmbfmpagcjdpaaCount
import Derived.Deep.QuietTactic
import Derived.BigQuiet
namespace Go.Proofs.Ytdmbfmpagcjdpaa
open Go.RowKit Go.Shelf

def placeOf (o : Option Nat) : Nat := o.getD 0
set_option maxHeartbeats 6400000 in
theorem impl_firstPlace (A : Option Addr) (ss : List ByteArray) (c i j k : Nat) (w : World) (h : Row w w.heap.size A (strs ss)) (hl : ss.length ≤ 100) (hz : ∀ i, i < ss.length → 1 ≤ (W.nth ss i).size ∧ (W.nth ss i).size ≤ 8) (hi : i < ss.length) (hj : j < ss.length) (hk : k < ss.length) :
    Calls Try.prog 26 #[.slice A ss.length c, .int .i64 i, .int .i64 j, .int .i64 k] w fun e w' => e = .returned (.tuple #[.int .i64 ((placeOf (plF ss i j k) : Nat) : Int), .bool (plF ss i j k).isSome]) ∧ ∃ n, w' = w.drewN n := by
  obtain ⟨b, off, rfl, hb, hcc⟩ := h (by rw [strs_length]; omega)
  have c1 := hcc i _ (strs_nth ss i hi)
  have c2 := hcc j _ (strs_nth ss j hj)
  have c3 := hcc k _ (strs_nth ss k hk)
  have hi' : (i : Int) < (ss.length : Int) := by omega
  have hj' : (j : Int) < (ss.length : Int) := by omega
  have hk' : (k : Int) < (ss.length : Int) := by omega
  have hz1 := (hz i hi).2
  have hz2 := (hz j hj).2
  have hz3 := (hz k hk).2
  have Hpl := Lib.hid (show ∀ p, plc ss i j k p = (!(ownP (W.nth ss i).size i j k p) && Lib.hasPrefix ((W.nth ss i ++ W.nth ss j).data.toList.drop p) (W.nth ss k).data.toList) from fun _ => rfl)
  have HF := Lib.hid (show plF ss i j k = fstS (fun p => if plc ss i j k p then some p else none) ((W.nth ss i).size + (W.nth ss j).size) from rfl)
  generalize plF ss i j k = R at HF ⊢
  generalize W.nth ss i = s at c1 hz1 Hpl HF
  generalize W.nth ss j = t at c2 hz2 Hpl HF
  generalize W.nth ss k = u at c3 hz3 Hpl
  have hst : (s ++ t).size = s.size + t.size := ByteArray.size_append
  clear h hcc hz
  go_enter Try.func26, Try.ntmps26
  go_wp2_with fail
  go_quiet (fail)
  generalize s ++ t = st at hst Hpl ⊢
  have hst8 : st.size ≤ 16 := by omega
  have hst8' : (st.size : Int) ≤ 16 := by omega
  replace hst := Lib.hid hst
  go_wp2_with fail
  go_loopw [24] (fun v wr => ∃ p : Nat, p ≤ st.size ∧ v = .int .i64 p ∧ Hid (fstS (fun p => if plc ss i j k p then some p else none) p = none) ∧ ∃ n, wr = w.drewN n) (fun v _ => st.size - (intOf v).toNat)
  case atStart => exact ⟨0, Nat.zero_le _, rfl, rfl, _, rfl⟩
  case round =>
    obtain ⟨p, hp, rfl, hP, n, rfl⟩ := hrel
    by_cases hlp : p < st.size
    · have hlp' : (p : Int) < (st.size : Int) := by omega
      have hlp2 : (p : Int) ≤ (st.size : Int) := by omega
      have hpl := Hpl.out p
      rcases own_ways s.size i j k p with ⟨ho, hw⟩ | ⟨ho, hw⟩
      · rw [ho] at hpl
        have hN : Hid (fstS (fun p => if plc ss i j k p then some p else none) (p + 1) = none) := (fstS_next hP.out).trans (by rw [hpl]; rfl)
        clear hpl ho c2
        rcases hw with ⟨a1, a2⟩ | ⟨a1, a2, a3⟩ | ⟨a1, a2, a3, a4⟩
        all_goals
          go_wp2_with fail
          go_quiet (fail)
          go_wp2_with fail
          go_roundw
          case rel => exact ⟨p + 1, by omega, by go_num, hN, n + nq, by first | rfl | (rw [World.drewN_drewN])⟩
          case measure => simp [intOf]; omega
      · rw [ho] at hpl
        have hq := Try.strings_HasPrefix (st.extract p st.size) u
        rw [extract_end] at hq
        cases hm : Lib.hasPrefix (st.data.toList.drop p) u.data.toList
        · rw [hm] at hpl hq
          have hN : Hid (fstS (fun p => if plc ss i j k p then some p else none) (p + 1) = none) := (fstS_next hP.out).trans (by rw [hpl]; rfl)
          replace hq := Lib.hid hq
          clear hpl ho c2 hm
          rcases hw with ⟨a1, a2⟩ | ⟨a1, a2, a3⟩ | ⟨a1, a2, a3⟩ | ⟨a1, a2, a3, a4⟩
          all_goals
            go_wp2_with fail
            go_quiet ((go_at_call 27; refine (hq.out _).mono ?_; rintro e w' ⟨rfl, rfl⟩; exact ⟨rfl, _, rfl⟩))
            go_wp2_with fail
            go_roundw
            case rel => exact ⟨p + 1, by omega, by go_num, hN, n + nq, by first | rfl | (rw [World.drewN_drewN])⟩
            case measure => simp [intOf]; omega
        · rw [hm] at hpl hq
          have hR : R = some p := by
            rw [HF.out]
            exact fstS_at hP.out (show (fun p => if plc ss i j k p then some p else none) p = some p by show (if plc ss i j k p then some p else none) = _; rw [hpl]; rfl) (by have := hst.out; omega)
          subst hR
          replace hq := Lib.hid hq
          clear hpl ho c2 hm
          rcases hw with ⟨a1, a2⟩ | ⟨a1, a2, a3⟩ | ⟨a1, a2, a3⟩ | ⟨a1, a2, a3, a4⟩
          all_goals
            go_wp2_with fail
            go_quiet ((go_at_call 27; refine (hq.out _).mono ?_; rintro e w' ⟨rfl, rfl⟩; exact ⟨rfl, _, rfl⟩))
            go_wp2_with fail
            go_ret2
            exact ⟨rfl, n + nq, by first | rfl | (rw [World.drewN_drewN])⟩
    · obtain rfl : p = st.size := by omega
      have hR : R = none := by rw [HF.out, ← hst.out]; exact hP.out
      subst hR
      go_wp2_with fail
      go_ret2
      exact ⟨rfl, n, rfl⟩
set_option maxHeartbeats 6400000 in
theorem impl_firstInside (A : Option Addr) (ss : List ByteArray) (c : Nat) (w : World) (h : Row w w.heap.size A (strs ss)) (hl : ss.length ≤ 100) (hz : ∀ i, i < ss.length → 1 ≤ (W.nth ss i).size ∧ (W.nth ss i).size ≤ 8) :
    Calls Try.prog 24 #[.slice A ss.length c] w (OkInts w (gives (inS ss)) (inS ss).isSome) := by
  have HS := Lib.hid (show inS ss = fstS (inI ss) ss.length from rfl)
  have HI := Lib.hid (show ∀ i, inI ss i = fstS (inJ ss i) ss.length from fun _ => rfl)
  have HJ := Lib.hid (show ∀ i j, inJ ss i j = fstS (inK ss i j) ss.length from fun _ _ => rfl)
  have HK := Lib.hid (show ∀ i j k, inK ss i j k = (plF ss i j k).map fun p => [(i : Int), (j : Int), (k : Int), (p : Int)] from fun _ _ _ => rfl)
  have Hfp := Lib.hid (fun (i j k : Nat) (u : World) (hB : Below w.heap.size w u) => impl_firstPlace A ss c i j k u ((h.below hB).more hB.size) hl hz)
  generalize inS ss = R at HS ⊢
  clear hz h
  go_enter Try.func24, Try.ntmps24
  go_wp2
  go_loopw [11] (fun v wr => ∃ i : Nat, i ≤ ss.length ∧ v = .int .i64 i ∧ Hid (fstS (inI ss) i = none) ∧ Hid (Below w.heap.size w wr)) (fun v _ => ss.length - (intOf v).toNat)
  case atStart => exact ⟨0, Nat.zero_le _, rfl, rfl, Below.refl _ _⟩
  case round =>
    obtain ⟨i, hi, rfl, hI, hB1⟩ := hrel
    generalize wr = wi at *
    by_cases hlt : i < ss.length
    · have hlt' : (i : Int) < (ss.length : Int) := by omega
      go_wp2_with fail
      go_loopw [16] (fun v wr => ∃ j : Nat, j ≤ ss.length ∧ v = .int .i64 j ∧ Hid (fstS (inJ ss i) j = none) ∧ Hid (Below w.heap.size w wr)) (fun v _ => ss.length - (intOf v).toNat)
      case atStart => exact ⟨0, Nat.zero_le _, rfl, rfl, hB1⟩
      case round =>
        obtain ⟨j, hj, rfl, hJ, hB2⟩ := hrel
        generalize wr = wj at *
        by_cases hlj : j < ss.length
        · have hlj' : (j : Int) < (ss.length : Int) := by omega
          go_wp2_with fail
          go_loopw [21] (fun v wr => ∃ k : Nat, k ≤ ss.length ∧ v = .int .i64 k ∧ Hid (fstS (inK ss i j) k = none) ∧ Hid (Below w.heap.size w wr)) (fun v _ => ss.length - (intOf v).toNat)
          case atStart => exact ⟨0, Nat.zero_le _, rfl, rfl, hB2⟩
          case round =>
            obtain ⟨k, hk, rfl, hK, hB3⟩ := hrel
            by_cases hlk : k < ss.length
            · have hlk' : (k : Int) < (ss.length : Int) := by omega
              have hfp := Hfp.out i j k wr hB3.out hlt hlj hlk
              have hKk := HK.out i j k
              cases hq : plF ss i j k with
              | none =>
                rw [hq] at hfp hKk
                have hN : Hid (fstS (inK ss i j) (k + 1) = none) := (fstS_next hK.out).trans hKk
                replace hfp := Lib.hid hfp
                clear hq hKk
                go_wp2_with fail
                refine hfp.out.mono ?_
                rintro e w' ⟨rfl, n, rfl⟩
                have hB4 := Lib.hid (below_drewN hB3.out n)
                generalize wr.drewN n = wz at hB4 ⊢
                go_wp2_with fail
                go_roundw
                case rel => exact ⟨k + 1, by omega, by go_num, hN, hB4⟩
                case measure => simp [intOf]; omega
              | some p =>
                rw [hq] at hfp hKk
                have hR : R = some [(i : Int), (j : Int), (k : Int), (p : Int)] := by
                  rw [HS.out]
                  refine fstS_at hI.out ?_ hlt
                  rw [HI.out]
                  refine fstS_at hJ.out ?_ hlj
                  rw [HJ.out]
                  exact fstS_at hK.out hKk hlk
                subst hR
                replace hfp := Lib.hid (show Calls _ _ _ _ fun e w' => e = .returned (.tuple #[.int .i64 (p : Int), .bool true]) ∧ ∃ n, w' = wr.drewN n from hfp)
                clear hq hKk
                go_wp2_with fail
                refine hfp.out.mono ?_
                rintro e w' ⟨rfl, n, rfl⟩
                have hB4 := Lib.hid (below_drewN hB3.out n)
                generalize wr.drewN n = wz at hB4 ⊢
                go_wp2_with fail
                go_ret2
                exact okInts_of (World.ownsRow_lit wz #[.int .i64 i, .int .i64 j, .int .i64 k, .int .i64 p] 4 hB4.out.size (by unfold maxLen; omega) rfl) rfl (hB4.out.alloc hB4.out.size _)
            · obtain rfl : k = ss.length := by omega
              have hN : Hid (fstS (inJ ss i) (j + 1) = none) := (fstS_next hJ.out).trans (by rw [HJ.out]; exact hK.out)
              go_wp2_with fail
              go_roundw
              case rel => exact ⟨j + 1, by omega, by go_num, hN, hB3⟩
              case measure => simp [intOf]; omega
        · obtain rfl : j = ss.length := by omega
          have hN : Hid (fstS (inI ss) (i + 1) = none) := (fstS_next hI.out).trans (by rw [HI.out]; exact hJ.out)
          go_wp2_with fail
          go_roundw
          case rel => exact ⟨i + 1, by omega, by go_num, hN, hB2⟩
          case measure => simp [intOf]; omega
    · obtain rfl : i = ss.length := by omega
      have hR : R = none := by rw [HS.out]; exact hI.out
      subst hR
      go_wp2_with fail
      go_ret2
      exact okInts_nil _ _ _ hB1.out
theorem impl_isCommaFree (A : Option Addr) (ss : List ByteArray) (c : Nat) (w : World) (h : Row w w.heap.size A (strs ss)) (hl : ss.length ≤ 100) (hz : ∀ i, i < ss.length → 1 ≤ (W.nth ss i).size ∧ (W.nth ss i).size ≤ 8) :
    Calls Try.prog 19 #[.slice A ss.length c] w fun e w' => e = .returned (.bool (!(inS ss).isSome)) ∧ Below w.heap.size w w' := by
  have hi := Lib.hid (impl_firstInside A ss c w h hl hz)
  generalize gives (inS ss) = xs at hi ⊢
  generalize (inS ss).isSome = ok at hi ⊢
  clear h hz
  go_enter Try.func19, Try.ntmps19
  go_wp2_with fail
  refine hi.out.mono ?_
  rintro e w1 ⟨A1, c1, rfl, ho, hB⟩
  go_wp2_with fail
  go_ret
  exact ⟨rfl, hB⟩
end Go.Proofs.Ytdmbfmpagcjdpaa
