/-
  WHAT THIS FILE PROVES: the inner words of a set: the program's functions give the plain ones; asked: a slice of texts in memory, lengths that an int holds.
-/
import Derived.Test.YthhiegcdocjfkaaDoorInn
import Derived.Test.YthhiegcdocjfkaaDoorMemS
import Derived.BigQuiet
namespace Go.Proofs.YthhiegcdocjfkaaDoor
open Go.RowKit Go.Shelf

set_option maxHeartbeats 3200000 in
theorem impl_innerWords (A : Option Addr) (ss : List ByteArray) (c : Nat) (w : World) (h : Row w w.heap.size A (strs ss)) (hset : W.isSet ss = true) :
    Calls Tryd.prog 38 #[.slice A ss.length c] w (GivesStrs w (inB ss)) := by
  have h12 := W.isSet_len ss hset
  have Hsz := Lib.hid (fun i => nth_size8 (short_le hset) i)
  have Hlen := Lib.hid (fun i => begsTo_len ss (short_le hset) i)
  obtain ⟨i0, hi, hz0, hz1, hz2⟩ := info_parts infoStr
  have HR := Lib.hid (And.intro hi (And.intro hz0 (And.intro hz1 hz2)))
  have Hrow := Lib.hid h
  clear h hset hi hz0 hz1 hz2
  go_enter Tryd.func38, Tryd.ntmps38
  go_wp2
  go_loopw [3, 9] (fun v i wr => ∃ k : Nat, k ≤ ss.length ∧ i = .int .i64 k ∧ wr.ownsRow w.heap.size 9 1 v (begsTo ss k).length (strs (begsTo ss k)) ∧ Below w.heap.size w wr)
    (fun _ i _ => ss.length - (intOf i).toNat)
  case atStart => exact ⟨0, Nat.zero_le _, rfl, World.ownsRow_nil _ _ _ _, Below.refl _ _⟩
  case round =>
    obtain ⟨k, hk1, rfl, ho, hB⟩ := hrel
    obtain ⟨Ar, cr, rfl⟩ := own_slice ho
    have hO := Lib.hid (And.intro ho hB)
    clear ho hB
    by_cases hlt : k < ss.length
    · obtain ⟨b, off, rfl, hb, hcc⟩ := Hrow.out (by rw [strs_length]; omega)
      have hlt' : (k : Int) < (ss.length : Int) := by omega
      have c1 := (hO.out.2.cell (p := ⟨b, off + k, none⟩) hb).trans (hcc k _ (strs_nth ss k hlt))
      clear hcc
      have hs := Lib.hid (begsTo_succ ss k)
      have hsz8 := Hsz.out k
      have hIl := Hlen.out k
      generalize W.nth ss k = s at c1 hs hsz8
      generalize begsTo ss k = R at hO hs hIl ⊢
      go_wp2_with fail
      go_loopw [3, 15] (fun v i wr => ∃ (j : Nat) (acc : List ByteArray), acc = R ++ begs s j ∧ j ≤ s.size ∧ i = .int .i64 j ∧ wr.ownsRow w.heap.size 9 1 v acc.length (strs acc) ∧ Below w.heap.size w wr)
        (fun _ i _ => s.size - (intOf i).toNat)
      case atStart => exact ⟨0, R, by rw [show begs s 0 = [] from rfl, List.append_nil], Nat.zero_le _, rfl, hO.out.1, hO.out.2⟩
      case round =>
        clear hO
        obtain ⟨j, acc, hacc, hj1, rfl, ho, hB⟩ := hrel
        obtain ⟨Ar, cr, rfl⟩ := own_slice ho
        have hO := Lib.hid (And.intro ho hB)
        clear ho hB
        by_cases hlj : j < s.size
        · have hlj' : (j : Int) < (s.size : Int) := by omega
          have he := Lib.hid (show acc ++ [s.extract 0 j] = R ++ begs s (j + 1) by rw [begs_succ, ← List.append_assoc, hacc])
          have hal : acc.length ≤ 8 * k + j := by rw [hacc, List.length_append, begs_len]; omega
          have hsz := hO.out.2.size
          have hlt4 := Lib.hid hO.out.1.lt
          clear hacc
          go_wp2_with (at_builtin; refine wpList_append_own _ rfl _ _ 22 rfl w.heap.size 9 i0 (.string ByteArray.empty) 1 16 Tryd.underlying22 HR.out.1 HR.out.2.1 HR.out.2.2.1 HR.out.2.2.2 rfl (by decide) _ _ _ rfl (hO.out.1.alloc _) ⟨wr.heap.size, 0, none⟩ 1 1 [.string (s.extract 0 j)] rfl rfl (cell_one_new _ _ _) (one_text _) (by unfold maxLen; omega) (by omega) (by simp; omega) ?_)
          intro v' w6 hown' hgrow _
          have hF6 := Lib.hid (And.intro hown' ((hO.out.2.alloc hsz _).grown hgrow (by simp; omega) (fun g hg => (hlt4.out g hg).1)))
          clear hown' hgrow hlt4
          go_wp2
          go_roundw
          case rel =>
            refine ⟨j + 1, acc ++ [s.extract 0 j], he.out, by omega, by go_num, ?_, hF6.out.2⟩
            rw [strs_snoc, List.length_append]
            exact hF6.out.1
          case measure => simp [intOf]; omega
        · obtain rfl : j = s.size := by omega
          go_wp2
          go_roundw
          case rel => exact ⟨k + 1, by omega, by go_num, by rw [hs.out, ← hacc]; exact hO.out.1, hO.out.2⟩
          case measure => simp [intOf]; omega
    · obtain rfl : k = ss.length := by omega
      have hIl := Hlen.out ss.length
      have Hio := Lib.hid (impl_inOrder Ar (begsTo ss ss.length) cr wr (Row.of_own hO.out.1) (by omega))
      have HB := Lib.hid hO.out.2
      clear hO
      go_wp2_with (go_at_call 56; refine Hio.out.mono ?_; rintro e w2 ⟨A2, c2, rfl, ho2, hB2⟩)
      go_ret
      exact givesStrs_of (own_base ho2 HB.out.size) rfl (HB.out.trans (hB2.mono HB.out.size))

end Go.Proofs.YthhiegcdocjfkaaDoor
