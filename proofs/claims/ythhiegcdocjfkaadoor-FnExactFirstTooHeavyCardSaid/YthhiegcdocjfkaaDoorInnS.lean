/-
  WHAT THIS FILE PROVES: the inner words of a set: the specification's functions give the plain ones; asked: a slice of texts in memory, lengths that an int holds.
-/
import Derived.Test.YthhiegcdocjfkaaDoorInn
import Derived.Test.YthhiegcdocjfkaaDoorMemS
import Derived.BigQuiet
namespace Go.Proofs.YthhiegcdocjfkaaDoor
open Go.RowKit Go.Shelf

set_option maxHeartbeats 3200000 in
theorem spec_pfInner (A : Option Addr) (ss : List ByteArray) (c : Nat) (w : World) (h : Row w w.heap.size A (strs ss)) (hset : W.isSet ss = true) :
    Calls Tryd.prog 37 #[.slice A ss.length c] w (GivesStrs w (inB ss)) := by
  have h12 := W.isSet_len ss hset
  have Hsz := Lib.hid (fun i => nth_size8 (short_le hset) i)
  have Hlen := Lib.hid (fun i => begsTo_len ss (short_le hset) i)
  have Hrow := Lib.hid h
  clear h hset
  go_enter Tryd.func37, Tryd.ntmps37
  go_wp2
  go_loopw [3, 9] (fun v i wr => ∃ k : Nat, k ≤ ss.length ∧ i = .int .i64 k ∧ wr.ownsRow w.heap.size 9 1 v (ordB (begsTo ss k)).length (strs (ordB (begsTo ss k))) ∧ Below w.heap.size w wr)
    (fun _ i _ => ss.length - (intOf i).toNat)
  case atStart => exact ⟨0, Nat.zero_le _, rfl, World.ownsRow_nil _ _ _ _, Below.refl _ _⟩
  case round =>
    obtain ⟨k, hk1, rfl, ho, hB⟩ := hrel
    obtain ⟨Ar, cr, rfl⟩ := own_slice ho
    have hO := Lib.hid (And.intro ho hB)
    clear ho hB
    by_cases hlt : k < ss.length
    · obtain ⟨b, off, rfl, hb, hcc⟩ := Hrow.out (by rw [strs_length]; omega)
      have hlt' : (k : Int) < (ss.length : Int) := by omega
      have c1 := (hO.out.2.cell (p := ⟨b, off + k, none⟩) hb).trans (hcc k _ (strs_nth ss k hlt))
      clear hcc
      have hs := Lib.hid (begsTo_succ ss k)
      have hsz8 := Hsz.out k
      have hIl := Hlen.out k
      generalize W.nth ss k = s at c1 hs hsz8
      generalize begsTo ss k = R at hO hs hIl ⊢
      go_wp2_with fail
      go_loopw [3, 6] (fun v i wr => ∃ j : Nat, j ≤ s.size ∧ i = .int .i64 j ∧ wr.ownsRow w.heap.size 9 1 v (ordB (R ++ begs s j)).length (strs (ordB (R ++ begs s j))) ∧ Below w.heap.size w wr)
        (fun _ i _ => s.size - (intOf i).toNat)
      case atStart => exact ⟨0, Nat.zero_le _, rfl, by rw [show begs s 0 = [] from rfl, List.append_nil]; exact hO.out.1, hO.out.2⟩
      case round =>
        clear hO
        obtain ⟨j, hj1, rfl, ho, hB⟩ := hrel
        obtain ⟨Ar, cr, rfl⟩ := own_slice ho
        have hO := Lib.hid (And.intro ho hB)
        clear ho hB
        by_cases hlj : j < s.size
        · have hlj' : (j : Int) < (s.size : Int) := by omega
          have he := Lib.hid (show ordB (R ++ begs s (j + 1)) = putB (ordB (R ++ begs s j)) (s.extract 0 j) by rw [begs_succ, ← List.append_assoc, ord_snoc])
          have hbl := begs_len s j
          have hol := ord_length (R ++ begs s j)
          rw [List.length_append] at hol
          generalize R ++ begs s j = acc at hO he hol ⊢
          generalize ordB acc = ac2 at hO he hol ⊢
          have hput := Lib.hid (spec_wdPut w.heap.size Ar ac2 cr (s.extract 0 j) wr hO.out.1 hO.out.2.size (by omega))
          go_wp2_with (go_at_call 55; refine hput.out.mono ?_; rintro e w2 ⟨A2, c2, rfl, ho2, hB2⟩)
          have hO2 := Lib.hid (And.intro ho2 hB2)
          clear ho2 hB2
          go_roundw
          case rel => exact ⟨j + 1, by omega, by go_num, by rw [he.out]; exact hO2.out.1, hO.out.2.trans (hO2.out.2.mono hO.out.2.size)⟩
          case measure => simp [intOf]; omega
        · obtain rfl : j = s.size := by omega
          go_wp2
          go_roundw
          case rel => exact ⟨k + 1, by omega, by go_num, by rw [hs.out]; exact hO.out.1, hO.out.2⟩
          case measure => simp [intOf]; omega
    · obtain rfl : k = ss.length := by omega
      go_wp2
      go_ret
      exact givesStrs_of hO.out.1 rfl hO.out.2

end Go.Proofs.YthhiegcdocjfkaaDoor
