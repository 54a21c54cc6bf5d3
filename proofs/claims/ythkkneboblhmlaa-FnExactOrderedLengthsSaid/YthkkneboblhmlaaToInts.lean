/-
  WHAT THIS FILE PROVES: the laws' copy of a slice of numbers is a slice of the call's own that reads the same; asked: a row that lies in memory, room.
-/
import Derived.Test.YthkkneboblhmlaaMemI
import Derived.Test.YthkkneboblhmlaaMemS
namespace Go.Proofs.Ythkkneboblhmlaa
open Go.RowKit

theorem ints_set' (xs : List Int) (j : Nat) (x : Int) : (ints xs).set j (.int .i64 x) = ints (xs.set j x) := by
  unfold ints
  rw [List.map_set]
set_option maxHeartbeats 800000 in
theorem toIntS_any (A : Option Addr) (zs : List Int) (c : Nat) (w : World) (h : Row w w.heap.size A (ints zs)) (hl : zs.length ≤ 1048576) :
    Calls Try.prog 7 #[.slice A zs.length c] w (GivesInts w zs) := by
  have hmk := fun w => run_make_row' (P := Try.prog) 22 3 (.int .i64 0) 8 Try.underlying22 infoInt rfl .i64 .i64 zs.length (by omega) (by omega) w
  have hown0 : (w.alloc (.cells (madeCells #[.int .i64 0] zs.length) 3)).ownsRow w.heap.size 3 1 (.slice (some ⟨w.heap.size, 0, none⟩) zs.length zs.length) zs.length (ints (List.replicate zs.length 0)) := by
    have := World.ownsRow_lit (base := w.heap.size) (e := 3) (size := 1) w (madeCells #[.int .i64 0] zs.length) zs.length (Nat.le_refl _) (by unfold maxLen; omega) (by rw [size_madeCells]; omega)
    rw [toList_madeCells_one] at this
    simpa [ints] using this
  replace hown0 := Lib.hid hown0
  have hl' : (List.replicate zs.length (0 : Int)).length = zs.length := List.length_replicate
  replace hl' := Lib.hid hl'
  replace h := Lib.hid h
  go_enter Try.func7, Try.ntmps7
  go_wp2
  go_loopw [4] (fun i wr => ∃ k : Nat, k ≤ zs.length ∧ i = .int .i64 k ∧
      wr.ownsRow w.heap.size 3 1 (.slice (some ⟨w.heap.size, 0, none⟩) zs.length zs.length) zs.length (ints (mix zs (List.replicate zs.length 0) k)) ∧ Below w.heap.size w wr) (fun i _ => zs.length - (intOf i).toNat)
  case atStart => exact ⟨0, Nat.zero_le _, rfl, by rw [mix_zero]; exact hown0.out, (Below.refl _ _).alloc (Nat.le_refl _) _⟩
  case round =>
    obtain ⟨k, hk, rfl, ho, hB⟩ := hrel
    by_cases hlt : k < zs.length
    · have hlt' : (k : Int) < (zs.length : Int) := by omega
      obtain ⟨b, off, rfl, hb, hc⟩ := h.out (by rw [ints_length]; omega)
      have c0 := (hB.cell (p := ⟨b, off + k, none⟩) hb).trans (hc k _ (ints_at zs k hlt))
      clear hc
      have c1 := ho.cellAt k (by omega)
      rw [ints_at _ k (by rw [mix_length _ _ _ hl'.out.symm, hl'.out]; exact hlt)] at c1
      generalize (mix zs (List.replicate zs.length 0) k)[k]'(by rw [mix_length _ _ _ hl'.out.symm, hl'.out]; exact hlt) = old at c1
      have hf := ho.frozenAt k
      have hst := ho.stored k (.int .i64 zs[k])
      rw [ints_set', mix_set zs _ k hl'.out.symm hlt] at hst
      replace hst := Lib.hid hst
      have hO := Lib.hid hB
      clear ho hB
      go_wp2
      go_roundw
      case rel => exact ⟨k + 1, by omega, by go_num, hst.out.1, hO.out.grown hst.out.2 hO.out.size (fun g hg => by injection hg with hg; omega)⟩
      case measure => simp [intOf]; omega
    · obtain rfl : k = zs.length := by omega
      have hO := Lib.hid (And.intro ho hB)
      clear ho hB
      go_wp2
      go_ret
      refine ⟨_, _, rfl, ?_, hO.out.2⟩
      have := hO.out.1
      rwa [mix_all _ _ hl'.out.symm] at this

end Go.Proofs.Ythkkneboblhmlaa
