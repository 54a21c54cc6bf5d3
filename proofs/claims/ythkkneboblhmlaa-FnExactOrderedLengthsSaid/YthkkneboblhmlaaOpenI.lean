/-
  WHAT THIS FILE PROVES: a slice of numbers that came in reads as a list of numbers, its cells in memory; asked: that it can be read.
-/
import Derived.Test.YthkkneboblhmlaaMemI
import Derived.Test.YthkkneboblhmlaaOpen
import Derived.ChangeSlices
namespace Go.Proofs.Ythkkneboblhmlaa
open Go.ChangeShapes Go.WideShapes Go.ChangeAt Go.RowKit

theorem open_ints_row {H : Type} {enc : TypeId × Value → H} {W : World} {base fuel : Nat} {a0 : Option Addr} {len cap : Nat} {cs : List Value} {x : DataW H × List MemPlace} (hcs0 : cs = [.slice a0 len cap])
    (hf : DataW.trod enc Try.prog W base (fun _ => true) true fuel 22 cs = some x) :
    ∃ zs : List Int, len = zs.length ∧ Row W W.heap.size a0 (ints zs) ∧ zs.length ≤ maxLen := by
  subst hcs0
  rcases open_ints Try.underlying22 Try.underlying3 (by kernel_rfl) hf with ⟨hcs, _⟩ | ⟨a, l, c, ss, hcs, _, hl, hm, hz, _, hcell, hwz⟩
  · simp at hcs
    obtain ⟨rfl, rfl, rfl⟩ := hcs
    exact ⟨[], rfl, fun h => by simp [ints] at h, Nat.zero_le _⟩
  · simp at hcs
    obtain ⟨rfl, rfl, rfl⟩ := hcs
    have hlen : ss.length = cap := by simpa using hz
    have htl : (ss.take len).length = len := by rw [List.length_take]; omega
    refine ⟨ss.take len, htl.symm, fun hpos => ?_, by rw [htl]; omega⟩
    rw [ints_length, htl] at hpos
    obtain ⟨b, off, spot⟩ := a
    have h0 := hcell 0 (by omega)
    have hspot : spot = none := by simpa [Addr.add] using World.cell?_spot h0
    subst hspot
    refine ⟨b, off, rfl, by have := World.block_lt_of_cell? _ _ h0; simpa [addr_add] using this, fun i v hv => ?_⟩
    have hi : i < len := by
      have := (List.getElem?_eq_some_iff.1 hv).1
      rwa [ints_length, htl] at this
    have hc := hcell i (by omega)
    rw [addr_add] at hc
    rw [hc]
    unfold ints at hv
    rw [List.getElem?_map, List.getElem?_take, if_pos hi, List.getElem?_eq_getElem (by omega)] at hv
    rw [← hv]
    simp [show i < ss.length by omega]

end Go.Proofs.Ythkkneboblhmlaa
