/-
  WHAT THIS FILE PROVES: a slice of texts that came in reads as a list of texts, its cells in memory; asked: that it can be read.
-/
import Derived.Test.YthkkneboblhmlaaMemS
import Derived.WalkKit
import Derived.ProofKit
import Derived.OpenShut
import Derived.SliceStrings
namespace Go.Proofs.Ythkkneboblhmlaa
open Go.ChangeShapes Go.WideShapes Go.ChangeAt Go.RowKit

theorem addr_add (b off : Nat) (i : Nat) : (⟨b, off, none⟩ : Addr).add i = ⟨b, off + i, none⟩ := by
  unfold Addr.add
  split
  · rename_i h; subst h; rfl
  · simp_all

theorem open_strs_row {H : Type} {enc : TypeId × Value → H} {W : World} {base fuel : Nat} {a0 : Option Addr} {len cap : Nat} {cs : List Value} {x : DataW H × List MemPlace} (hcs0 : cs = [.slice a0 len cap])
    (hf : DataW.trod enc Try.prog W base (fun _ => true) true fuel 54 cs = some x) :
    ∃ ss : List ByteArray, len = ss.length ∧ Row W W.heap.size a0 (strs ss) ∧ ss.length ≤ maxLen ∧ ∀ s ∈ ss, s.size ≤ maxLen := by
  subst hcs0
  rcases open_strings Try.underlying54 Try.underlying9 (by kernel_rfl) hf with ⟨hcs, _⟩ | ⟨a, l, c, ss, hcs, _, hl, hm, hz, _, hcell, hwz⟩
  · simp at hcs
    obtain ⟨rfl, rfl, rfl⟩ := hcs
    exact ⟨[], rfl, fun h => by simp [strs] at h, Nat.zero_le _, fun s hs => by simp at hs⟩
  · simp at hcs
    obtain ⟨rfl, rfl, rfl⟩ := hcs
    have hlen : ss.length = cap := by simpa using hz
    have htl : (ss.take len).length = len := by rw [List.length_take]; omega
    refine ⟨ss.take len, htl.symm, fun hpos => ?_, by rw [htl]; omega, fun s hs => hwz s (List.mem_of_mem_take hs)⟩
    rw [strs_length, htl] at hpos
    obtain ⟨b, off, spot⟩ := a
    have h0 := hcell 0 (by omega)
    have hspot : spot = none := by simpa [Addr.add] using World.cell?_spot h0
    subst hspot
    refine ⟨b, off, rfl, by have := World.block_lt_of_cell? _ _ h0; simpa [addr_add] using this, fun i v hv => ?_⟩
    have hi : i < len := by
      have := (List.getElem?_eq_some_iff.1 hv).1
      rwa [strs_length, htl] at this
    have hc := hcell i (by omega)
    rw [addr_add] at hc
    rw [hc]
    unfold strs at hv
    rw [List.getElem?_map, List.getElem?_take, if_pos hi, List.getElem?_eq_getElem (by omega)] at hv
    rw [← hv]
    simp [show i < ss.length by omega]

end Go.Proofs.Ythkkneboblhmlaa
