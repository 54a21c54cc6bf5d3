/-
  WHAT THIS FILE PROVES: the program's function that sorts a copy of a list of texts and drops repeats hands back a slice of the call's own that reads as the texts put one by one into an ordered list; asked: a row that lies in memory, room.
-/
import Derived.Test.YthhiegcdocjfkaaDoorPut
import Derived.Test.YthhiegcdocjfkaaDoorShelf
import Derived.Lib.OwnBridge
import Derived.Sort.OwnSorted
namespace Go.Proofs.YthhiegcdocjfkaaDoor
open Go.RowKit Go.Shelf Go.Sort

/-- texts put one by one into an ordered list -/
def ordB (ss : List ByteArray) : List ByteArray := ss.foldl putB []
theorem raw_fold (ss : List ByteArray) : ∀ acc, raw (ss.foldl putB acc) = W.puts (raw acc) (raw ss) := by
  induction ss with
  | nil => intro acc; rfl
  | cons a r ih =>
    intro acc
    rw [List.foldl_cons, ih, raw_put]
    rfl
theorem raw_ord (ss : List ByteArray) : raw (ordB ss) = W.puts [] (raw ss) := raw_fold ss []
theorem enc_raw (ss : List ByteArray) : (raw ss).map encStr = strs ss := Lib.map_encStr ss
theorem ord_length (ss : List ByteArray) : (ordB ss).length ≤ ss.length := by
  have := W.puts_length (raw ss) []
  rw [← raw_ord, raw_length, raw_length, List.length_nil] at this
  omega

theorem cmpLays (blk off size : Nat) (w : World) : CmpLays1 Tryd.prog 48 #[] encStr W.cw blk off size w := fun _ _ _ _ x y =>
  (impl_compareWords ⟨x.toArray⟩ ⟨y.toArray⟩ _).mono fun _ _ ⟨he, hw⟩ => ⟨he, 0, _, hw.symm.trans (alloc_eq_grow _ _)⟩

set_option maxHeartbeats 3200000 in
theorem impl_inOrder (A : Option Addr) (ss : List ByteArray) (c : Nat) (w : World) (h : Row w w.heap.size A (strs ss)) (hl : ss.length ≤ 262144) :
    Calls Tryd.prog 56 #[.slice A ss.length c] w (GivesStrs w (ordB ss)) := by
  by_cases h0 : ss.length = 0
  · obtain rfl := List.eq_nil_of_length_eq_zero h0
    have hs := fun p cap W => Tryd.slices_SortFunc_none (α := Nat) p cap (.func (.func 48) #[] #[]) W
    have hk := fun a cap W => Tryd.slices_Compact_string_empty a cap W
    rcases A with _ | a
    · have hc := Tryd.slices_Clone_string_nil 0 c w
      clear h h0
      go_enter Tryd.func56, Tryd.ntmps56
      go_wp2_with (first | (go_at_call 64; refine hc.mono ?_; rintro e w' ⟨rfl, rfl⟩) | (go_at_call 65; refine (hs _ _ _).mono ?_; rintro e w' ⟨rfl, rfl⟩) | (go_at_call 66; refine (hk _ _ _).mono ?_; rintro e w' ⟨rfl, rfl⟩))
      go_ret
      exact ⟨none, 0, rfl, World.ownsRow_nil _ _ _ _, Below.refl _ _⟩
    · have hc := Tryd.slices_Clone_string_zero a c w
      clear h h0
      go_enter Tryd.func56, Tryd.ntmps56
      go_wp2_with fail
      refine hc.mono ?_
      rintro e w1 ⟨v, rfl, ho, hn, hB⟩
      obtain ⟨A', c', rfl⟩ := own_slice ho
      have HO := Lib.hid (And.intro ho hB)
      clear ho hB hn
      go_wp2_with (first | (go_at_call 65; refine (hs _ _ _).mono ?_; rintro e w' ⟨rfl, rfl⟩) | (go_at_call 66; refine (hk _ _ _).mono ?_; rintro e w' ⟨rfl, rfl⟩))
      go_ret
      exact ⟨A', c', rfl, HO.out.1, HO.out.2⟩
  · obtain ⟨b, off, rfl, hb, hh⟩ := h (by rw [strs_length]; omega)
    have hc := Tryd.slices_Clone_string b off ss.length c ss w (Nat.le_refl _) (by omega) (fun j hj => hh j _ (by
      rw [strs, List.getElem?_map, List.getElem?_eq_getElem hj, List.getD_eq_getElem?_getD, List.getElem?_eq_getElem hj]
      rfl))
    clear h hh
    go_enter Tryd.func56, Tryd.ntmps56
    go_wp2_with fail
    refine hc.mono ?_
    rintro e w1 ⟨v, rfl, ho, hn, hB⟩
    rw [List.take_length] at ho
    have ho' : w1.ownsRow w.heap.size 9 1 v ss.length ((raw ss).map encStr) := by rw [enc_raw]; exact ho
    rcases ho'.2 with ⟨e0, _⟩ | ⟨g, cap, cur, rfl, hg, hblk, hcap, hmx, hcs, htk⟩
    · exact absurd e0 hn
    · have hgl : g < w1.heap.size := (Array.getElem?_eq_some_iff.1 hblk).1
      rw [Nat.mul_one] at htk
      have hH : Holds encStr w1 g 0 (raw ss).toArray := holds_of_block hblk (by rw [raw_length]; exact htk)
      have hS := Tryd.slices_SortFunc_total encStr (fun _ => rfl) W.cw W.swo_cw 48 #[] g 0 cap (raw ss).toArray w1
        (enters_of Tryd.func48 (by kernel_rfl) rfl) (cmpLays g 0 _ w1) hH hgl (by rw [List.size_toArray, raw_length]; omega) W.total_cw
      rw [List.size_toArray, raw_length, List.toList_toArray] at hS
      have hpl : ((raw ss).mergeSort fun x y => !(ltOf W.cw) y x).length = ss.length := by rw [List.length_mergeSort, raw_length]
      have hcp := W.compact_sorted (raw ss)
      generalize ((raw ss).mergeSort fun x y => !(ltOf W.cw) y x) = ts at hS hpl hcp
      have HB := Lib.hid hB
      have HS := Lib.hid hS
      have HP := Lib.hid hcp
      have HH := Lib.hid (And.intro hblk (And.intro hcs (And.intro hcap hmx)))
      clear ho ho' hn hB hS hcp hblk hcs htk hH hmx
      go_wp2_with fail
      refine HS.out.mono ?_
      rintro e w2 ⟨rfl, n, os, rfl⟩
      have hH2 : Holds encStr (sortWorld encStr w1 g 0 n ts.toArray os) g 0 ts.toArray := holds_of_block (heap_sorted _ HH.out.1) (by
        exact take_putCells cur ts (by rw [hpl, HH.out.2.1]; have := HH.out.2.2.1; omega))
      have ho2 : (sortWorld encStr w1 g 0 n ts.toArray os).ownsRow w.heap.size 9 1 (.slice (some ⟨g, 0, none⟩) ss.length cap) ss.length (ts.map encStr) := by
        have := ownsRow_sorted (n := n) (os := os) (ss := raw ss) (ts := ts) (by rw [hpl, raw_length]) hg HH.out.1 (by rw [raw_length]; exact HH.out.2.2.1) HH.out.2.2.2 HH.out.2.1
        rw [raw_length] at this
        exact this
      have hB2 : Below w.heap.size w (sortWorld encStr w1 g 0 n ts.toArray os) := HB.out.grown (grownBy_sorted _) HB.out.size (fun k hk => by injection hk with hk; omega)
      have hC := Tryd.slices_Compact_string g 0 cap ts _ hH2 (by rw [hpl]; omega) (by rw [hpl]; exact HH.out.2.2.1)
      rw [hpl, HP.out] at hC
      have HF := Lib.hid (And.intro ho2 hB2)
      have HC := Lib.hid hC
      clear hH2 ho2 hB2 hC
      generalize sortWorld encStr w1 g 0 n ts.toArray os = w2 at HF HC
      go_wp2_with fail
      refine HC.out.mono ?_
      rintro e w3 ⟨rfl, q, rfl⟩
      go_wp2
      go_ret
      have hlen : (W.puts [] (raw ss)).length ≤ ss.length := by rw [← raw_ord, raw_length]; exact ord_length ss
      have ho3 := Lib.ownsRow_putRow (q := q) (k := (W.puts [] (raw ss)).length) (ys := W.puts [] (raw ss) ++ List.replicate (ss.length - (W.puts [] (raw ss)).length) []) HF.out.1 (by rw [List.length_append, List.length_replicate]; omega) hlen
      rw [List.take_left, ← raw_ord, enc_raw, raw_length] at ho3
      rw [← raw_ord, raw_length]
      exact ⟨_, _, rfl, ho3, Lib.below_putRow HF.out.2 hg⟩

end Go.Proofs.YthhiegcdocjfkaaDoor
