/-
  WHAT THIS FILE PROVES: the parts of the program's shrinking: words with one letter behind, how many letters a set has, and what the library deletes; asked: rows that lie in memory, lengths that an int holds.
-/
import Derived.Test.YtojcnalgjeojdaaGreatDoorShk
import Derived.Test.YtojcnalgjeojdaaGreatDoorIdx
import Derived.Test.YtojcnalgjeojdaaGreatDoorKrV
import Derived.Test.YtojcnalgjeojdaaGreatDoorShelfB
import Derived.Lib.OwnBridge
import Derived.Lib.IndexAny
import Derived.Sort.OwnSorted
import Derived.Shelf.SlicesE.DeleteFunc
import Derived.Deep.RegionHeld3
namespace Go.Proofs.YtojcnalgjeojdaaGreatDoor
open Go.RowKit Go.Shelf Go.Sort

set_option maxHeartbeats 1600000 in
theorem impl_oneLonger (s : ByteArray) (L : Nat) (w : World) (hs : s.size ≤ 60) (hL : L ≤ 3) :
    Calls Tryz.prog 25 #[.string s, .int .i64 L] w (GivesStrs w (kids s L)) := by
  obtain ⟨i0, hi, hz0, hz1, hz2⟩ := info_parts infoStr
  have HR := Lib.hid (And.intro hi (And.intro hz0 (And.intro hz1 hz2)))
  clear hi hz0 hz1 hz2
  have hs1 : (s.size : Int) ≤ 8388608 := by omega
  go_enter Tryz.func25, Tryz.ntmps25
  go_wp2
  go_loopw [5, 8] (fun v i wr => ∃ (x : Nat) (acc : List ByteArray), acc = kids s x ∧ x ≤ L ∧ i = .int .i64 x ∧ wr.ownsRow w.heap.size 9 1 v acc.length (strs acc) ∧ Below w.heap.size w wr) (fun _ i _ => L - (intOf i).toNat)
  case atStart => exact ⟨0, [], rfl, Nat.zero_le _, rfl, World.ownsRow_nil _ _ _ _, Below.refl _ _⟩
  case round =>
    obtain ⟨x, acc, hacc, hx1, rfl, ho, hB⟩ := hrel
    obtain ⟨Ar, cr, rfl⟩ := own_slice ho
    have hO := Lib.hid (And.intro ho hB)
    clear ho hB
    by_cases hlt : x < L
    · have hlt' : (x : Int) < (L : Int) := by omega
      have hx3 : (x : Int) < 3 := by omega
      have hx3' : x < 3 := by omega
      have he := Lib.hid (show acc ++ [kid s x] = kids s (x + 1) by rw [kids_succ, hacc])
      have hkd : kid s x = s ++ (⟨#[97, 98, 99]⟩ : ByteArray).extract x (x + 1) := rfl
      have hal : acc.length ≤ 3 := by rw [hacc, kids_len]; omega
      have hsz := hO.out.2.size
      have hlt4 := Lib.hid hO.out.1.lt
      clear hacc
      go_wp2_with (at_builtin; refine wpList_append_own _ rfl _ _ 22 rfl w.heap.size 9 i0 (.string ByteArray.empty) 1 16 Tryz.underlying22 HR.out.1 HR.out.2.1 HR.out.2.2.1 HR.out.2.2.2 rfl (by decide) _ _ _ rfl (hO.out.1.alloc _) ⟨wr.heap.size, 0, none⟩ 1 1 [.string (s ++ (⟨#[97, 98, 99]⟩ : ByteArray).extract x (x + 1))] rfl rfl (cell_one_new _ _ _) (one_text _) (by unfold maxLen; omega) (by omega) (by simp; omega) ?_)
      intro v' w6 hown' hgrow _
      have hF6 := Lib.hid (And.intro hown' ((hO.out.2.alloc hsz _).grown hgrow (by simp; omega) (fun g hg => (hlt4.out g hg).1)))
      clear hown' hgrow hlt4
      go_wp2
      go_roundw
      case rel =>
        refine ⟨x + 1, acc ++ [kid s x], he.out, by omega, by go_num, ?_, hF6.out.2⟩
        rw [strs_snoc, List.length_append, hkd]
        exact hF6.out.1
      case measure => simp [intOf]; omega
    · obtain rfl : x = L := by omega
      have HE := Lib.hid hacc
      clear hacc
      go_wp2
      go_ret
      rw [← HE.out]
      exact givesStrs_of hO.out.1 rfl hO.out.2

theorem ltrs_join (ss : List ByteArray) (hq : W.isSet ss = true) : decide (0 ≤ Lib.indexByte (Lib.join (W.bytes ss) []) 99) = !(ss.all fun s => W.krWd 2 s.data.toList) := by
  rw [← Lib.contains_iff_indexByte]
  have h1 : (Lib.join (W.bytes ss) []).contains 99 = !((Lib.join (W.bytes ss) []).all fun c => decide (c ≠ 99)) := by
    rw [Bool.eq_iff_iff, List.contains_iff_mem, Bool.not_eq_true', List.all_eq_false]
    constructor
    · intro h
      exact ⟨99, h, by simp⟩
    · rintro ⟨c, hc, h⟩
      simp only [decide_eq_true_eq, Decidable.not_not] at h
      rw [← h]
      exact hc
  rw [h1, join_all]
  congr 1
  rw [Bool.eq_iff_iff, List.all_eq_true, List.all_eq_true]
  have key : ∀ s ∈ ss, (s.data.toList.all fun c => decide (c ≠ 99)) = W.krWd 2 s.data.toList := fun s hs => by
    unfold W.krWd
    rw [Bool.eq_iff_iff, List.all_eq_true, List.all_eq_true]
    have hl := ltrs_letter3 hq hs
    constructor
    · intro h c hc
      have h2 := hl c hc
      have h3 := h c hc
      simp only [decide_eq_true_eq] at h3 ⊢
      have h4 : c.toNat ≠ 99 := fun e => h3 (UInt8.toNat_inj.1 e)
      omega
    · intro h c hc
      have h3 := h c hc
      simp only [decide_eq_true_eq] at h3 ⊢
      intro e
      rw [e] at h3
      have : (99 : UInt8).toNat = 99 := rfl
      omega
  exact ⟨fun h s hs => (key s hs) ▸ h s hs, fun h s hs => (key s hs).symm ▸ h s hs⟩
set_option maxHeartbeats 1600000 in
theorem impl_lettersIn (A : Option Addr) (ss : List ByteArray) (c : Nat) (w : World) (h : Row w w.heap.size A (strs ss)) (hset : W.isSet ss = true) (hcap : ss.length ≤ c) :
    Calls Tryz.prog 20 #[.slice A ss.length c] w fun e w' => e = .returned (.int .i64 ((ltrs ss : Nat) : Int)) ∧ Below w.heap.size w w' := by
  have hlim := join_size hset
  have hj := fun (u : World) (hb : Below w.heap.size w u) => (join_any A ss c ⟨#[]⟩ u ((h.below hb).more hb.size) hcap (by have := W.isSet_len ss hset; omega) (by show (Lib.join (W.bytes ss) []).length ≤ _; omega)).mono fun e w' hp => (⟨hp.1, hb.trans (hp.2.mono hb.size)⟩ : e = .returned (.string ⟨(Lib.join (W.bytes ss) []).toArray⟩) ∧ Below w.heap.size w w')
  have hc := fun (u : World) (hb : Below w.heap.size w u) => (Tryz.strings_Contains_one ⟨(Lib.join (W.bytes ss) []).toArray⟩ 99 u).mono fun e w' hp => (⟨hp.1, by rw [hp.2]; exact hb⟩ : e = .returned (.bool (decide (0 ≤ Lib.indexByte (Lib.join (W.bytes ss) []) 99))) ∧ Below w.heap.size w w')
  rw [ltrs_join ss hset] at hc
  unfold ltrs
  generalize (ss.all fun s => W.krWd 2 s.data.toList) = r at hc ⊢
  generalize (⟨(Lib.join (W.bytes ss) []).toArray⟩ : ByteArray) = J at hj hc
  replace hj := Lib.hid hj
  replace hc := Lib.hid hc
  have hsl : (⟨#[97, 98, 99]⟩ : ByteArray).extract 2 3 = ⟨#[99]⟩ := by decide
  clear h hset hlim
  go_enter Tryz.func20, Tryz.ntmps20
  go_wp2_with fail
  go_region_held3 (fun w' => Below w.heap.size w w') (first | assumption | exact (Below.refl _ _).drew) (first | (go_at_call 39; refine (hj.out _ (by assumption)).mono ?_; rintro e w2 ⟨rfl, hB2⟩) | (go_at_call 38; refine (hc.out _ (by assumption)).mono ?_; rintro e w3 ⟨rfl, hB3⟩))
  all_goals
    cases r
    · go_wp2
      go_ret
      exact ⟨rfl, hB3⟩
    · go_wp2
      go_ret
      exact ⟨rfl, hB3⟩

theorem kept_box (s : ByteArray) (bx : Nat) (x : ByteArray) (w : World) (hx : w.cell? ⟨bx, 0, none⟩ = some (.string x)) :
    Calls Tryz.prog 28 #[.string s, .pointer (some ⟨bx, 0, none⟩)] w fun e w' => e = .returned (.bool (Lib.hasPrefix s.data.toList x.data.toList)) ∧ w = w' := by
  have hc := fun w => Tryz.strings_HasPrefix s x w
  generalize Lib.hasPrefix s.data.toList x.data.toList = r at hc ⊢
  replace hc := Lib.hid hc
  go_enter Tryz.func28, Tryz.ntmps28
  go_wp2_with (go_at_call 29; refine (hc.out _).mono ?_; rintro e w' ⟨rfl, rfl⟩)
  go_ret
  exact ⟨rfl, rfl⟩
theorem noWord_box (s : ByteArray) (bx : Nat) (A : Option Addr) (ss : List ByteArray) (c : Nat) (w : World) (h : Row w w.heap.size A (strs ss)) (hl : ss.length ≤ 12) (hx : w.cell? ⟨bx, 0, none⟩ = some (.slice A ss.length c)) :
    Calls Tryz.prog 21 #[.string s, .pointer (some ⟨bx, 0, none⟩)] w fun e w' => e = .returned (.bool (!(hasB ss s))) ∧ Below w.heap.size w w' := by
  have hc := contains_any A ss c s w h (by omega)
  generalize hasB ss s = r at hc ⊢
  replace hc := Lib.hid hc
  clear h
  go_enter Tryz.func21, Tryz.ntmps21
  go_wp2_with fail
  refine hc.out.mono ?_
  rintro e w' ⟨rfl, rfl⟩
  go_wp2_with fail
  go_ret
  exact ⟨rfl, Below.refl _ _⟩
theorem raw_keep (ss : List ByteArray) (x : ByteArray) : ((raw ss).filter fun l => !(Lib.hasPrefix l x.data.toList)) = raw (keepW ss x) := by
  unfold raw keepW bgs
  rw [List.filter_map]
  rfl
theorem grownBy_put {w : World} {g q : Nat} (d : Array (List UInt8)) : w.grownBy (putRow encStr (Sort.ahead w q) g 0 d) (some g) := by
  have h := grownBy_sorted (w := w) (g := g) (n := q) (os := #[]) d
  have e : grow (putRow encStr (Sort.ahead w q) g 0 d) #[] = putRow encStr (Sort.ahead w q) g 0 d := by
    simp [grow]
    rfl
  rwa [e] at h
theorem delete_own (g cap base : Nat) (ss : List ByteArray) (bx : Nat) (x : ByteArray) (w : World) (ho : w.ownsRow base 9 1 (.slice (some ⟨g, 0, none⟩) ss.length cap) ss.length (strs ss)) (hl : ss.length ≤ 12) (hne : bx ≠ g) (hx : w.cell? ⟨bx, 0, none⟩ = some (.string x)) :
    Calls Tryz.prog 26 #[.slice (some ⟨g, 0, none⟩) ss.length cap, .func (.func 28) #[] #[.pointer (some ⟨bx, 0, none⟩)]] w
      fun e w' => e = .returned (.slice (some ⟨g, 0, none⟩) (keepW ss x).length cap) ∧ w'.ownsRow base 9 1 (.slice (some ⟨g, 0, none⟩) (keepW ss x).length cap) (keepW ss x).length (strs (keepW ss x)) ∧ w.grownBy w' (some g) := by
  have ho' : w.ownsRow base 9 1 (.slice (some ⟨g, 0, none⟩) ss.length cap) ss.length ((raw ss).map encStr) := by rw [enc_raw]; exact ho
  obtain ⟨g', cap', e0, hb, hg, hcap, hmx, _, hH⟩ := Lib.holds_of_ownsRow ho' (by simp)
  injection e0 with e1 _ e3
  injection e1 with e1
  injection e1 with e1
  subst e1
  subst e3
  have hbx := World.block_lt_of_cell? _ _ hx
  have hD := AnyE.slices_DeleteFunc Tryz.delF encStr (fun _ => rfl) (fun l => Lib.hasPrefix l x.data.toList) 28 #[.pointer (some ⟨bx, 0, none⟩)] (enters_of Tryz.func28 (by kernel_rfl) rfl) [] (fun w => by kernel_rfl) g 0 cap (raw ss).toArray w
    (fun u l hu => (kept_box ⟨l.toArray⟩ bx x u ((hu.cell (p := ⟨bx, 0, none⟩) hbx).trans hx)).mono fun e u' h2 => ⟨by rw [h2.1], 0, h2.2.symm⟩)
    (fun n os dk l _ => (kept_box ⟨l.toArray⟩ bx x _ (by
      show (grow (putRow encStr (Sort.ahead w n) g 0 dk) os).cell? _ = _
      rw [World.cell?_of_block (a := ⟨bx, 0, none⟩) ((grownBy_sorted (w := w) (g := g) (n := n) (os := os) dk).block bx hbx (fun e => hne (by injection e)))]
      exact hx)).mono fun e u' h2 => ⟨by rw [h2.1], 0, h2.2.symm⟩)
    hH (by rw [List.size_toArray, raw_length]; omega) (by rw [List.size_toArray, raw_length]; exact hcap)
  rw [List.size_toArray, raw_length, List.toList_toArray, raw_keep, raw_length] at hD
  refine hD.mono ?_
  rintro e w' ⟨rfl, q, rfl⟩
  have hkl := keepW_len ss x
  refine ⟨rfl, ?_, grownBy_put _⟩
  have h3 := Lib.ownsRow_putRow (q := q) (k := (keepW ss x).length) (ys := raw (keepW ss x) ++ List.replicate (ss.length - (keepW ss x).length) []) ho' (by rw [List.length_append, List.length_replicate, raw_length]; omega) hkl
  rw [List.take_left' (raw_length _), enc_raw] at h3
  exact h3
end Go.Proofs.YtojcnalgjeojdaaGreatDoor
