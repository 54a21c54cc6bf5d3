/-
  WHAT THIS FILE PROVES: words with one letter behind, and how many letters a set has: the program's functions give what the plain ones say; asked: rows that lie in memory, lengths that an int holds.
-/
import Derived.Test.YtlapmjligdjniaaGreatDoorShk
import Derived.Test.YtlapmjligdjniaaGreatDoorKrV
import Derived.Lib.OwnBridge
import Derived.Lib.IndexAny
import Derived.Deep.RegionHeld3
namespace Go.Proofs.YtlapmjligdjniaaGreatDoor
open Go.RowKit Go.Shelf

set_option maxHeartbeats 1600000 in
theorem impl_oneLonger (s : ByteArray) (L : Nat) (w : World) (hs : s.size ≤ 60) (hL : L ≤ 3) :
    Calls Tryz.prog 32 #[.string s, .int .i64 L] w (GivesStrs w (kids s L)) := by
  obtain ⟨i0, hi, hz0, hz1, hz2⟩ := info_parts infoStr
  have HR := Lib.hid (And.intro hi (And.intro hz0 (And.intro hz1 hz2)))
  clear hi hz0 hz1 hz2
  have hs1 : (s.size : Int) ≤ 8388608 := by omega
  go_enter Tryz.func32, Tryz.ntmps32
  go_wp2
  go_loopw [5, 8] (fun v i wr => ∃ (x : Nat) (acc : List ByteArray), acc = kids s x ∧ x ≤ L ∧ i = .int .i64 x ∧ wr.ownsRow w.heap.size 9 1 v acc.length (strs acc) ∧ Below w.heap.size w wr) (fun _ i _ => L - (intOf i).toNat)
  case atStart => exact ⟨0, [], rfl, Nat.zero_le _, rfl, World.ownsRow_nil _ _ _ _, Below.refl _ _⟩
  case round =>
    obtain ⟨x, acc, hacc, hx1, rfl, ho, hB⟩ := hrel
    obtain ⟨Ar, cr, rfl⟩ := own_slice ho
    have hO := Lib.hid (And.intro ho hB)
    clear ho hB
    by_cases hlt : x < L
    · have hlt' : (x : Int) < (L : Int) := by omega
      have hx3 : (x : Int) < 3 := by omega
      have hx3' : x < 3 := by omega
      have he := Lib.hid (show acc ++ [kid s x] = kids s (x + 1) by rw [kids_succ, hacc])
      have hkd : kid s x = s ++ (⟨#[97, 98, 99]⟩ : ByteArray).extract x (x + 1) := rfl
      have hal : acc.length ≤ 3 := by rw [hacc, kids_len]; omega
      have hsz := hO.out.2.size
      have hlt4 := Lib.hid hO.out.1.lt
      clear hacc
      go_wp2_with (at_builtin; refine wpList_append_own _ rfl _ _ 22 rfl w.heap.size 9 i0 (.string ByteArray.empty) 1 16 Tryz.underlying22 HR.out.1 HR.out.2.1 HR.out.2.2.1 HR.out.2.2.2 rfl (by decide) _ _ _ rfl (hO.out.1.alloc _) ⟨wr.heap.size, 0, none⟩ 1 1 [.string (s ++ (⟨#[97, 98, 99]⟩ : ByteArray).extract x (x + 1))] rfl rfl (cell_one_new _ _ _) (one_text _) (by unfold maxLen; omega) (by omega) (by simp; omega) ?_)
      intro v' w6 hown' hgrow _
      have hF6 := Lib.hid (And.intro hown' ((hO.out.2.alloc hsz _).grown hgrow (by simp; omega) (fun g hg => (hlt4.out g hg).1)))
      clear hown' hgrow hlt4
      go_wp2
      go_roundw
      case rel =>
        refine ⟨x + 1, acc ++ [kid s x], he.out, by omega, by go_num, ?_, hF6.out.2⟩
        rw [strs_snoc, List.length_append, hkd]
        exact hF6.out.1
      case measure => simp [intOf]; omega
    · obtain rfl : x = L := by omega
      have HE := Lib.hid hacc
      clear hacc
      go_wp2
      go_ret
      rw [← HE.out]
      exact givesStrs_of hO.out.1 rfl hO.out.2

theorem ltrs_join (ss : List ByteArray) (hq : W.isSet ss = true) : decide (0 ≤ Lib.indexByte (Lib.join (W.bytes ss) []) 99) = !(ss.all fun s => W.krWd 2 s.data.toList) := by
  rw [← Lib.contains_iff_indexByte]
  have h1 : (Lib.join (W.bytes ss) []).contains 99 = !((Lib.join (W.bytes ss) []).all fun c => decide (c ≠ 99)) := by
    rw [Bool.eq_iff_iff, List.contains_iff_mem, Bool.not_eq_true', List.all_eq_false]
    constructor
    · intro h
      exact ⟨99, h, by simp⟩
    · rintro ⟨c, hc, h⟩
      simp only [decide_eq_true_eq, Decidable.not_not] at h
      rw [← h]
      exact hc
  rw [h1, join_all]
  congr 1
  rw [Bool.eq_iff_iff, List.all_eq_true, List.all_eq_true]
  have key : ∀ s ∈ ss, (s.data.toList.all fun c => decide (c ≠ 99)) = W.krWd 2 s.data.toList := fun s hs => by
    unfold W.krWd
    rw [Bool.eq_iff_iff, List.all_eq_true, List.all_eq_true]
    have hl := ltrs_letter3 hq hs
    constructor
    · intro h c hc
      have h2 := hl c hc
      have h3 := h c hc
      simp only [decide_eq_true_eq] at h3 ⊢
      have h4 : c.toNat ≠ 99 := fun e => h3 (UInt8.toNat_inj.1 e)
      omega
    · intro h c hc
      have h3 := h c hc
      simp only [decide_eq_true_eq] at h3 ⊢
      intro e
      rw [e] at h3
      have : (99 : UInt8).toNat = 99 := rfl
      omega
  exact ⟨fun h s hs => (key s hs) ▸ h s hs, fun h s hs => (key s hs).symm ▸ h s hs⟩
set_option maxHeartbeats 1600000 in
theorem impl_lettersIn (A : Option Addr) (ss : List ByteArray) (c : Nat) (w : World) (h : Row w w.heap.size A (strs ss)) (hset : W.isSet ss = true) (hcap : ss.length ≤ c) :
    Calls Tryz.prog 29 #[.slice A ss.length c] w fun e w' => e = .returned (.int .i64 ((ltrs ss : Nat) : Int)) ∧ Below w.heap.size w w' := by
  have hlim := join_size hset
  have hj := fun (u : World) (hb : Below w.heap.size w u) => (join_any A ss c ⟨#[]⟩ u ((h.below hb).more hb.size) hcap (by have := W.isSet_len ss hset; omega) (by show (Lib.join (W.bytes ss) []).length ≤ _; omega)).mono fun e w' hp => (⟨hp.1, hb.trans (hp.2.mono hb.size)⟩ : e = .returned (.string ⟨(Lib.join (W.bytes ss) []).toArray⟩) ∧ Below w.heap.size w w')
  have hc := fun (u : World) (hb : Below w.heap.size w u) => (Tryz.strings_Contains_one ⟨(Lib.join (W.bytes ss) []).toArray⟩ 99 u).mono fun e w' hp => (⟨hp.1, by rw [hp.2]; exact hb⟩ : e = .returned (.bool (decide (0 ≤ Lib.indexByte (Lib.join (W.bytes ss) []) 99))) ∧ Below w.heap.size w w')
  rw [ltrs_join ss hset] at hc
  unfold ltrs
  generalize (ss.all fun s => W.krWd 2 s.data.toList) = r at hc ⊢
  generalize (⟨(Lib.join (W.bytes ss) []).toArray⟩ : ByteArray) = J at hj hc
  replace hj := Lib.hid hj
  replace hc := Lib.hid hc
  have hsl : (⟨#[97, 98, 99]⟩ : ByteArray).extract 2 3 = ⟨#[99]⟩ := by decide
  clear h hset hlim
  go_enter Tryz.func29, Tryz.ntmps29
  go_wp2_with fail
  go_region_held3 (fun w' => Below w.heap.size w w') (first | assumption | exact (Below.refl _ _).drew) (first | (go_at_call 46; refine (hj.out _ (by assumption)).mono ?_; rintro e w2 ⟨rfl, hB2⟩) | (go_at_call 45; refine (hc.out _ (by assumption)).mono ?_; rintro e w3 ⟨rfl, hB3⟩))
  all_goals
    cases r
    · go_wp2
      go_ret
      exact ⟨rfl, hB3⟩
    · go_wp2
      go_ret
      exact ⟨rfl, hB3⟩

end Go.Proofs.YtlapmjligdjniaaGreatDoor
