/-
  WHAT THIS FILE PROVES: the specification's tests of sets and lengths with so many letters, and Kraft's sums: they give what the plain ones say; asked: slices in memory, lengths that an int holds.
-/
import Derived.Test.YtlapmjligdjniaaGreatDoorArith
import Derived.Test.YtlapmjligdjniaaGreatDoorIn
import Derived.OwnWalk
import Derived.Maps.AppendAt
namespace Go.Proofs.YtlapmjligdjniaaGreatDoor
open Go.RowKit Go.Shelf


theorem wd_letter {l : List UInt8} (h : W.isWd l = true) (k : Nat) (hk : k < l.length) : 97 ≤ l[k].toNat ∧ l[k].toNat ≤ 99 := by
  have := List.all_eq_true.1 h l[k] (List.getElem_mem hk)
  unfold W.isL at this
  rwa [decide_eq_true_eq] at this
theorem krWd_take (L : Int) (l : List UInt8) (k : Nat) (h : k < l.length) : W.krWd L (l.take (k + 1)) = (W.krWd L (l.take k) && decide (97 ≤ l[k].toNat ∧ (l[k].toNat : Int) < 97 + L)) := by
  unfold W.krWd
  rw [List.take_succ_eq_append_getElem h, List.all_append]
  simp
theorem krWd_no (L : Int) (l : List UInt8) (k : Nat) (h : W.krWd L (l.take k) = false) : W.krWd L l = false := by
  unfold W.krWd at h ⊢
  rw [List.all_eq_false] at h ⊢
  obtain ⟨x, hx, hp⟩ := h
  exact ⟨x, List.mem_of_mem_take hx, hp⟩
set_option maxHeartbeats 800000 in
theorem spec_krWord (s : ByteArray) (L : Int) (w : World) (hs : s.size ≤ 1000) (hw : W.isWd s.data.toList = true) :
    Calls Tryz.prog 25 #[.string s, .int .i64 L] w fun e w' => e = .returned (.bool (W.krWd L s.data.toList)) ∧ w = w' := by
  have hsl : s.data.toList.length = s.size := (Lib.size_eq s).symm
  have Hlet := Lib.hid (show ∀ k (hk : k < s.size), 97 ≤ s[k].toNat ∧ s[k].toNat ≤ 99 from fun k hk => wd_letter hw k (by rw [hsl]; exact hk))
  have Hstep := Lib.hid (show ∀ k (hk : k < s.size), W.krWd L (s.data.toList.take (k + 1)) = (W.krWd L (s.data.toList.take k) && decide (97 ≤ s[k].toNat ∧ (s[k].toNat : Int) < 97 + L)) from fun k hk => krWd_take L _ k (by rw [hsl]; exact hk))
  have Hno := Lib.hid (fun k e => krWd_no L s.data.toList k e)
  have Hall := Lib.hid (show W.krWd L (s.data.toList.take s.size) = W.krWd L s.data.toList by rw [List.take_of_length_le (by omega)])
  clear hw hsl
  generalize W.krWd L s.data.toList = r at Hno Hall ⊢
  go_enter Tryz.func25, Tryz.ntmps25
  go_wp2
  go_loop [5] (fun i => ∃ k : Nat, k ≤ s.size ∧ i = .int .i64 k ∧ Hid (W.krWd L (s.data.toList.take k) = true)) (fun i => s.size - (intOf i).toNat)
  case atStart => exact ⟨0, Nat.zero_le _, rfl, rfl⟩
  case round =>
    obtain ⟨k, hk, rfl, hT⟩ := hrel
    by_cases hlt : k < s.size
    · have hl := Hlet.out k hlt
      have hst := Lib.hid (Hstep.out k hlt)
      have hb := s[k].toNat_lt
      have hsub : ((s[k].toNat : Int) - 97) % 256 = (s[k].toNat : Int) - 97 := by omega
      by_cases hc : (s[k].toNat : Int) < 97 + L
      · have hT2 : Hid (W.krWd L (s.data.toList.take (k + 1)) = true) := by show _ = _; rw [hst.out, hT.out, decide_eq_true ⟨hl.1, hc⟩]; rfl
        have hc2 : ¬ (L ≤ (s[k].toNat : Int) - 97) := by omega
        clear hst hc
        go_wp2
        go_round
        case rel => exact ⟨k + 1, by omega, by go_num, hT2⟩
        case measure => simp [intOf]; omega
      · have hr := Hno.out (k + 1) (by rw [hst.out, decide_eq_false (fun h => hc h.2)]; simp)
        subst hr
        have hc2 : L ≤ (s[k].toNat : Int) - 97 := by omega
        clear hst hc
        go_wp2
        go_ret
        exact ⟨rfl, rfl⟩
    · obtain rfl : k = s.size := by omega
      have hr := Hall.out
      rw [hT.out] at hr
      subst hr
      go_wp2
      go_ret
      exact ⟨rfl, rfl⟩

/-- the first k words have the first L letters alone -/
def krTo (ss : List ByteArray) (L : Int) (k : Nat) : Bool := (List.range k).all fun i => W.krWd L (W.nth ss i).data.toList
theorem krTo_succ (ss : List ByteArray) (L : Int) (k : Nat) : krTo ss L (k + 1) = (krTo ss L k && W.krWd L (W.nth ss k).data.toList) := by
  unfold krTo
  rw [List.range_succ, List.all_append]
  simp
theorem krTo_no (ss : List ByteArray) (L : Int) (k n : Nat) (h : k ≤ n) (hf : krTo ss L k = false) : krTo ss L n = false := W.all_mono _ k n h hf
theorem krTo_all (ss : List ByteArray) (L : Int) : krTo ss L ss.length = ss.all fun s => W.krWd L s.data.toList := by
  rw [Bool.eq_iff_iff]
  unfold krTo
  rw [List.all_eq_true, List.all_eq_true]
  constructor
  · intro h x hx
    obtain ⟨i, hi, rfl⟩ := List.mem_iff_getElem.1 hx
    have := h i (by simpa using hi)
    rwa [W.nth_lt ss i hi] at this
  · intro h i hi
    have hi : i < ss.length := by simpa using hi
    rw [W.nth_lt ss i hi]
    exact h _ (List.getElem_mem hi)
theorem krSet_no_let {ss : List ByteArray} {L : Int} (h : W.krLet L = false) : W.krSet ss L = false := by unfold W.krSet; rw [h]; rfl
theorem krSet_no_set {ss : List ByteArray} {L : Int} (h : W.isSet ss = false) : W.krSet ss L = false := by unfold W.krSet; rw [h]; simp
theorem krSet_rest {ss : List ByteArray} {L : Int} (h1 : W.krLet L = true) (h2 : W.isSet ss = true) : W.krSet ss L = krTo ss L ss.length := by unfold W.krSet; rw [h1, h2, krTo_all]; rfl


theorem lens_all {ss : List ByteArray} (h : W.isSet ss = true) : W.lenAll (W.lens ss) = true := by
  unfold W.lenAll W.lens
  rw [List.all_map, List.all_eq_true]
  intro x hx
  have hx' : W.short x = true := by
    obtain ⟨i, hi, rfl⟩ := List.mem_iff_getElem.1 hx
    rw [← W.nth_lt ss i hi]
    exact W.isSet_short ss h i hi
  have := W.short_size x hx'
  exact decide_eq_true (show (1 : Int) ≤ (x.size : Int) ∧ (x.size : Int) ≤ 8 by omega)
theorem lens_len (ss : List ByteArray) : (W.lens ss).length = ss.length := by simp [W.lens]




end Go.Proofs.YtlapmjligdjniaaGreatDoor
