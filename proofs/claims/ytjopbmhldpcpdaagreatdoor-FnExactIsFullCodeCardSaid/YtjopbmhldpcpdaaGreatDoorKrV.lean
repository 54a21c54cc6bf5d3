/-
  WHAT THIS FILE PROVES: whether a source of lengths, given ones or those of words, is valid with so many letters: the program's function tells it; asked: slices in memory, lengths that an int holds, no more than capacities.
-/
import Derived.Test.YtjopbmhldpcpdaaGreatDoorKrI
import Derived.Test.YtjopbmhldpcpdaaGreatDoorKrS
import Derived.Test.YtjopbmhldpcpdaaGreatDoorKrT
import Derived.Test.YtjopbmhldpcpdaaGreatDoorText
import Derived.BigRegion
import Derived.Deep.RegionWith
import Derived.Deep.RegionHeld3
namespace Go.Proofs.YtjopbmhldpcpdaaGreatDoor
open Go.RowKit Go.Shelf

theorem join_flat (xs : List (List UInt8)) : Lib.join xs [] = xs.flatten := by
  cases xs with
  | nil => rfl
  | cons x r =>
    rw [Lib.join_cons]
    unfold Lib.joinTail
    rw [List.flatten_cons]
    congr 2
    simp
theorem join_all (ss : List ByteArray) (p : UInt8 → Bool) : (Lib.join (W.bytes ss) []).all p = ss.all fun s => s.data.toList.all p := by
  rw [join_flat, List.all_flatten]
  unfold W.bytes
  rw [List.all_map]
  rfl
theorem join_size {ss : List ByteArray} (h : W.isSet ss = true) : (Lib.join (W.bytes ss) []).length ≤ 96 := by
  have h12 := W.isSet_len ss h
  have key : ∀ l : List ByteArray, (∀ x ∈ l, x.size ≤ 8) → ((W.bytes l).flatten).length ≤ l.length * 8 := by
    intro l
    induction l with
    | nil => intro _; simp [W.bytes]
    | cons a r ih =>
      intro hx
      have h1 := ih (fun x hx' => hx x (List.mem_cons_of_mem _ hx'))
      have h2 := hx a (List.mem_cons_self ..)
      rw [Lib.size_eq] at h2
      show ((a.data.toList) ++ (W.bytes r).flatten).length ≤ (r.length + 1) * 8
      rw [List.length_append]
      omega
  rw [join_flat]
  have := key ss (fun x hx => by
    obtain ⟨i, hi, rfl⟩ := List.mem_iff_getElem.1 hx
    rw [← W.nth_lt ss i hi]
    exact (W.short_size _ (W.isSet_short ss h i hi)).2)
  omega
theorem trim_any (l cs : List UInt8) : (Lib.trimS l cs).isEmpty = l.all (cs.contains ·) := by
  unfold Lib.trimS Lib.trimLeftS Lib.trimRightS
  cases h : l.all (cs.contains ·) with
  | true =>
    rw [W.dropWhile_all _ l.reverse (by rw [List.all_reverse]; exact h)]
    rfl
  | false =>
    have h1 : (l.reverse.dropWhile (cs.contains ·)).reverse.all (cs.contains ·) = false := by
      rw [List.all_reverse]
      exact W.dropWhile_any _ _ (by rw [List.all_reverse]; exact h)
    have := W.dropWhile_ne _ _ h1
    cases hd : (l.reverse.dropWhile (cs.contains ·)).reverse.dropWhile (cs.contains ·) with
    | nil => exact absurd hd this
    | cons a r => rfl
theorem two_letters (c : UInt8) : ([97, 98] : List UInt8).contains c = decide (97 ≤ c.toNat ∧ (c.toNat : Int) < 97 + 2) := by
  have h : ∀ n : Nat, n < 256 → (([97, 98] : List UInt8).contains (UInt8.ofNat n)) = decide (97 ≤ (UInt8.ofNat n).toNat ∧ ((UInt8.ofNat n).toNat : Int) < 97 + 2) := by decide +kernel
  have := h c.toNat c.toNat_lt
  rwa [UInt8.ofNat_toNat] at this
theorem three_letters (c : UInt8) : ([97, 98, 99] : List UInt8).contains c = decide (97 ≤ c.toNat ∧ (c.toNat : Int) < 97 + 3) := by
  have h : ∀ n : Nat, n < 256 → (([97, 98, 99] : List UInt8).contains (UInt8.ofNat n)) = decide (97 ≤ (UInt8.ofNat n).toNat ∧ ((UInt8.ofNat n).toNat : Int) < 97 + 3) := by decide +kernel
  have := h c.toNat c.toNat_lt
  rwa [UInt8.ofNat_toNat] at this
/-- the first letters -/
def abcTo (m : Nat) : ByteArray := (⟨#[97, 98, 99]⟩ : ByteArray).extract 0 m
theorem trim_letters (m : Nat) (h2 : 2 ≤ m) (h3 : m ≤ 3) (l : List UInt8) : (Lib.trimS l (abcTo m).data.toList).isEmpty = W.krWd m l := by
  rw [trim_any]
  unfold W.krWd
  have hm : m = 2 ∨ m = 3 := by omega
  rcases hm with rfl | rfl
  · exact congrArg l.all (funext two_letters)
  · exact congrArg l.all (funext three_letters)
theorem trim_call (s : ByteArray) (m : Nat) (w : World) (h2 : 2 ≤ m) (h3 : m ≤ 3) (hs : s.size ≤ 9223372036854775807) :
    Calls Tryz.prog 44 #[.string s, .string (abcTo m)] w fun e w' => e = .returned (.string ⟨(Lib.trimS s.data.toList (abcTo m).data.toList).toArray⟩) ∧ Below w.heap.size w w' := by
  have hm : m = 2 ∨ m = 3 := by omega
  rcases hm with rfl | rfl
  · exact Any.strings_Trim_laid Tryz.lays160 (by kernel_rfl) s ⟨#[97, 98]⟩ w hs (by decide) (ascii_of_all (by decide))
  · exact Any.strings_Trim_laid Tryz.lays160 (by kernel_rfl) s ⟨#[97, 98, 99]⟩ w hs (by decide) (ascii_of_all (by decide))
theorem assert_given (v : Value) (w : World) : (Instr.typeAssert (.iface 64 v) 55 64 true).run Tryz.prog w = .ok (.tuple #[v, .bool true]) w := by kernel_rfl
theorem assert_not (v : Value) (w : World) : (Instr.typeAssert (.iface 47 v) 55 64 true).run Tryz.prog w = .ok (.tuple #[.slice none 0 0, .bool false]) w := by kernel_rfl
theorem assert_words (v : Value) (w : World) : (Instr.typeAssert (.iface 47 v) 55 47 true).run Tryz.prog w = .ok (.tuple #[v, .bool true]) w := by kernel_rfl
set_option maxHeartbeats 800000 in
theorem isValid_given (A : Option Addr) (z : List Int) (c : Nat) (L : Int) (w : World) (h : Row w w.heap.size A (ints z)) (hl : z.length ≤ 1099511627776) :
    Calls Tryz.prog 32 #[.iface 64 (.slice A z.length c), .int .i64 L] w fun e w' => e = .returned (.bool (W.krList z L)) ∧ ∃ n, w' = w.drewN n := by
  have hk := impl_areLetters L w
  have ha := impl_areLengths A z c w h hl
  have has := assert_given (.slice A z.length c)
  rw [krList_def]
  generalize lensOk z = r at ha ⊢
  replace ha := Lib.hid ha
  cases hq : W.krLet L
  · rw [hq] at hk
    replace hk := Lib.hid hk
    rw [Bool.false_and]
    clear h hq
    go_enter Tryz.func32, Tryz.ntmps32
    go_wp2_with (go_at_call 41; refine hk.out.mono ?_; rintro e w' ⟨rfl, rfl⟩)
    go_ret
    exact ⟨rfl, 0, rfl⟩
  · rw [hq] at hk
    replace hk := Lib.hid hk
    rw [Bool.true_and]
    clear h hq
    go_enter Tryz.func32, Tryz.ntmps32
    go_wp2_with (first | (go_at_call 41; refine hk.out.mono ?_; rintro e w' ⟨rfl, rfl⟩) | (go_at_call 42; refine ha.out.mono ?_; rintro e w' ⟨rfl, n, rfl⟩))
    go_ret
    exact ⟨rfl, n, rfl⟩
set_option maxHeartbeats 1600000 in
theorem isValid_words (A : Option Addr) (ss : List ByteArray) (c : Nat) (L : Int) (w : World) (h : Row w w.heap.size A (strs ss)) (hcap : ss.length ≤ c) (hl : ss.length ≤ 9223372036854775807) (hs : ∀ s ∈ ss, s.size ≤ 9223372036854775807) :
    Calls Tryz.prog 32 #[.iface 47 (.slice A ss.length c), .int .i64 L] w fun e w' => e = .returned (.bool (W.krSet ss L)) ∧ Below w.heap.size w w' := by
  have hk := impl_areLetters L w
  have has := assert_not (.slice A ss.length c)
  have hasw := assert_words (.slice A ss.length c)
  cases hq : W.krLet L
  · rw [krSet_no_let hq]
    rw [hq] at hk
    replace hk := Lib.hid hk
    clear h hq
    go_enter Tryz.func32, Tryz.ntmps32
    go_wp2_with (go_at_call 41; refine hk.out.mono ?_; rintro e w' ⟨rfl, rfl⟩)
    go_ret
    exact ⟨rfl, Below.refl _ _⟩
  · rw [hq] at hk
    replace hk := Lib.hid hk
    cases hset : W.isSet ss
    · rw [krSet_no_set hset]
      have hc := fun (u : World) (hb : Below w.heap.size w u) => (impl_IsSet A ss c u ((h.below hb).more hb.size) hl hs).mono fun e w' hp => (⟨hp.1, hb.trans (hp.2.mono hb.size)⟩ : e = .returned (.bool (W.isSet ss)) ∧ Below w.heap.size w w')
      rw [hset] at hc
      replace hc := Lib.hid hc
      clear h hs hq hset
      go_enter Tryz.func32, Tryz.ntmps32
      go_wp2_with (go_at_call 41; refine hk.out.mono ?_; rintro e w' ⟨rfl, rfl⟩)
      refine wp_region_any (by kernel_rfl) ?_
      try (change wpAny _ _ _ _ _ _ _ (World.drew _))
      refine wpAny_take (i := 0) (v := ?_) rfl (by kernel_rfl) (by kernel_rfl) (by kernel_rfl) (fun _ _ _ h => h) (Or.inl ⟨by rfl, ?_⟩) ?_
      rotate_left
      · intro u
        go_simp
        with_reducible rfl
      simp only [Act.put, List.getElem_toArray, List.getElem_cons_zero, List.setIfInBounds_toArray, List.set_cons_zero, List.set_cons_succ]
      refine wpAny_ready (rs := [1]) (by kernel_rfl) (by simp) ?_
      refine AllReady.cons rfl (fun K hK => ?_) AllReady.nil
      go_simp
      go_wp2_with (go_at_call 43; refine (hc.out _ (Below.refl _ _).drew).mono ?_; rintro e w1 ⟨rfl, hB1⟩)
      refine wpAny_take (i := 2) (v := ?_) rfl (by kernel_rfl) (by kernel_rfl) (by kernel_rfl) (fun _ _ _ h => h) (Or.inl ⟨by rfl, ?_⟩) ?_
      rotate_left
      · intro u
        go_simp
        with_reducible rfl
      simp only [Act.put, List.getElem_toArray, List.getElem_cons_zero, List.getElem_cons_succ, List.setIfInBounds_toArray, List.set_cons_zero, List.set_cons_succ]
      refine wpAny_take (i := 3) (v := undef) rfl (by kernel_rfl) (by kernel_rfl) (by kernel_rfl) (fun _ _ _ h => h) (Or.inr ⟨by rfl, rfl⟩) ?_
      simp only [Act.put, List.getElem_toArray, List.getElem_cons_zero, List.getElem_cons_succ, List.setIfInBounds_toArray, List.set_cons_zero, List.set_cons_succ]
      refine wpAny_take (i := 4) (v := undef) rfl (by kernel_rfl) (by kernel_rfl) (by kernel_rfl) (fun _ _ _ h => h) (Or.inr ⟨by rfl, rfl⟩) ?_
      simp only [Act.put, List.getElem_toArray, List.getElem_cons_zero, List.getElem_cons_succ, List.setIfInBounds_toArray, List.set_cons_zero, List.set_cons_succ]
      refine wpAny_take (i := 5) (v := undef) rfl (by kernel_rfl) (by kernel_rfl) (by kernel_rfl) (fun _ _ _ h => h) (Or.inr ⟨by rfl, rfl⟩) ?_
      simp only [Act.put, List.getElem_toArray, List.getElem_cons_zero, List.getElem_cons_succ, List.setIfInBounds_toArray, List.set_cons_zero, List.set_cons_succ]
      refine wpAny_take (i := 6) (v := undef) rfl (by kernel_rfl) (by kernel_rfl) (by kernel_rfl) (fun _ _ _ h => h) (Or.inr ⟨by rfl, rfl⟩) ?_
      simp only [Act.put, List.getElem_toArray, List.getElem_cons_zero, List.getElem_cons_succ, List.setIfInBounds_toArray, List.set_cons_zero, List.set_cons_succ]
      refine wpAny_take (i := 7) (v := undef) rfl (by kernel_rfl) (by kernel_rfl) (by kernel_rfl) (fun _ _ _ h => h) (Or.inr ⟨by rfl, rfl⟩) ?_
      simp only [Act.put, List.getElem_toArray, List.getElem_cons_zero, List.getElem_cons_succ, List.setIfInBounds_toArray, List.set_cons_zero, List.set_cons_succ]
      refine wpAny_take (i := 8) (v := undef) rfl (by kernel_rfl) (by kernel_rfl) (by kernel_rfl) (fun _ _ _ h => h) (Or.inr ⟨by rfl, rfl⟩) ?_
      simp only [Act.put, List.getElem_toArray, List.getElem_cons_zero, List.getElem_cons_succ, List.setIfInBounds_toArray, List.set_cons_zero, List.set_cons_succ]
      refine wpAny_take (i := 9) (v := ?_) rfl (by kernel_rfl) (by kernel_rfl) (by kernel_rfl) (fun _ _ _ h => h) (Or.inl ⟨by rfl, ?_⟩) ?_
      rotate_left
      · intro u
        go_simp
        with_reducible rfl
      simp only [Act.put, List.getElem_toArray, List.getElem_cons_zero, List.getElem_cons_succ, List.setIfInBounds_toArray, List.set_cons_zero, List.set_cons_succ]
      refine wpAny_take (i := 10) (v := ?_) rfl (by kernel_rfl) (by kernel_rfl) (by kernel_rfl) (fun _ _ _ h => h) (Or.inl ⟨by rfl, ?_⟩) ?_
      rotate_left
      · intro u
        go_simp
        with_reducible rfl
      simp only [Act.put, List.getElem_toArray, List.getElem_cons_zero, List.getElem_cons_succ, List.setIfInBounds_toArray, List.set_cons_zero, List.set_cons_succ]
      refine wpAny_done (by kernel_rfl) ?_ _
      go_wp2
      go_ret
      exact ⟨rfl, hB1⟩
    · obtain ⟨m, rfl, hm2, hm3⟩ := let_nat hq
      have hlim := join_size hset
      have hj := fun (u : World) (hb : Below w.heap.size w u) => (join_any A ss c ⟨#[]⟩ u ((h.below hb).more hb.size) hcap (by have := W.isSet_len ss hset; omega) (by show (Lib.join (W.bytes ss) []).length ≤ _; omega)).mono fun e w' hp => (⟨hp.1, hb.trans (hp.2.mono hb.size)⟩ : e = .returned (.string ⟨(Lib.join (W.bytes ss) []).toArray⟩) ∧ Below w.heap.size w w')
      have hc := fun (u : World) (hb : Below w.heap.size w u) => (impl_IsSet A ss c u ((h.below hb).more hb.size) hl hs).mono fun e w' hp => (⟨hp.1, hb.trans (hp.2.mono hb.size)⟩ : e = .returned (.bool (W.isSet ss)) ∧ Below w.heap.size w w')
      rw [hset] at hc
      have hr : W.krSet ss m = (Lib.trimS (Lib.join (W.bytes ss) []) (abcTo m).data.toList).isEmpty := by
        rw [trim_letters m hm2 hm3]
        unfold W.krSet W.krWd
        rw [hq, hset, join_all]
        rfl
      rw [hr]
      have htr := fun (u : World) (hb : Below w.heap.size w u) => (trim_call ⟨(Lib.join (W.bytes ss) []).toArray⟩ m u hm2 hm3 (by show (Lib.join (W.bytes ss) []).toArray.size ≤ _; rw [List.size_toArray]; omega)).mono fun e w' hp => (⟨hp.1, hb.trans (hp.2.mono hb.size)⟩ : e = .returned (.string ⟨(Lib.trimS (Lib.join (W.bytes ss) []) (abcTo m).data.toList).toArray⟩) ∧ Below w.heap.size w w')
      generalize Lib.trimS (Lib.join (W.bytes ss) []) (abcTo m).data.toList = T at htr ⊢
      generalize (⟨(Lib.join (W.bytes ss) []).toArray⟩ : ByteArray) = J at htr hj
      have hsl : (⟨#[97, 98, 99]⟩ : ByteArray).extract 0 m = abcTo m := rfl
      generalize abcTo m = ab at htr hsl
      have hm3' : (m : Int) ≤ 3 := by omega
      have hm0 : (0 : Int) ≤ (m : Int) := by omega
      replace hc := Lib.hid hc
      replace hj := Lib.hid hj
      replace htr := Lib.hid htr
      clear h hs hq hset hlim hr
      go_enter Tryz.func32, Tryz.ntmps32
      go_wp2_with (go_at_call 41; refine hk.out.mono ?_; rintro e w' ⟨rfl, rfl⟩)
      go_region_held3 (fun w' => Below w.heap.size w w') (first | assumption | exact (Below.refl _ _).drew) (first | (go_at_call 43; refine (hc.out _ (by assumption)).mono ?_; rintro e w1 ⟨rfl, hB1⟩) | (go_at_call 45; refine (hj.out _ (by assumption)).mono ?_; rintro e w2 ⟨rfl, hB2⟩) | (go_at_call 44; refine (htr.out _ (by assumption)).mono ?_; rintro e w3 ⟨rfl, hB3⟩))
      all_goals
        go_wp2
        go_ret
        exact ⟨by simp, hB3⟩
end Go.Proofs.YtjopbmhldpcpdaaGreatDoor
