/-
  WHAT THIS FILE PROVES: periods, roots and turns of words: the program's functions give the plain values; asked: lengths that an int holds.
-/
import Derived.Test.YtmijimpfkbgngaaDoorRtS
import Derived.Test.YtmijimpfkbgngaaDoorShelfB
import Derived.Test.YtmijimpfkbgngaaDoorShelf
import Derived.Test.YtmijimpfkbgngaaDoorIsSet
import Derived.Test.YtmijimpfkbgngaaDoorStep
import Derived.Test.YtmijimpfkbgngaaDoorFit
import Derived.Lib.IndexMore
import Derived.Deep.RegionHeld3
import Derived.Laws.IdiomStrings
import Derived.Shelf.SlicesE.Equal
namespace Go.Proofs.YtmijimpfkbgngaaDoor
open Go.RowKit Go.Shelf

set_option maxHeartbeats 800000 in
theorem impl_hasLetters (s : ByteArray) (w : World) (hs : s.size ≤ 9223372036854775807) :
    Calls Tryd.prog 40 #[.string s] w fun e w' => e = .returned (.bool (askB s)) ∧ Below w.heap.size w w' := by
  have hc := fun W => impl_isWord s W hs
  have he := empty_beq s
  have hr : askB s = (W.good s.data.toList && !s.data.toList.isEmpty) := rfl
  rw [hr]
  generalize s.data.toList.isEmpty = q at he ⊢
  generalize W.good s.data.toList = g at hc ⊢
  replace hc := Lib.hid hc
  clear hr
  cases q
  · rw [Bool.not_false, Bool.and_true]
    go_enter Tryd.func40, Tryd.ntmps40
    go_wp2_with (go_at_call 48; refine (hc.out _).mono ?_; rintro e w1 ⟨rfl, hB⟩)
    go_ret
    exact ⟨rfl, hB⟩
  · rw [Bool.not_true, Bool.and_false]
    go_enter Tryd.func40, Tryd.ntmps40
    go_wp2
    go_ret
    exact ⟨rfl, Below.refl _ _⟩

set_option maxHeartbeats 1600000 in
theorem areAll_hasLetters (A : Option Addr) (ss : List ByteArray) (c : Nat) (w : World) (h : Row w w.heap.size A (strs ss)) (hl : ss.length ≤ 9223372036854775807) (hs : ∀ s ∈ ss, s.size ≤ 9223372036854775807) :
    Calls Tryd.prog 39 #[.slice A ss.length c, .func (.func 40) #[] #[]] w fun e w' => e = .returned (.bool (W.allTo askB ss ss.length)) ∧ Below w.heap.size w w' := by
  replace h := Lib.hid h
  replace hs := Lib.hid hs
  go_enter Tryd.func39, Tryd.ntmps39
  go_wp2
  go_loopw [9] (fun i wr => ∃ k : Nat, k ≤ ss.length ∧ i = .int .i64 k ∧ Hid (W.allTo askB ss k = true) ∧ Below w.heap.size w wr) (fun i _ => ss.length - (intOf i).toNat)
  case atStart => exact ⟨0, Nat.zero_le _, rfl, rfl, Below.refl _ _⟩
  case round =>
    obtain ⟨k, hk, rfl, hok, hB⟩ := hrel
    have hO := Lib.hid hB
    clear hB
    by_cases hlt : k < ss.length
    · obtain ⟨b, off, rfl, hb, hc⟩ := h.out (by rw [strs_length]; omega)
      have hlt' : (k : Int) < (ss.length : Int) := by omega
      have c1 := (hO.out.cell (p := ⟨b, off + k, none⟩) hb).trans (hc k _ (strs_nth ss k hlt))
      clear hc
      have Hs := Lib.hid (W.allTo_succ askB ss k)
      have hz : (W.nth ss k).size ≤ 9223372036854775807 := by rw [W.nth_lt ss k hlt]; exact hs.out _ (List.getElem_mem hlt)
      have hc1 : ∀ W', Calls Tryd.prog 40 #[.string (W.nth ss k)] W' fun e w' => e = .returned (.bool (askB (W.nth ss k))) ∧ Below W'.heap.size W' w' := fun W' => impl_hasLetters (W.nth ss k) W' hz
      cases hq : askB (W.nth ss k)
      · have hno : Hid (W.allTo askB ss ss.length = false) := W.allTo_no _ ss (k + 1) _ hlt (by rw [Hs.out, hq]; simp)
        rw [hq] at hc1
        replace hc1 := Lib.hid hc1
        clear hq
        go_wp2_with (go_at_call 40; refine (hc1.out _).mono ?_; rintro e w' ⟨rfl, hB⟩)
        go_ret
        exact ⟨ret_bool hno.out.symm, hO.out.trans (hB.mono hO.out.size)⟩
      · have h1 : Hid (W.allTo askB ss (k + 1) = true) := by
          show W.allTo askB ss (k + 1) = true
          rw [Hs.out, hok.out, hq]
          rfl
        rw [hq] at hc1
        replace hc1 := Lib.hid hc1
        clear hq
        go_wp2_with (go_at_call 40; refine (hc1.out _).mono ?_; rintro e w' ⟨rfl, hB⟩)
        have hF := Lib.hid (hO.out.trans (hB.mono hO.out.size))
        clear hB
        go_roundw
        case rel => exact ⟨k + 1, by omega, by go_num, h1, hF.out⟩
        case measure => simp [intOf]; omega
    · obtain rfl : k = ss.length := by omega
      go_wp2
      go_ret
      exact ⟨ret_bool hok.out.symm, hO.out⟩

set_option maxHeartbeats 800000 in
theorem impl_haveLetters (A : Option Addr) (ss : List ByteArray) (c : Nat) (w : World) (h : Row w w.heap.size A (strs ss)) (hl : ss.length ≤ 9223372036854775807) (hs : ∀ s ∈ ss, s.size ≤ 9223372036854775807) :
    Calls Tryd.prog 29 #[.slice A ss.length c] w fun e w' => e = .returned (.bool (W.allTo askB ss ss.length)) ∧ Below w.heap.size w w' := by
  have hc := areAll_hasLetters A ss c w h hl hs
  generalize W.allTo askB ss ss.length = q at hc ⊢
  replace hc := Lib.hid hc
  clear h hs
  go_enter Tryd.func29, Tryd.ntmps29
  go_wp2_with (go_at_call 39; refine hc.out.mono ?_; rintro e w1 ⟨rfl, hB⟩)
  go_ret
  exact ⟨rfl, hB⟩
theorem have_one (s : ByteArray) (w : World) (hs : s.size ≤ 9223372036854775807) :
    Calls Tryd.prog 29 #[.slice (some ⟨w.heap.size, 0, none⟩) 1 1] (w.alloc (.cells #[.string s] 9)) fun e w' => e = .returned (.bool (askB s)) ∧ Below w.heap.size w w' := by
  have h := impl_haveLetters (some ⟨w.heap.size, 0, none⟩) [s] 1 (w.alloc (.cells #[.string s] 9)) (row_new w s) (by simp) (fun x hx => by rw [List.mem_singleton] at hx; rw [hx]; exact hs)
  have e : W.allTo askB [s] [s].length = askB s := by simp [W.allTo, W.nth, List.range_succ]
  rw [e] at h
  exact h.mono fun _ _ hp => ⟨hp.1, ((Below.refl _ _).alloc (Nat.le_refl _) _).trans (hp.2.mono (by simp))⟩
theorem row_two (w : World) (s t : ByteArray) : Row (w.alloc (.cells #[.string s, .string t] 9)) (w.alloc (.cells #[.string s, .string t] 9)).heap.size (some ⟨w.heap.size, 0, none⟩) (strs [s, t]) := fun _ =>
  ⟨w.heap.size, 0, rfl, by simp, fun i v hv => by
    rw [World.cell?_alloc_at _ _ _ _ rfl]
    have hi := (List.getElem?_eq_some_iff.1 hv).1
    match i, hi with
    | 0, _ => simpa [strs] using hv
    | 1, _ => simpa [strs] using hv⟩
theorem have_two (s t : ByteArray) (w : World) (hs : s.size ≤ 9223372036854775807) (ht : t.size ≤ 9223372036854775807) :
    Calls Tryd.prog 29 #[.slice (some ⟨w.heap.size, 0, none⟩) 2 2] (w.alloc (.cells #[.string s, .string t] 9)) fun e w' => e = .returned (.bool (atOk s t)) ∧ Below w.heap.size w w' := by
  have h := impl_haveLetters (some ⟨w.heap.size, 0, none⟩) [s, t] 2 (w.alloc (.cells #[.string s, .string t] 9)) (row_two w s t) (by simp) (fun x hx => by
    rcases List.mem_cons.1 hx with rfl | hx
    · exact hs
    · rw [List.mem_singleton] at hx; rw [hx]; exact ht)
  have e : W.allTo askB [s, t] [s, t].length = atOk s t := by simp [W.allTo, W.nth, List.range_succ, atOk]
  rw [e] at h
  exact h.mono fun _ _ hp => ⟨hp.1, ((Below.refl _ _).alloc (Nat.le_refl _) _).trans (hp.2.mono (by simp))⟩

/-- bytes as numbers -/
def nums (l : List UInt8) : List Int := l.map fun b => (b.toNat : Int)
theorem nums_length (l : List UInt8) : (nums l).length = l.length := by simp [nums]
theorem nums_inj {l m : List UInt8} (h : nums l = nums m) : l = m := by
  unfold nums at h
  exact List.map_inj_right (fun a b e => UInt8.toNat_inj.1 (by exact_mod_cast e)) |>.1 h
theorem nums_get (l : List UInt8) (j : Nat) (h : j < l.length) : (nums l)[j]! = (l[j].toNat : Int) := by
  rw [getElem!_pos (nums l) j (by rw [nums_length]; exact h)]
  simp [nums]
/-- a block whose first cells are these bytes -/
def BytesAt (w : World) (g : Nat) (l : List UInt8) : Prop := g < w.heap.size ∧ ∀ j (h : j < l.length), w.cell? ⟨g, j, none⟩ = some (.int .u8 (l[j].toNat : Int))
theorem BytesAt.below {w w' : World} {g : Nat} {l : List UInt8} (h : BytesAt w g l) (hB : Below w.heap.size w w') : BytesAt w' g l :=
  ⟨Nat.lt_of_lt_of_le h.1 hB.size, fun j hj => (hB.cell (p := ⟨g, j, none⟩) h.1).trans (h.2 j hj)⟩
theorem BytesAt.conv (w : World) (s : ByteArray) : BytesAt (Lib.bytesWorld w 5 s) w.heap.size s.data.toList :=
  ⟨by rw [Lib.bytesWorld_size]; omega, fun j hj => by
    rw [Lib.bytesWorld_cell w _ s j (by rw [← size_len]; exact hj), List.getD_eq_getElem?_getD, List.getElem?_eq_getElem hj]
    rfl⟩
theorem allEq_nums (l m : List UInt8) : Lib.allEq (fun x y : Int => x == y) (nums l) (nums m) = decide (l = m) := by
  by_cases h : l = m
  · subst h
    rw [decide_eq_true rfl]
    exact Lib.allEq_all _ _ _ rfl (fun j _ => by simp)
  · rw [decide_eq_false h]
    by_cases hl : (nums l).length = (nums m).length
    · cases hq : Lib.allEq (fun x y : Int => x == y) (nums l) (nums m)
      · rfl
      · refine absurd (nums_inj (List.ext_getElem hl fun j h1 h2 => ?_)) h
        cases he : ((nums l)[j]'h1 == (nums m)[j]'h2)
        · have := Lib.allEq_elem (fun x y : Int => x == y) (nums l) (nums m) j h1 h2 (by rw [getElem!_pos (nums l) j h1, getElem!_pos (nums m) j h2]; exact he)
          rw [this] at hq
          cases hq
        · exact beq_iff_eq.1 he
    · exact Lib.allEq_len _ _ _ hl

theorem eq_tail (w : World) (g : Nat) (l : List UInt8) (h : BytesAt w g l) (p o c1 c2 : Nat) (hp : p ≤ l.length) (ho : o = p ∨ p = l.length) (h60 : l.length ≤ 60) :
    Calls Tryd.prog 49 #[.slice (some ⟨g, o, none⟩) (l.length - p) c1, .slice (some ⟨g, 0, none⟩) (l.length - p) c2] w fun e w' => e = .returned (.bool (W.isPer l p)) ∧ ∃ q, w' = w.drewN q := by
  have e1 : (l.drop p).length = l.length - p := List.length_drop
  have e2 : (l.take (l.length - p)).length = l.length - p := by rw [List.length_take]; omega
  have hq := AnyE.slices_Equal Tryd.eqB (Value.int .u8) (fun x y : Int => x == y) (NeqAt.int _ _ .u8) g o (l.length - p) c1 g 0 (l.length - p) c2 (nums (l.drop p)) (nums (l.take (l.length - p))) w
    (by rw [nums_length, e1]; exact Nat.le_refl _) (by rw [nums_length, e2]; exact Nat.le_refl _) (by omega) (by omega)
    (fun j hj => by
      rw [nums_length, e1] at hj
      rcases ho with rfl | ho
      · rw [nums_get _ _ (by rw [e1]; exact hj), h.2 (o + j) (by omega)]
        simp
      · omega)
    (fun j hj => by
      rw [nums_length, e2] at hj
      rw [nums_get _ _ (by rw [e2]; exact hj), Nat.zero_add, h.2 j (by omega)]
      simp)
  rw [List.take_of_length_le (by rw [nums_length, e1]; exact Nat.le_refl _), List.take_of_length_le (by rw [nums_length, e2]; exact Nat.le_refl _), allEq_nums] at hq
  exact hq

set_option maxHeartbeats 3200000 in
set_option maxRecDepth 100000 in
theorem impl_periodsIn (g : Nat) (l : List UInt8) (c : Nat) (w : World) (h : BytesAt w g l) (hc : l.length ≤ c) (h60 : l.length ≤ 60) (hc2 : c ≤ maxLen) :
    Calls Tryd.prog 38 #[.slice (some ⟨g, 0, none⟩) l.length c] w (GivesInts w (W.persI l (l.length + 1))) := by
  obtain ⟨i0, hi, hz0, hz1, hz2⟩ := info_parts infoInt
  have HR := Lib.hid (And.intro hi (And.intro hz0 (And.intro hz1 hz2)))
  clear hi hz0 hz1 hz2
  replace h := Lib.hid h
  go_enter Tryd.func38, Tryd.ntmps38
  go_wp2
  go_loopw [3, 4] (fun v i wr => ∃ k : Nat, 1 ≤ k ∧ k ≤ l.length + 1 ∧ i = .int .i64 k ∧ wr.ownsRow w.heap.size 3 1 v (W.persI l k).length (ints (W.persI l k)) ∧ Below w.heap.size w wr)
    (fun _ i _ => l.length + 1 - (intOf i).toNat)
  case atStart => exact ⟨1, Nat.le_refl _, by omega, rfl, by rw [W.persI_one]; exact World.ownsRow_nil _ _ _ _, Below.refl _ _⟩
  case round =>
    obtain ⟨k, hk1, hk2, rfl, ho, hB⟩ := hrel
    by_cases hlt : k ≤ l.length
    · have Hs := Lib.hid (W.persI_succ l k hk1)
      have hlen := W.persI_length l k
      have hlt' : (k : Int) ≤ (l.length : Int) := by omega
      have hkc : (k : Int) ≤ (c : Int) := by omega
      have hlc : (l.length : Int) ≤ (c : Int) := by omega
      have hk0 : (0 : Int) ≤ (k : Int) := by omega
      have hO := Lib.hid (And.intro ho hB)
      clear ho hB
      have heq := Lib.hid (fun n o c1 c2 ho => eq_tail (wr.drewN n) g l ((h.out.below hO.out.2).below (below_drewN (Below.refl _ _) n)) k o c1 c2 hlt ho h60)
      have hml : c ≤ 9223372036854775807 := by unfold maxLen at hc2; exact hc2
      cases hq : W.isPer l k
      · rw [hq] at heq
        have Hq := Lib.hid hq
        clear hq
        by_cases hcp : c = k
        · have hkl : k = l.length := by omega
          have h9 := Hq.out
          rw [hkl, W.isPer_all] at h9
          cases h9
        · go_wp2
          go_quiet ((go_at_call 49; exact Calls.quiet_of (heq.out _ _ _ _ (.inl rfl))))
          go_wp2
          go_roundw
          case rel =>
            refine ⟨k + 1, by omega, by omega, by go_num, ?_, below_drewN hO.out.2 _⟩
            rw [Hs.out, Hq.out]
            simpa using own_drewN hO.out.1 _
          case measure => simp [intOf]; omega
      · rw [hq] at heq
        have Hq := Lib.hid hq
        clear hq
        by_cases hcp : c = k
        · have hkl : k = l.length := by omega
          have heq0 := Lib.hid (fun n c1 c2 => by
            have h9 := heq.out n 0 c1 c2 (.inr hkl)
            rw [hkl, Nat.sub_self] at h9
            exact h9 : ∀ n c1 c2, Calls Tryd.prog 49 #[.slice (some ⟨g, 0, none⟩) 0 c1, .slice (some ⟨g, 0, none⟩) 0 c2] (wr.drewN n) fun e w' => e = .returned (.bool true) ∧ ∃ q, w' = (wr.drewN n).drewN q)
          clear heq
          subst hcp
          subst hkl
          go_wp2
          go_quiet ((go_at_call 49; exact Calls.quiet_of (heq0.out _ _ _)))
          have hO1 := Lib.hid (And.intro (own_drewN hO.out.1 nq) (below_drewN hO.out.2 nq))
          generalize wr.drewN nq = wq at hO1 ⊢
          go_wp2_with (at_builtin; refine wpList_append_own _ rfl _ _ 36 rfl w.heap.size 3 i0 (.int .i64 0) 1 8 Tryd.underlying36 HR.out.1 HR.out.2.1 HR.out.2.2.1 HR.out.2.2.2 rfl (by decide) _ _ _ rfl (hO1.out.1.alloc _) ⟨wq.heap.size, 0, none⟩ 1 1 [.int .i64 l.length] rfl rfl ?c1 ?c2 ?c3 ?c4 ?c5 ?_)
          case c1 => exact cell_one_new _ _ _
          case c2 => exact one_cell _
          case c3 => unfold maxLen; omega
          case c4 => omega
          case c5 => have := hO1.out.2.size; simp; omega
          intro v' w1 hown' hgrow _
          have hO2 := Lib.hid (And.intro hown' hgrow)
          clear hown' hgrow
          go_wp2
          go_roundw
          case rel =>
            refine ⟨l.length + 1, by omega, by omega, by go_num, ?_, ?_⟩
            · rw [Hs.out, Hq.out]
              have := hO2.out.1
              unfold ints at this ⊢
              simpa using this
            · have hlt := hO1.out.1.lt
              exact (hO1.out.2.alloc hO1.out.2.size _).grown hO2.out.2 (by have := hO1.out.2.size; simp; omega) (fun g hg => (hlt g hg).1)
          case measure => simp [intOf]
        · go_wp2
          go_quiet ((go_at_call 49; exact Calls.quiet_of (heq.out _ _ _ _ (.inl rfl))))
          have hO1 := Lib.hid (And.intro (own_drewN hO.out.1 nq) (below_drewN hO.out.2 nq))
          generalize wr.drewN nq = wq at hO1 ⊢
          go_wp2_with (at_builtin; refine wpList_append_own _ rfl _ _ 36 rfl w.heap.size 3 i0 (.int .i64 0) 1 8 Tryd.underlying36 HR.out.1 HR.out.2.1 HR.out.2.2.1 HR.out.2.2.2 rfl (by decide) _ _ _ rfl (hO1.out.1.alloc _) ⟨wq.heap.size, 0, none⟩ 1 1 [.int .i64 k] rfl rfl ?c1 ?c2 ?c3 ?c4 ?c5 ?_)
          case c1 => exact cell_one_new _ _ _
          case c2 => exact one_cell _
          case c3 => unfold maxLen; omega
          case c4 => omega
          case c5 => have := hO1.out.2.size; simp; omega
          intro v' w1 hown' hgrow _
          have hO2 := Lib.hid (And.intro hown' hgrow)
          clear hown' hgrow
          go_wp2
          go_roundw
          case rel =>
            refine ⟨k + 1, by omega, by omega, by go_num, ?_, ?_⟩
            · rw [Hs.out, Hq.out]
              have := hO2.out.1
              unfold ints at this ⊢
              simpa using this
            · have hlt := hO1.out.1.lt
              exact (hO1.out.2.alloc hO1.out.2.size _).grown hO2.out.2 (by have := hO1.out.2.size; simp; omega) (fun g hg => (hlt g hg).1)
          case measure => simp [intOf]; omega
    · have hkk : k = l.length + 1 := by omega
      have hO := Lib.hid (And.intro ho hB)
      clear ho hB
      go_wp2
      go_ret
      rw [← hkk]
      exact givesInts_of hO.out.1 rfl hO.out.2

set_option maxHeartbeats 1600000 in
theorem impl_PeriodsOf (s : ByteArray) (w : World) (hs : s.size ≤ 9223372036854775807) :
    Calls Tryd.prog 23 #[.string s] w (OkInts w (W.periodsOf s.data.toList) (W.good s.data.toList)) := by
  cases h1 : W.good s.data.toList
  · have hr : W.periodsOf s.data.toList = [] := by unfold W.periodsOf; rw [h1]; rfl
    rw [hr]
    have hc := Lib.hid (fun W => impl_IsWord s W hs)
    rw [h1] at hc
    clear hr h1
    go_enter Tryd.func23, Tryd.ntmps23
    go_wp2_with (go_at_call 37; refine (hc.out _).mono ?_; rintro e w1 ⟨rfl, hB⟩)
    go_ret2
    exact okInts_nil _ _ _ hB
  · have hr : W.periodsOf s.data.toList = W.persI s.data.toList (s.data.toList.length + 1) := by unfold W.periodsOf; rw [h1]; rfl
    have h60 : s.size ≤ 60 := by
      have := h1
      unfold W.good at this
      simp only [Bool.and_eq_true, decide_eq_true_eq] at this
      have h := this.1
      rwa [size_len] at h
    rw [hr]
    have hc := Lib.hid (fun W => impl_IsWord s W hs)
    rw [h1] at hc
    have hper := fun W => impl_periodsIn W.heap.size s.data.toList (grownCap W s.size 0 5) (Lib.bytesWorld W 5 s) (BytesAt.conv W s) (by rw [size_len]; exact grownCap_ge W s.size 0 5) (by rw [size_len]; exact h60) (grownCap_le_maxLen W s.size 0 5 (by unfold maxLen; omega))
    rw [size_len] at hper
    rw [size_len]
    generalize W.persI s.data.toList (s.size + 1) = P at hper ⊢
    replace hper := Lib.hid hper
    clear hr h1
    go_enter Tryd.func23, Tryd.ntmps23
    go_wp2_with fail
    refine (hc.out _).mono ?_
    rintro e w1 ⟨rfl, hB⟩
    have hcv := Lib.run_convert_string_bytes w1 9 43 5 s Tryd.underlying9 Tryd.underlying43 Tryd.underlying5
    have hpw := hper.out w1
    have hb0 := hB.trans ((Lib.bytesWorld_below w1 5 s).mono hB.size)
    have Hb := Lib.hid (And.intro hpw hb0)
    clear hb0 hpw hB hper
    generalize Lib.bytesWorld w1 5 s = wb at hcv Hb
    go_wp2_with fail
    refine Hb.out.1.mono ?_
    rintro e w2 ⟨A2, c2, rfl, ho2, hB2⟩
    have HO := Lib.hid (And.intro (own_base ho2 Hb.out.2.size) (Hb.out.2.trans (hB2.mono Hb.out.2.size)))
    clear ho2 hB2 Hb hcv
    go_wp2
    go_ret2
    exact okInts_of HO.out.1 rfl HO.out.2

theorem pers_sorted (l : List UInt8) (k : Nat) : (W.pers l k).Pairwise (· < ·) := by
  unfold W.pers
  exact List.Pairwise.filter _ List.pairwise_lt_range
/-- the first of the periods that divides the length, at its place -/
theorem root_at {l : List UInt8} {P : List Nat} (hP : P = W.pers l (l.length + 1)) {j : Nat} (hj : j < P.length) (hno : ∀ i (h : i < P.length), i < j → ¬ l.length % P[i] = 0) (hd : l.length % P[j] = 0) : W.rootN l = P[j] := by
  subst hP
  have hm := (W.mem_pers l _ _).1 (List.getElem_mem hj)
  refine W.rootN_of l _ (by omega) ?_ (fun q hq => ?_)
  · unfold W.isRt
    rw [decide_eq_true hm.2.1, decide_eq_true hd, hm.2.2]
    rfl
  · cases hr : W.isRt l q
    · rfl
    · unfold W.isRt at hr
      simp only [Bool.and_eq_true, decide_eq_true_eq] at hr
      have hqm : q ∈ W.pers l (l.length + 1) := (W.mem_pers l _ _).2 ⟨by omega, hr.1, hr.2.2⟩
      obtain ⟨i, hi, e⟩ := List.getElem_of_mem hqm
      have hs := pers_sorted l (l.length + 1)
      have hij : i < j := by
        rcases Nat.lt_or_ge i j with h | h
        · exact h
        · exfalso
          rcases Nat.lt_or_ge j i with h2 | h2
          · have := List.pairwise_iff_getElem.1 hs j i hj hi h2
            omega
          · have : i = j := by omega
            subst this
            omega
      exact absurd (by rw [e]; exact hr.2.1) (hno i hi hij)
theorem root_some {l : List UInt8} {P : List Nat} (hP : P = W.pers l (l.length + 1)) (h1 : 1 ≤ l.length) (hno : ∀ i (h : i < P.length), ¬ l.length % P[i] = 0) : False := by
  subst hP
  have hm : l.length ∈ W.pers l (l.length + 1) := (W.mem_pers l _ _).2 ⟨by omega, h1, W.isPer_all l⟩
  obtain ⟨i, hi, e⟩ := List.getElem_of_mem hm
  exact hno i hi (by rw [e]; exact Nat.mod_self _)

set_option maxHeartbeats 1600000 in
set_option maxRecDepth 100000 in
theorem impl_rootIn (g : Nat) (l : List UInt8) (c : Nat) (w : World) (h : BytesAt w g l) (hc : l.length ≤ c) (h1 : 1 ≤ l.length) (h60 : l.length ≤ 60) (hc2 : c ≤ maxLen) :
    Calls Tryd.prog 30 #[.slice (some ⟨g, 0, none⟩) l.length c] w fun e w' => e = .returned (.slice (some ⟨g, 0, none⟩) (W.rootN l) c) ∧ Below w.heap.size w w' := by
  have hper := impl_periodsIn g l c w h hc h60 hc2
  obtain ⟨P, hP⟩ : ∃ P, P = W.pers l (l.length + 1) := ⟨_, rfl⟩
  have hI : W.persI l (l.length + 1) = P.map fun (p : Nat) => (p : Int) := by rw [hP]; rfl
  rw [hI] at hper
  have hpl : (P.map fun (p : Nat) => (p : Int)).length = P.length := List.length_map ..
  have hpl2 : P.length ≤ 61 := by
    have := W.pers_length l (l.length + 1)
    rw [← hP] at this
    omega
  have hat := Lib.hid (fun j (hj : j < P.length) => root_at hP hj)
  have hsome := Lib.hid (root_some hP h1)
  have hget := Lib.hid (show ∀ j (hj : j < P.length), (ints (P.map fun (p : Nat) => (p : Int)))[j]? = some (.int .i64 (P[j] : Int)) from fun j hj => by
    rw [ints_at _ j (by rw [hpl]; exact hj)]
    simp)
  have hmem := Lib.hid (show ∀ j (hj : j < P.length), 1 ≤ P[j] ∧ P[j] ≤ l.length from fun j hj => by
    have := (W.mem_pers l (l.length + 1) P[j]).1 (by rw [← hP]; exact List.getElem_mem hj)
    omega)
  have hml : c ≤ 9223372036854775807 := by unfold maxLen at hc2; exact hc2
  replace hper := Lib.hid hper
  clear hI hP h
  go_enter Tryd.func30, Tryd.ntmps30
  go_wp2_with fail
  refine hper.out.mono ?_
  rintro e w1 ⟨A1, c1, rfl, ho, hB⟩
  rw [hpl] at ho ⊢
  have HO := Lib.hid (And.intro ho hB)
  clear ho hB hper
  go_wp2
  go_loop [8] (fun i => ∃ j : Nat, j ≤ P.length ∧ i = .int .i64 j ∧ Hid (∀ i (h : i < P.length), i < j → ¬ l.length % P[i] = 0)) (fun i => P.length - (intOf i).toNat)
  case atStart => exact ⟨0, Nat.zero_le _, rfl, fun i _ hi => absurd hi (Nat.not_lt_zero _)⟩
  case round =>
    obtain ⟨j, hj, rfl, hno⟩ := hrel
    by_cases hlt : j < P.length
    · obtain ⟨b, off, rfl, hb, hcc⟩ := Row.of_own HO.out.1 (by rw [ints_length, hpl]; omega)
      have hlt' : (j : Int) < (P.length : Int) := by omega
      have c2 := hcc j _ (hget.out j hlt)
      clear hcc
      have hres := Lib.hid (hat.out j hlt hno.out)
      have hno2 : Hid (¬ l.length % P[j] = 0 → ∀ i (h : i < P.length), i < j + 1 → ¬ l.length % P[i] = 0) := fun hn i hi hij => by
        rcases Nat.lt_or_ge i j with h | h
        · exact hno.out i hi h
        · have : i = j := by omega
          subst this
          exact hn
      have hpm := hmem.out j hlt
      generalize P[j] = p at c2 hres hpm hno2
      have hp1 := hpm.1
      have hp2 := hpm.2
      have hp3 : (1 : Int) ≤ (p : Int) := by omega
      have hp4 : (p : Int) ≤ (c : Int) := by omega
      have hp5 : (0 : Int) ≤ (p : Int) := by omega
      clear hpm hat hget hmem hsome
      by_cases hd : l.length % p = 0
      · have hr := Lib.hid (hres.out hd)
        have hm : (l.length : Int) % (p : Int) = 0 := by
          show ((l.length % p : Nat) : Int) = 0
          omega
        clear hres hno2 hd
        go_wp2
        go_ret
        refine ⟨?_, HO.out.2⟩
        rw [hr.out]
        rfl
      · have hn2 := Lib.hid (hno2.out hd)
        have hm : ¬ (l.length : Int) % (p : Int) = 0 := by
          show ¬ ((l.length % p : Nat) : Int) = 0
          omega
        clear hres hno2 hd
        go_wp2
        go_round
        case rel => exact ⟨j + 1, by omega, by go_num, hn2⟩
        case measure => simp [intOf]; omega
    · exact absurd (fun i hi => hno.out i hi (by omega)) hsome.out

theorem rootB_sz {s : ByteArray} (h : 1 ≤ s.size) : (rootB s).size = W.rootN s.data.toList := by
  have h1 : 1 ≤ s.data.toList.length := by rw [size_len]; exact h
  unfold rootB
  rw [ByteArray.size_extract, Nat.sub_zero, Nat.min_eq_left]
  rw [← size_len]
  exact (W.rootN_spec _ h1).2.1
theorem rootB_bytes (s : ByteArray) : (⟨(s.data.toList.take (W.rootN s.data.toList)).toArray⟩ : ByteArray) = rootB s := by
  apply data_inj
  unfold rootB
  rw [head_data]
set_option maxHeartbeats 1600000 in
set_option maxRecDepth 100000 in
theorem impl_RootOf (s : ByteArray) (w : World) (hs : s.size ≤ 9223372036854775807) :
    Calls Tryd.prog 10 #[.string s] w fun e w' => e = .returned (.tuple #[.string (rtT s), .int .i64 (rtN s), .bool (askB s)]) ∧ Below w.heap.size w w' := by
  have hc := fun W => have_one s W hs
  unfold rtT rtN
  cases hq : askB s
  · rw [hq] at hc
    replace hc := Lib.hid hc
    clear hq
    go_enter Tryd.func10, Tryd.ntmps10
    go_wp2_with (go_at_call 29; refine (hc.out _).mono ?_; rintro e w1 ⟨rfl, hB⟩)
    go_ret3
    exact ⟨rfl, hB⟩
  · have h60 := askB_size hq
    have hrs := rootB_size h60.1
    have hsz := rootB_sz h60.1
    rw [hq] at hc
    have hrt := fun W => impl_rootIn W.heap.size s.data.toList (grownCap W s.size 0 5) (Lib.bytesWorld W 5 s) (BytesAt.conv W s) (by rw [size_len]; exact grownCap_ge W s.size 0 5) (by rw [size_len]; exact h60.1) (by rw [size_len]; exact h60.2) (grownCap_le_maxLen W s.size 0 5 (by unfold maxLen; omega))
    rw [size_len] at hrt
    have hbk := fun (u : World) (g cap : Nat) (h : BytesAt u g s.data.toList) => run_convert_bytes_back (P := Tryd.prog) u 43 9 5 ⟨g, 0, none⟩ cap (s.data.toList.take (Go.Proofs.YtmijimpfkbgngaaDoor.W.rootN s.data.toList)) Tryd.underlying43 Tryd.underlying5 Tryd.underlying9 (fun j hj => by
      have hj2 : j < s.data.toList.length := by rw [List.length_take] at hj; omega
      rw [addr_at, Nat.zero_add, h.2 j hj2, List.getElem_take])
    have hlt : (s.data.toList.take (Go.Proofs.YtmijimpfkbgngaaDoor.W.rootN s.data.toList)).length = (rootB s).size := by
      rw [List.length_take, hsz, Nat.min_eq_left (by rw [size_len, ← hsz]; exact hrs.2)]
    rw [hlt, rootB_bytes] at hbk
    rw [← hsz] at hrt
    have hdv : wrap64 ((s.size : Int) / ((rootB s).size : Int)) = ((s.size / (rootB s).size : Nat) : Int) := by
      show wrap64 ((s.size / (rootB s).size : Nat) : Int) = _
      have h := Nat.div_le_self s.size (rootB s).size
      generalize s.size / (rootB s).size = q at h ⊢
      exact IntWalk.wrap64_in _ (by omega)
    have Hdv := Lib.hid hdv
    clear hdv hlt hsz hq
    rw [if_pos rfl, if_pos rfl]
    have h1 := hrs.1
    have h2 := hrs.2
    have h3 := h60.2
    generalize rootB s = r at hrt hbk Hdv h1 h2 ⊢
    replace hc := Lib.hid hc
    replace hrt := Lib.hid hrt
    replace hbk := Lib.hid hbk
    clear hrs h60
    go_enter Tryd.func10, Tryd.ntmps10
    go_wp2_with fail
    refine (hc.out _).mono ?_
    rintro e w1 ⟨rfl, hB⟩
    have hcv := Lib.run_convert_string_bytes w1 9 43 5 s Tryd.underlying9 Tryd.underlying43 Tryd.underlying5
    have hb0 := hB.trans ((Lib.bytesWorld_below w1 5 s).mono hB.size)
    have Hb := Lib.hid (And.intro (hrt.out w1) (And.intro hb0 (BytesAt.conv w1 s)))
    clear hb0 hB hrt
    generalize Lib.bytesWorld w1 5 s = wb at hcv Hb
    go_wp2_with fail
    refine Hb.out.1.mono ?_
    rintro e w2 ⟨rfl, hB2⟩
    have hbk2 := fun n => hbk.out (w2.drewN n) w1.heap.size (grownCap w1 s.size 0 5) ((Hb.out.2.2.below hB2).below (below_drewN (Below.refl _ _) n))
    have HB := Lib.hid (Hb.out.2.1.trans (hB2.mono Hb.out.2.1.size))
    clear hB2 Hb hbk hcv
    generalize grownCap w1 s.size 0 5 = cap at hbk2 ⊢
    go_wp2_with fail
    go_quiet (fail)
    go_wp2
    go_ret3
    refine ⟨?_, below_drewN HB.out _⟩
    have h := Hdv.out
    show Ending.returned (.tuple #[.string r, .int .i64 (wrap64 ((s.size : Int) / (r.size : Int))), .bool true]) = _
    rw [h]

set_option maxHeartbeats 800000 in
theorem impl_IsPrimitive (s : ByteArray) (w : World) (hs : s.size ≤ 9223372036854775807) :
    Calls Tryd.prog 12 #[.string s] w fun e w' => e = .returned (.tuple #[.bool (prB s), .bool (askB s)]) ∧ Below w.heap.size w w' := by
  have hc := fun W => impl_RootOf s W hs
  unfold prB
  unfold rtT at hc
  generalize rtN s = z at hc
  cases hq : askB s
  · rw [hq] at hc
    replace hc := Lib.hid hc
    clear hq
    go_enter Tryd.func12, Tryd.ntmps12
    go_wp2_with (go_at_call 10; refine (hc.out _).mono ?_; rintro e w1 ⟨rfl, hB⟩)
    go_ret2
    exact ⟨rfl, hB⟩
  · rw [hq] at hc
    rw [if_pos rfl]
    simp only [if_pos] at hc
    generalize rootB s = r at hc ⊢
    replace hc := Lib.hid hc
    clear hq
    go_enter Tryd.func12, Tryd.ntmps12
    go_wp2_with (go_at_call 10; refine (hc.out _).mono ?_; rintro e w1 ⟨rfl, hB⟩)
    go_ret2
    exact ⟨rfl, hB⟩

set_option maxHeartbeats 1600000 in
theorem impl_CommonRoot (s t : ByteArray) (w : World) (hs : s.size ≤ 9223372036854775807) (ht : t.size ≤ 9223372036854775807) :
    Calls Tryd.prog 21 #[.string s, .string t] w fun e w' => e = .returned (.tuple #[.string (crT s t), .bool (crOk s t)]) ∧ Below w.heap.size w w' := by
  have hc := fun W => have_two s t W hs ht
  unfold crT
  cases hq : atOk s t
  · have hno : crOk s t = false := by
      unfold atOk at hq
      unfold crOk
      cases h1 : askB s
      · rfl
      · rw [h1, Bool.true_and] at hq
        rw [hq]
        rfl
    rw [hno]
    rw [hq] at hc
    replace hc := Lib.hid hc
    clear hq hno
    go_enter Tryd.func21, Tryd.ntmps21
    go_wp2_with (go_at_call 29; refine (hc.out _).mono ?_; rintro e w1 ⟨rfl, hB⟩)
    go_ret2
    exact ⟨rfl, hB⟩
  · have hq2 := hq
    unfold atOk at hq2
    simp only [Bool.and_eq_true] at hq2
    have h60 := askB_size hq2.1
    have h60t := askB_size hq2.2
    have hst : s.size + t.size ≤ 120 := by omega
    have hr := fun W => impl_RootOf s W hs
    unfold rtT at hr
    generalize rtN s = z at hr
    rw [hq2.1] at hr
    simp only [if_pos] at hr
    rw [hq] at hc
    cases hcm : ((s ++ t).toList == (t ++ s).toList)
    · rw [show crOk s t = false by unfold crOk; rw [hcm]; simp]
      replace hc := Lib.hid hc
      clear hq hq2 hr
      go_enter Tryd.func21, Tryd.ntmps21
      go_wp2_with fail
      refine (hc.out _).mono ?_
      rintro e w1 ⟨rfl, hB⟩
      have HB := Lib.hid hB
      clear hB
      go_wp2
      go_ret2
      exact ⟨rfl, HB.out⟩
    · rw [show crOk s t = true by unfold crOk; rw [hq2.1, hq2.2, hcm]; rfl, if_pos rfl]
      generalize rootB s = r at hr ⊢
      replace hc := Lib.hid hc
      replace hr := Lib.hid hr
      clear hq hq2
      go_enter Tryd.func21, Tryd.ntmps21
      go_wp2_with fail
      refine (hc.out _).mono ?_
      rintro e w1 ⟨rfl, hB⟩
      have HB := Lib.hid hB
      clear hB
      go_wp2_with fail
      refine (hr.out _).mono ?_
      rintro e w2 ⟨rfl, hB2⟩
      have HB2 := Lib.hid (HB.out.trans (hB2.mono HB.out.size))
      clear hB2
      go_wp2
      go_ret2
      exact ⟨rfl, HB2.out⟩

theorem ord_eq_mem {a b : List ByteArray} (h : ∀ x, x ∈ a ↔ x ∈ b) : ordB a = ordB b := by
  apply raw_inj
  refine W.inc_unique (inc_ord a) (inc_ord b) (fun x => ?_)
  have key : ∀ c : List ByteArray, x ∈ raw (ordB c) ↔ ⟨x.toArray⟩ ∈ c := fun c => by
    have := @mem_raw (ordB c) ⟨x.toArray⟩
    rw [← mem_ord c]
    exact this
  rw [key, key, h]
theorem mem_turnsB (s : ByteArray) (k : Nat) (x : ByteArray) : x ∈ turnsB s k ↔ x.data.toList ∈ W.turns s.data.toList k := by
  unfold turnsB W.turns
  simp only [List.mem_map]
  constructor
  · rintro ⟨i, hi, rfl⟩
    exact ⟨i, hi, (turnB_data s i).symm⟩
  · rintro ⟨i, hi, e⟩
    exact ⟨i, hi, data_inj (by rw [turnB_data, e])⟩
theorem turns_root {s : ByteArray} (h : 1 ≤ s.size) : ordB (turnsB s (rootB s).size) = ordB (turnsB s s.size) := by
  have h1 : 1 ≤ s.data.toList.length := by rw [size_len]; exact h
  refine ord_eq_mem fun x => ?_
  rw [mem_turnsB, mem_turnsB, rootB_sz h, ← W.mem_turns_root _ h1, size_len]
set_option maxHeartbeats 3200000 in
set_option maxRecDepth 100000 in
theorem impl_TurnsOf (s : ByteArray) (w : World) (hs : s.size ≤ 9223372036854775807) :
    Calls Tryd.prog 14 #[.string s] w (OkStrs w (tuOf s) (askB s)) := by
  have hc := fun W => impl_RootOf s W hs
  unfold rtT at hc
  generalize rtN s = z at hc
  cases hq : askB s
  · rw [tuOf_no hq]
    rw [hq] at hc
    replace hc := Lib.hid hc
    clear hq
    go_enter Tryd.func14, Tryd.ntmps14
    go_wp2_with (go_at_call 10; refine (hc.out _).mono ?_; rintro e w1 ⟨rfl, hB⟩)
    go_ret2
    exact okStrs_nil _ _ _ hB
  · have h60 := askB_size hq
    have hrs := rootB_size h60.1
    rw [tuOf_yes hq, ← turns_root h60.1]
    rw [hq] at hc
    simp only [if_pos] at hc
    have h1 := hrs.1
    have h2 := hrs.2
    have h3 := h60.2
    generalize rootB s = r at hc h1 h2 ⊢
    obtain ⟨i0, hi, hz0, hz1, hz2⟩ := info_parts infoStr
    have HR := Lib.hid (And.intro hi (And.intro hz0 (And.intro hz1 hz2)))
    have hio := fun A c W h => impl_inOrder A (turnsB s r.size) c W h (by rw [turnsB_length]; omega)
    generalize ordB (turnsB s r.size) = R at hio ⊢
    replace hio := Lib.hid hio
    have htl := Lib.hid (fun k => turnsB_length s k)
    replace hc := Lib.hid hc
    clear hi hz0 hz1 hz2 hq hrs h60
    go_enter Tryd.func14, Tryd.ntmps14
    go_wp2_with fail
    refine (hc.out _).mono ?_
    rintro e w1 ⟨rfl, hB⟩
    have HB := Lib.hid hB
    clear hB
    go_wp2
    go_loopw [7, 19] (fun v i wr => ∃ k : Nat, k ≤ r.size ∧ i = .int .i64 k ∧ wr.ownsRow w.heap.size 9 1 v k (strs (turnsB s k)) ∧ Below w.heap.size w wr)
      (fun _ i _ => r.size - (intOf i).toNat)
    case atStart => exact ⟨0, Nat.zero_le _, rfl, World.ownsRow_nil _ _ _ _, HB.out⟩
    case round =>
      obtain ⟨k, hk, rfl, ho, hB⟩ := hrel
      obtain ⟨Ar, cr, rfl⟩ := own_slice ho
      have hO := Lib.hid (And.intro ho hB)
      clear ho hB
      by_cases hlt : k < r.size
      · have Hs := Lib.hid (show turnsB s (k + 1) = turnsB s k ++ [s.extract k s.size ++ s.extract 0 k] from turnsB_succ s k)
        have hk0 : (0 : Int) ≤ (k : Int) := by omega
        have hks : k ≤ s.size := by omega
        have hk1 : (k : Int) ≤ (s.size : Int) := by omega
        have hA9 : ¬ (9223372036854775807 < s.size) := by omega
        have hV0 := Lib.hid (show ((wr.alloc (.cells #[.string (s.extract k s.size ++ s.extract 0 k)] 9)).drew).ownsRow w.heap.size 9 1 (.slice Ar k cr) k (strs (turnsB s k)) from hO.out.1.alloc _)
        have hBW := Lib.hid (show Below w.heap.size w ((wr.alloc (.cells #[.string (s.extract k s.size ++ s.extract 0 k)] 9)).drew) from (hO.out.2.alloc hO.out.2.size _).drew)
        have hc0 := Lib.hid (show ((wr.alloc (.cells #[.string (s.extract k s.size ++ s.extract 0 k)] 9)).drew).cell? ⟨wr.heap.size, 0, none⟩ = some (.string (s.extract k s.size ++ s.extract 0 k)) by
          show (wr.alloc _).cell? _ = _
          rw [World.cell?_alloc_at _ _ _ _ rfl]
          rfl)
        have hwz := hO.out.2.size
        go_wp2_with fail
        go_region_law (refine step_own_append _ rfl (.tmp 22) (.tmp 30) 27 rfl w.heap.size 9 i0 (.string ByteArray.empty) 1 16 Tryd.underlying27 HR.out.1 HR.out.2.1 HR.out.2.2.1 HR.out.2.2.2 rfl (by decide) (.slice Ar k cr) k (strs (turnsB s k)) (by simp [Act.eval]) hV0.out ⟨wr.heap.size, 0, none⟩ 1 1 [.string (s.extract k s.size ++ s.extract 0 k)] (by simp [Act.eval]) rfl (fun i u hu => by
          have hi0 : i = 0 := by
            have := (List.getElem?_eq_some_iff.1 hu).1
            simpa using this
          subst hi0
          simp at hu
          subst hu
          exact hc0.out) (one_text _) (by unfold maxLen; omega) (by omega) (by simp; omega) (fun v1 w6 ho1 hg1 => ?_))
        all_goals
          have hO2 := Lib.hid (And.intro ho1 (hBW.out.grown hg1 hBW.out.size (fun g hg => (hV0.out.lt g hg).1)))
          clear ho1 hg1
          go_wp2
          go_roundw
          case rel => exact ⟨k + 1, by omega, by go_num, by rw [Hs.out, strs_snoc]; exact hO2.out.1, hO2.out.2⟩
          case measure => simp [intOf]; omega
      · have hke : k = r.size := by omega
        subst hke
        have hrow := Row.of_own hO.out.1
        have hin := hio.out Ar cr wr hrow
        rw [htl.out] at hin
        have HI := Lib.hid hin
        clear hin hrow
        go_wp2_with fail
        refine HI.out.mono ?_
        rintro e w3 ⟨A3, c3, rfl, ho3, hB3⟩
        have hO3 := Lib.hid (And.intro (own_base ho3 hO.out.2.size) (hO.out.2.trans (hB3.mono hO.out.2.size)))
        clear ho3 hB3
        go_wp2
        go_ret2
        exact okStrs_of hO3.out.1 rfl hO3.out.2

theorem contains_iff (l t : List UInt8) : Lib.contains l t = true ↔ ∃ k, k + t.length ≤ l.length ∧ (l.drop k).take t.length = t := by
  unfold Lib.contains
  rw [decide_eq_true_eq]
  have hocc : ∀ k, Lib.occAt l t k = true ↔ (l.drop k).take t.length = t := fun k => by
    unfold Lib.occAt
    rw [List.isPrefixOf_iff_prefix, List.prefix_iff_eq_take]
    exact ⟨fun h => h.symm, fun h => h.symm⟩
  have hlen : ∀ k, (l.drop k).take t.length = t → k ≤ l.length → k + t.length ≤ l.length := fun k h hk => by
    have := congrArg List.length h
    rw [List.length_take, List.length_drop] at this
    omega
  rcases Lib.index_spec l t with ⟨h1, h2⟩ | ⟨i, h1, h2, h3, _⟩
  · constructor
    · intro h; omega
    · rintro ⟨k, hk, e⟩
      have := h2 k (by omega)
      rw [(hocc k).2 e] at this
      cases this
  · constructor
    · intro _
      exact ⟨i, hlen i ((hocc i).1 h3) h2, (hocc i).1 h3⟩
    · intro _; omega
theorem turns_contains {s t : ByteArray} (h : 1 ≤ s.size) : hasB (ordB (turnsB s s.size)) t = (decide (s.size = t.size) && Lib.contains (s ++ s).data.toList t.data.toList) := by
  have h1 : 1 ≤ s.data.toList.length := by rw [size_len]; exact h
  rw [Bool.eq_iff_iff, hasB_mem, mem_ord, mem_turnsB, Bool.and_eq_true, decide_eq_true_eq, contains_iff, ← size_len s, W.turn_inside _ _ h1, ByteArray.data_append, Array.toList_append, size_len, size_len]
set_option maxHeartbeats 1600000 in
theorem impl_AreTurns (m : Int) (s t : ByteArray) (w : World) (hm : Row w w.heap.size (some ⟨0, 0, none⟩) [.int .i64 m]) (hs : s.size ≤ 9223372036854775807) (ht : t.size ≤ 9223372036854775807) :
    Calls Tryd.prog 19 #[.string s, .string t] w fun e w' => e = .returned (.tuple #[.bool (atB s t), .bool (atOk s t)]) ∧ Below w.heap.size w w' := by
  have hc := fun W => have_two s t W hs ht
  unfold atB
  cases hq : atOk s t
  · rw [hq] at hc
    replace hc := Lib.hid hc
    clear hq hm
    go_enter Tryd.func19, Tryd.ntmps19
    go_wp2_with (go_at_call 29; refine (hc.out _).mono ?_; rintro e w1 ⟨rfl, hB⟩)
    go_ret2
    exact ⟨rfl, hB⟩
  · have hq2 := hq
    unfold atOk at hq2
    simp only [Bool.and_eq_true] at hq2
    have h60 := askB_size hq2.1
    rw [if_pos rfl, turns_contains h60.1]
    rw [hq] at hc
    obtain ⟨b, off, hbo, hbl, hcm⟩ := hm (by simp)
    have hcell : w.cell? ⟨0, 0, none⟩ = some (.int .i64 m) := by
      have := hcm 0 _ rfl
      injection hbo with hbo
      injection hbo with e1 e2
      subst e1
      rw [← e2] at this
      exact this
    have hml := World.block_lt_of_cell? _ _ hcell
    have hct := fun (u : World) (hB : Below w.heap.size w u) => Tryd.strings_Contains (s ++ s) t m u (by rw [ByteArray.size_append]; omega) ((hB.cell (p := ⟨0, 0, none⟩) hml).trans hcell)
    generalize Lib.contains (s ++ s).data.toList t.data.toList = cq at hct ⊢
    replace hc := Lib.hid hc
    replace hct := Lib.hid hct
    have hss : ¬ (9223372036854775807 < s.size + s.size) := by omega
    clear hq hq2 hcm hbo hcell hm
    by_cases hse : s.size = t.size
    · rw [decide_eq_true hse, Bool.true_and]
      have hse2 : (s.size : Int) = (t.size : Int) := by omega
      clear hse
      go_enter Tryd.func19, Tryd.ntmps19
      go_wp2_with fail
      refine (hc.out _).mono ?_
      rintro e w1 ⟨rfl, hB⟩
      have HB := Lib.hid hB
      clear hB
      go_wp2_with fail
      refine (hct.out _ HB.out).mono ?_
      rintro e w2 ⟨rfl, rfl⟩
      go_wp2
      go_ret2
      exact ⟨rfl, HB.out⟩
    · rw [decide_eq_false hse, Bool.false_and]
      have hse2 : ¬ (s.size : Int) = (t.size : Int) := by omega
      clear hse
      go_enter Tryd.func19, Tryd.ntmps19
      go_wp2_with fail
      refine (hc.out _).mono ?_
      rintro e w1 ⟨rfl, hB⟩
      have HB := Lib.hid hB
      clear hB
      go_wp2
      go_ret2
      exact ⟨rfl, HB.out⟩
theorem perOf_len (l : List UInt8) : (W.periodsOf l).length ≤ 1048576 := by
  cases h : W.good l
  · unfold W.periodsOf
    rw [h]
    simp
  · unfold W.periodsOf
    rw [h, if_pos rfl]
    have h1 := W.persI_length l (l.length + 1)
    unfold W.good at h
    simp only [Bool.and_eq_true, decide_eq_true_eq] at h
    omega
end Go.Proofs.YtmijimpfkbgngaaDoor
