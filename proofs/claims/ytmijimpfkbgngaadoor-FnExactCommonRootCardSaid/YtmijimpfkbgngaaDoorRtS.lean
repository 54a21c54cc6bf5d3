/-
  WHAT THIS FILE PROVES: periods, roots and turns of words: the specification's functions give the plain values; asked: lengths that an int holds.
-/
import Derived.Test.YtmijimpfkbgngaaDoorRt
import Derived.Test.YtmijimpfkbgngaaDoorWord
import Derived.Test.YtmijimpfkbgngaaDoorMemI
import Derived.Test.YtmijimpfkbgngaaDoorMemS
import Derived.Test.YtmijimpfkbgngaaDoorHas
import Derived.Test.YtmijimpfkbgngaaDoorInOrder
import Derived.Test.YtmijimpfkbgngaaDoorInt
import Derived.BigQuiet
import Derived.StillTailTactics
import Derived.OwnWalk
import Derived.Lib.ConvBytes
import Derived.Lib.AtoiErrMem
namespace Go.Proofs.YtmijimpfkbgngaaDoor
open Go.RowKit Go.Shelf

theorem own_drewN {w : World} {base e n : Nat} {v : Value} {vs : List Value} (h : w.ownsRow base e 1 v n vs) (k : Nat) : (w.drewN k).ownsRow base e 1 v n vs := own_below h (below_drewN (Below.refl _ _) k)
theorem size_len (s : ByteArray) : s.data.toList.length = s.size := (Lib.size_eq s).symm
theorem tail_data (s : ByteArray) (k : Nat) : (s.extract k s.size).data.toList = s.data.toList.drop k := by
  rw [ByteArray.data_extract, Array.toList_extract]
  simp only [List.extract_eq_take_drop]
  rw [List.take_of_length_le]
  rw [List.length_drop, size_len]
  exact Nat.le_refl _
theorem head_data (s : ByteArray) (k : Nat) : (s.extract 0 k).data.toList = s.data.toList.take k := by
  rw [Lib.extract_eq]
  simp
theorem per_beq (s : ByteArray) (k : Nat) : ((s.extract k s.size).toList == (s.extract 0 (s.size - k)).toList) = W.isPer s.data.toList k := by
  rw [Lib.toList_data, Lib.toList_data, tail_data, head_data]
  unfold W.isPer
  rw [size_len]
  by_cases h : s.data.toList.drop k = s.data.toList.take (s.size - k)
  · simp [h]
  · rw [decide_eq_false h]
    exact beq_eq_false_iff_ne.2 h
theorem empty_beq (s : ByteArray) : (s.toList == ([] : List UInt8)) = s.data.toList.isEmpty := by
  rw [Lib.toList_data]
  cases s.data.toList <;> rfl
/-- the root of a text -/
def rootB (s : ByteArray) : ByteArray := s.extract 0 (W.rootN s.data.toList)
def askB (s : ByteArray) : Bool := W.asked s.data.toList
theorem askB_size {s : ByteArray} (h : askB s = true) : 1 ≤ s.size ∧ s.size ≤ 60 := by
  have := W.asked_len h
  rwa [size_len] at this
theorem mod_castN (n k : Nat) : ((n : Int).tmod (k : Int)) = ((n % k : Nat) : Int) := by
  rw [Int.tmod_eq_emod_of_nonneg (by omega)]
  rfl

set_option maxHeartbeats 800000 in
theorem spec_bsAsked (s : ByteArray) (w : World) (hs : s.size ≤ 9223372036854775807) :
    Calls Tryd.prog 27 #[.string s] w fun e w' => e = .returned (.bool (askB s)) ∧ w = w' := by
  have hc := fun W => spec_wdGood s W hs
  have he := empty_beq s
  have hr : askB s = (W.good s.data.toList && !s.data.toList.isEmpty) := rfl
  rw [hr]
  generalize s.data.toList.isEmpty = q at he ⊢
  cases hg : W.good s.data.toList
  · rw [hg] at hc
    replace hc := Lib.hid hc
    clear hg hr
    go_enter Tryd.func27, Tryd.ntmps27
    go_wp2_with (go_at_call 36; refine (hc.out _).mono ?_; rintro e w1 ⟨rfl, rfl⟩)
    go_ret
    exact ⟨rfl, rfl⟩
  · rw [hg] at hc
    replace hc := Lib.hid hc
    clear hg hr
    cases q
    all_goals
      go_enter Tryd.func27, Tryd.ntmps27
      go_wp2_with (go_at_call 36; refine (hc.out _).mono ?_; rintro e w1 ⟨rfl, rfl⟩)
      go_ret
      exact ⟨rfl, rfl⟩

set_option maxHeartbeats 1600000 in
theorem spec_bsRoot (s : ByteArray) (w : World) (h0 : 1 ≤ s.size) (hs : s.size ≤ 60) :
    Calls Tryd.prog 28 #[.string s] w fun e w' => e = .returned (.string (rootB s)) ∧ Below w.heap.size w w' := by
  have hfirst : Hid (∀ q, q < 1 → W.isRt s.data.toList q = false) := fun q hq => by
    obtain rfl : q = 0 := by omega
    rfl
  have hroot : Hid (∀ k, k ≤ s.size → W.isRt s.data.toList k = true → (∀ q, q < k → W.isRt s.data.toList q = false) → rootB s = s.extract 0 k) := fun k hk h1 h2 => by
    unfold rootB
    rw [W.rootN_of _ k (by rw [size_len]; exact hk) h1 h2]
  go_enter Tryd.func28, Tryd.ntmps28
  go_wp2
  go_loopw [3] (fun i wr => ∃ k : Nat, 1 ≤ k ∧ k ≤ s.size ∧ i = .int .i64 k ∧ Hid (∀ q, q < k → W.isRt s.data.toList q = false) ∧ Below w.heap.size w wr) (fun i _ => s.size - (intOf i).toNat)
  case atStart => exact ⟨1, Nat.le_refl _, h0, rfl, hfirst, Below.refl _ _⟩
  case round =>
    obtain ⟨k, hk1, hk, rfl, hno, hB⟩ := hrel
    have HB := Lib.hid hB
    clear hB
    by_cases hlt : k < s.size
    · have hm := mod_castN s.size k
      have hrt : W.isRt s.data.toList k = (decide (s.size % k = 0) && W.isPer s.data.toList k) := by
        unfold W.isRt
        rw [size_len, decide_eq_true hk1, Bool.true_and]
      have hpb := per_beq s k
      by_cases hd : s.size % k = 0
      · rw [hd] at hm
        rw [decide_eq_true hd, Bool.true_and] at hrt
        cases hp : W.isPer s.data.toList k
        · rw [hp] at hpb hrt
          have hno2 : Hid (∀ q, q < k + 1 → W.isRt s.data.toList q = false) := fun q hq => by
            rcases Nat.lt_or_ge q k with h | h
            · exact hno.out q h
            · obtain rfl : q = k := by omega
              exact hrt
          clear hp hrt
          go_wp2
          go_quiet (fail)
          go_wp2
          go_roundw
          case rel => exact ⟨k + 1, by omega, by omega, by go_num, hno2, below_drewN HB.out _⟩
          case measure => simp [intOf]; omega
        · rw [hp] at hpb hrt
          have hres := Lib.hid (hroot.out k hk hrt hno.out)
          clear hp hrt hroot
          go_wp2
          go_quiet (fail)
          go_wp2
          go_ret
          refine ⟨?_, below_drewN HB.out _⟩
          rw [hres.out]
          rfl
      · rw [decide_eq_false hd, Bool.false_and] at hrt
        have hno2 : Hid (∀ q, q < k + 1 → W.isRt s.data.toList q = false) := fun q hq => by
          rcases Nat.lt_or_ge q k with h | h
          · exact hno.out q h
          · obtain rfl : q = k := by omega
            exact hrt
        clear hrt hpb
        have hz : ((s.size : Int) % (k : Int) == 0) = false := by
          rw [beq_eq_false_iff_ne]
          show ((s.size % k : Nat) : Int) ≠ 0
          omega
        clear hm hd
        go_wp2
        go_quiet (fail)
        go_wp2
        go_roundw
        case rel => exact ⟨k + 1, by omega, by omega, by go_num, hno2, below_drewN HB.out _⟩
        case measure => simp [intOf]; omega
    · obtain rfl : k = s.size := by omega
      have hres := Lib.hid (hroot.out s.size hk (by rw [← size_len]; exact W.isRt_all _ (by rw [size_len]; exact h0)) hno.out)
      clear hroot
      go_wp2
      go_ret
      refine ⟨?_, HB.out⟩
      rw [hres.out, ByteArray.extract_zero_size]
      rfl

/-- what RootOf tells -/
def rtT (s : ByteArray) : ByteArray := if askB s then rootB s else ⟨#[]⟩
def rtN (s : ByteArray) : Int := if askB s then ((s.size / (rootB s).size : Nat) : Int) else 0
theorem rootB_size {s : ByteArray} (h : 1 ≤ s.size) : 1 ≤ (rootB s).size ∧ (rootB s).size ≤ s.size := by
  have h1 : 1 ≤ s.data.toList.length := by rw [size_len]; exact h
  have h2 := W.rootN_pos _ h1
  have h3 := (W.rootN_spec _ h1).2.1
  have e : (rootB s).size = W.rootN s.data.toList := by
    unfold rootB
    rw [ByteArray.size_extract, Nat.sub_zero, Nat.min_eq_left (by rw [← size_len]; exact h3)]
  rw [e]
  rw [size_len] at h3
  exact ⟨h2, h3⟩
set_option maxHeartbeats 800000 in
theorem spec_RootOf (s : ByteArray) (w : World) (hs : s.size ≤ 9223372036854775807) :
    Calls Tryd.prog 9 #[.string s] w fun e w' => e = .returned (.tuple #[.string (rtT s), .int .i64 (rtN s), .bool (askB s)]) ∧ Below w.heap.size w w' := by
  have hc := fun W => spec_bsAsked s W hs
  unfold rtT rtN
  cases hq : askB s
  · rw [hq] at hc
    replace hc := Lib.hid hc
    clear hq
    go_enter Tryd.func9, Tryd.ntmps9
    go_wp2_with (go_at_call 27; refine (hc.out _).mono ?_; rintro e w1 ⟨rfl, rfl⟩)
    go_ret3
    exact ⟨rfl, Below.refl _ _⟩
  · have h60 := askB_size hq
    have hrs := rootB_size h60.1
    have hr := fun W => spec_bsRoot s W h60.1 h60.2
    have hdv : wrap64 ((s.size : Int) / ((rootB s).size : Int)) = ((s.size / (rootB s).size : Nat) : Int) := by
      show wrap64 ((s.size / (rootB s).size : Nat) : Int) = _
      have h := Nat.div_le_self s.size (rootB s).size
      generalize s.size / (rootB s).size = q at h ⊢
      exact IntWalk.wrap64_in _ (by omega)
    rw [hq] at hc
    have Hdv := Lib.hid hdv
    clear hdv
    generalize rootB s = r at hr hrs Hdv ⊢
    replace hc := Lib.hid hc
    replace hr := Lib.hid hr
    have h1 := hrs.1
    have h2 := hrs.2
    have h3 := h60.2
    clear hq hrs h60
    go_enter Tryd.func9, Tryd.ntmps9
    go_wp2_with (first | (go_at_call 27; refine (hc.out _).mono ?_; rintro e w1 ⟨rfl, rfl⟩) | (go_at_call 28; refine (hr.out _).mono ?_; rintro e w1 ⟨rfl, hB⟩))
    have HB := Lib.hid hB
    clear hB
    go_quiet (fail)
    go_wp2
    go_ret3
    refine ⟨?_, below_drewN HB.out _⟩
    have h := Hdv.out
    show Ending.returned (.tuple #[.string r, .int .i64 (wrap64 ((s.size : Int) / (r.size : Int))), .bool true]) = _
    rw [h]
    rfl

/-- what IsPrimitive tells -/
def prB (s : ByteArray) : Bool := if askB s then (rootB s).toList == s.toList else false
set_option maxHeartbeats 800000 in
theorem spec_IsPrimitive (s : ByteArray) (w : World) (hs : s.size ≤ 9223372036854775807) :
    Calls Tryd.prog 11 #[.string s] w fun e w' => e = .returned (.tuple #[.bool (prB s), .bool (askB s)]) ∧ Below w.heap.size w w' := by
  have hc := fun W => spec_bsAsked s W hs
  unfold prB
  cases hq : askB s
  · rw [hq] at hc
    replace hc := Lib.hid hc
    clear hq
    go_enter Tryd.func11, Tryd.ntmps11
    go_wp2_with (go_at_call 27; refine (hc.out _).mono ?_; rintro e w1 ⟨rfl, rfl⟩)
    go_ret2
    exact ⟨rfl, Below.refl _ _⟩
  · have h60 := askB_size hq
    have hr := fun W => spec_bsRoot s W h60.1 h60.2
    rw [hq] at hc
    generalize rootB s = r at hr ⊢
    replace hc := Lib.hid hc
    replace hr := Lib.hid hr
    clear hq h60
    go_enter Tryd.func11, Tryd.ntmps11
    go_wp2_with (first | (go_at_call 27; refine (hc.out _).mono ?_; rintro e w1 ⟨rfl, rfl⟩) | (go_at_call 28; refine (hr.out _).mono ?_; rintro e w1 ⟨rfl, hB⟩))
    go_ret2
    exact ⟨rfl, hB⟩

/-- what CommonRoot tells -/
def crOk (s t : ByteArray) : Bool := askB s && (askB t && ((s ++ t).toList == (t ++ s).toList))
def crT (s t : ByteArray) : ByteArray := if crOk s t then rootB s else ⟨#[]⟩
set_option maxHeartbeats 1600000 in
theorem spec_CommonRoot (s t : ByteArray) (w : World) (hs : s.size ≤ 9223372036854775807) (ht : t.size ≤ 9223372036854775807) :
    Calls Tryd.prog 20 #[.string s, .string t] w fun e w' => e = .returned (.tuple #[.string (crT s t), .bool (crOk s t)]) ∧ Below w.heap.size w w' := by
  have hc := fun W => spec_bsAsked s W hs
  have hd := fun W => spec_bsAsked t W ht
  unfold crT
  cases hq : askB s
  · rw [show crOk s t = false by unfold crOk; rw [hq]; rfl]
    rw [hq] at hc
    replace hc := Lib.hid hc
    clear hq hd
    go_enter Tryd.func20, Tryd.ntmps20
    go_wp2_with (go_at_call 27; refine (hc.out _).mono ?_; rintro e w1 ⟨rfl, rfl⟩)
    go_ret2
    exact ⟨rfl, Below.refl _ _⟩
  · have h60 := askB_size hq
    have hr := fun W => spec_bsRoot s W h60.1 h60.2
    rw [hq] at hc
    cases hq2 : askB t
    · rw [show crOk s t = false by unfold crOk; rw [hq2]; simp]
      rw [hq2] at hd
      replace hc := Lib.hid hc
      replace hd := Lib.hid hd
      clear hq hq2 hr
      go_enter Tryd.func20, Tryd.ntmps20
      go_wp2_with fail
      refine (hc.out _).mono ?_
      rintro e w1 ⟨rfl, rfl⟩
      go_wp2_with fail
      refine (hd.out _).mono ?_
      rintro e w1 ⟨rfl, rfl⟩
      go_wp2
      go_ret2
      exact ⟨rfl, Below.refl _ _⟩
    · have h60t := askB_size hq2
      rw [hq2] at hd
      have hst : s.size + t.size ≤ 120 := by omega
      cases hcm : ((s ++ t).toList == (t ++ s).toList)
      · rw [show crOk s t = false by unfold crOk; rw [hq, hq2, hcm]; rfl]
        replace hc := Lib.hid hc
        replace hd := Lib.hid hd
        clear hq hq2 hr
        go_enter Tryd.func20, Tryd.ntmps20
        go_wp2_with fail
        refine (hc.out _).mono ?_
        rintro e w1 ⟨rfl, rfl⟩
        go_wp2_with fail
        refine (hd.out _).mono ?_
        rintro e w1 ⟨rfl, rfl⟩
        go_wp2
        go_ret2
        exact ⟨rfl, Below.refl _ _⟩
      · rw [show crOk s t = true by unfold crOk; rw [hq, hq2, hcm]; rfl, if_pos rfl]
        generalize rootB s = r at hr ⊢
        replace hc := Lib.hid hc
        replace hd := Lib.hid hd
        replace hr := Lib.hid hr
        clear hq hq2
        go_enter Tryd.func20, Tryd.ntmps20
        go_wp2_with fail
        refine (hc.out _).mono ?_
        rintro e w1 ⟨rfl, rfl⟩
        go_wp2_with fail
        refine (hd.out _).mono ?_
        rintro e w1 ⟨rfl, rfl⟩
        go_wp2_with (go_at_call 28; refine (hr.out _).mono ?_; rintro e w1 ⟨rfl, hB⟩)
        go_ret2
        exact ⟨rfl, hB⟩

set_option maxHeartbeats 1600000 in
theorem spec_PeriodsOf (s : ByteArray) (w : World) (hs : s.size ≤ 9223372036854775807) :
    Calls Tryd.prog 22 #[.string s] w (OkInts w (W.periodsOf s.data.toList) (W.good s.data.toList)) := by
  cases h1 : W.good s.data.toList
  · have hr : W.periodsOf s.data.toList = [] := by unfold W.periodsOf; rw [h1]; rfl
    rw [hr]
    have hc := Lib.hid (fun W => spec_wdGood s W hs)
    rw [h1] at hc
    clear hr h1
    go_enter Tryd.func22, Tryd.ntmps22
    go_wp2_with (go_at_call 36; refine (hc.out _).mono ?_; rintro e w1 ⟨rfl, rfl⟩)
    go_ret2
    exact okInts_nil _ _ _ (Below.refl _ _)
  · have hr : W.periodsOf s.data.toList = W.persI s.data.toList (s.size + 1) := by unfold W.periodsOf; rw [h1, size_len]; rfl
    have h60 : s.size ≤ 60 := by
      have := h1
      unfold W.good at this
      simp only [Bool.and_eq_true, decide_eq_true_eq] at this
      have h := this.1
      rwa [size_len] at h
    have hc := Lib.hid (fun W => spec_wdGood s W hs)
    rw [h1] at hc
    obtain ⟨i0, hi, hz0, hz1, hz2⟩ := info_parts infoInt
    have HR := Lib.hid (And.intro hr (And.intro hi (And.intro hz0 (And.intro hz1 hz2))))
    clear hr hi hz0 hz1 hz2 h1
    go_enter Tryd.func22, Tryd.ntmps22
    go_wp2_with (go_at_call 36; refine (hc.out _).mono ?_; rintro e w1 ⟨rfl, rfl⟩)
    go_loopw [4, 5] (fun v i wr => ∃ k : Nat, 1 ≤ k ∧ k ≤ s.size + 1 ∧ i = .int .i64 k ∧ wr.ownsRow w.heap.size 3 1 v (W.persI s.data.toList k).length (ints (W.persI s.data.toList k)) ∧ Below w.heap.size w wr)
      (fun _ i _ => s.size + 1 - (intOf i).toNat)
    case atStart => exact ⟨1, Nat.le_refl _, by omega, rfl, by rw [W.persI_one]; exact World.ownsRow_nil _ _ _ _, Below.refl _ _⟩
    case round =>
      obtain ⟨k, hk1, hk2, rfl, ho, hB⟩ := hrel
      by_cases hlt : k ≤ s.size
      · have Hs := Lib.hid (W.persI_succ s.data.toList k hk1)
        have hlen := W.persI_length s.data.toList k
        have hpb := per_beq s k
        cases hq : W.isPer s.data.toList k
        · rw [hq] at hpb
          have Hq := Lib.hid hq
          have hO := Lib.hid (And.intro ho hB)
          clear hq ho hB
          go_wp2
          go_quiet (fail)
          go_wp2
          go_roundw
          case rel =>
            refine ⟨k + 1, by omega, by omega, by go_num, ?_, below_drewN hO.out.2 _⟩
            rw [Hs.out, Hq.out]
            simpa using own_drewN hO.out.1 _
          case measure => simp [intOf]; omega
        · rw [hq] at hpb
          have Hq := Lib.hid hq
          have hO := Lib.hid (And.intro ho hB)
          clear hq ho hB
          go_wp2
          go_quiet (fail)
          have hO1 := Lib.hid (And.intro (own_drewN hO.out.1 nq) (below_drewN hO.out.2 nq))
          generalize wr.drewN nq = wq at hO1 ⊢
          go_wp2_with (at_builtin; refine wpList_append_own _ rfl _ _ 36 rfl w.heap.size 3 i0 (.int .i64 0) 1 8 Tryd.underlying36 HR.out.2.1 HR.out.2.2.1 HR.out.2.2.2.1 HR.out.2.2.2.2 rfl (by decide) _ _ _ rfl (hO1.out.1.alloc _) ⟨wq.heap.size, 0, none⟩ 1 1 [.int .i64 k] rfl rfl ?c1 ?c2 ?c3 ?c4 ?c5 ?_)
          case c1 => exact cell_one_new _ _ _
          case c2 => exact one_cell _
          case c3 => unfold maxLen; omega
          case c4 => omega
          case c5 => have := hO1.out.2.size; simp; omega
          intro v' w1 hown' hgrow _
          have hO2 := Lib.hid (And.intro hown' hgrow)
          clear hown' hgrow
          go_wp2
          go_roundw
          case rel =>
            refine ⟨k + 1, by omega, by omega, by go_num, ?_, ?_⟩
            · rw [Hs.out, Hq.out]
              have := hO2.out.1
              unfold ints at this ⊢
              simpa using this
            · have hlt := hO1.out.1.lt
              exact (hO1.out.2.alloc hO1.out.2.size _).grown hO2.out.2 (by have := hO1.out.2.size; simp; omega) (fun g hg => (hlt g hg).1)
          case measure => simp [intOf]; omega
      · have hO := Lib.hid (And.intro ho hB)
        clear ho hB
        have hkk : k = s.size + 1 := by omega
        go_wp2
        go_ret2
        rw [HR.out.1, ← hkk]
        exact okInts_of hO.out.1 rfl hO.out.2

/-- the text from a place on, and behind it what is in front of this -/
def turnB (s : ByteArray) (k : Nat) : ByteArray := s.extract k s.size ++ s.extract 0 k
theorem turnB_data (s : ByteArray) (k : Nat) : (turnB s k).data.toList = W.turn s.data.toList k := by
  unfold turnB W.turn
  rw [ByteArray.data_append, Array.toList_append, tail_data, head_data]
def turnsB (s : ByteArray) (k : Nat) : List ByteArray := (List.range k).map (turnB s)
theorem turnsB_length (s : ByteArray) (k : Nat) : (turnsB s k).length = k := by simp [turnsB]
theorem turnsB_succ (s : ByteArray) (k : Nat) : turnsB s (k + 1) = turnsB s k ++ [turnB s k] := by
  unfold turnsB
  rw [List.range_succ, List.map_append]
  rfl
set_option maxHeartbeats 1600000 in
set_option maxRecDepth 100000 in
theorem spec_bsTurns (s : ByteArray) (w : World) (h60 : s.size ≤ 60) :
    Calls Tryd.prog 31 #[.string s] w (GivesStrs w (ordB (turnsB s s.size))) := by
  have hcv := Lib.run_convert_string_bytes w 9 43 5 s Tryd.underlying9 Tryd.underlying43 Tryd.underlying5
  have hb0 := Lib.bytesWorld_below w 5 s
  have Hb := Lib.hid hb0
  clear hb0
  generalize Lib.bytesWorld w 5 s = wb at hcv Hb
  go_enter Tryd.func31, Tryd.ntmps31
  go_wp2
  go_loopw [3, 8] (fun v i wr => ∃ k : Nat, k ≤ s.size ∧ i = .int .i64 k ∧ wr.ownsRow w.heap.size 9 1 v (ordB (turnsB s k)).length (strs (ordB (turnsB s k))) ∧ Below w.heap.size w wr)
    (fun _ i _ => s.size - (intOf i).toNat)
  case atStart => exact ⟨0, Nat.zero_le _, rfl, World.ownsRow_nil _ _ _ _, Hb.out⟩
  case round =>
    obtain ⟨k, hk, rfl, ho, hB⟩ := hrel
    obtain ⟨Ar, cr, rfl⟩ := own_slice ho
    have hO := Lib.hid (And.intro ho hB)
    clear ho hB
    by_cases hlt : k < s.size
    · have Hs := Lib.hid (show ordB (turnsB s (k + 1)) = putB (ordB (turnsB s k)) (s.extract k s.size ++ s.extract 0 k) by rw [turnsB_succ, ord_snoc]; rfl)
      have hn := ord_length (turnsB s k)
      rw [turnsB_length] at hn
      have ho2 := hO.out.1.drew
      have hB2 := hO.out.2.drew
      have hput := spec_wdPut w.heap.size Ar (ordB (turnsB s k)) cr (s.extract k s.size ++ s.extract 0 k) wr.drew ho2 hB2.size (by omega)
      have H2 := Lib.hid (And.intro hput hB2)
      clear ho2 hB2 hput
      generalize ordB (turnsB s k) = acc at hO Hs H2
      have hk0 : (0 : Int) ≤ (k : Int) := by omega
      have hk1 : (k : Int) ≤ (s.size : Int) := by omega
      have hA9 : ¬ (9223372036854775807 < s.size) := by omega
      go_wp2
      go_still_tail 8, (by kernel_rfl)
      change wpList _ _ _ _ _ wr.drew
      generalize wr.drew = w2 at H2 ⊢
      go_wp2_with fail
      refine H2.out.1.mono ?_
      rintro e w3 ⟨A2, c2, rfl, ho3, hB3⟩
      have hO2 := Lib.hid (And.intro ho3 (H2.out.2.trans (hB3.mono H2.out.2.size)))
      clear ho3 hB3
      go_wp2
      go_roundw
      case rel => exact ⟨k + 1, by omega, by go_num, by rw [Hs.out]; exact hO2.out.1, hO2.out.2⟩
      case measure => simp [intOf]; omega
    · have hke : k = s.size := by omega
      subst hke
      generalize hg : ordB (turnsB s s.size) = acc at hO
      have Hg := Lib.hid hg
      clear hg
      go_wp2
      go_ret
      rw [Hg.out]
      exact ⟨Ar, cr, rfl, hO.out.1, hO.out.2⟩

/-- what TurnsOf tells -/
def tuOf (s : ByteArray) : List ByteArray := if askB s then ordB (turnsB s s.size) else []
theorem tuOf_no {s : ByteArray} (h : askB s = false) : tuOf s = [] := by unfold tuOf; rw [h]; rfl
theorem tuOf_yes {s : ByteArray} (h : askB s = true) : tuOf s = ordB (turnsB s s.size) := by unfold tuOf; rw [h]; rfl
theorem tuOf_len (s : ByteArray) : (tuOf s).length ≤ 60 := by
  cases h : askB s
  · rw [tuOf_no h]; simp
  · rw [tuOf_yes h]
    have h1 := ord_length (turnsB s s.size)
    rw [turnsB_length] at h1
    have := (askB_size h).2
    omega
set_option maxHeartbeats 800000 in
theorem spec_TurnsOf (s : ByteArray) (w : World) (hs : s.size ≤ 9223372036854775807) :
    Calls Tryd.prog 13 #[.string s] w (OkStrs w (tuOf s) (askB s)) := by
  have hc := fun W => spec_bsAsked s W hs
  cases hq : askB s
  · rw [tuOf_no hq]
    rw [hq] at hc
    replace hc := Lib.hid hc
    clear hq
    go_enter Tryd.func13, Tryd.ntmps13
    go_wp2_with (go_at_call 27; refine (hc.out _).mono ?_; rintro e w1 ⟨rfl, rfl⟩)
    go_ret2
    exact okStrs_nil _ _ _ (Below.refl _ _)
  · rw [tuOf_yes hq]
    have hr := fun W => spec_bsTurns s W (askB_size hq).2
    rw [hq] at hc
    generalize ordB (turnsB s s.size) = acc at hr ⊢
    replace hc := Lib.hid hc
    replace hr := Lib.hid hr
    clear hq
    go_enter Tryd.func13, Tryd.ntmps13
    go_wp2_with fail
    refine (hc.out _).mono ?_
    rintro e w1 ⟨rfl, rfl⟩
    go_wp2_with fail
    refine (hr.out _).mono ?_
    rintro e w1 ⟨A1, c1, rfl, ho, hB⟩
    have HO := Lib.hid (And.intro ho hB)
    clear ho hB
    go_wp2
    go_ret2
    exact okStrs_of HO.out.1 rfl HO.out.2

/-- what AreTurns tells -/
def atOk (s t : ByteArray) : Bool := askB s && askB t
def atB (s t : ByteArray) : Bool := if atOk s t then hasB (ordB (turnsB s s.size)) t else false
set_option maxHeartbeats 1600000 in
theorem spec_AreTurns (s t : ByteArray) (w : World) (hs : s.size ≤ 9223372036854775807) (ht : t.size ≤ 9223372036854775807) :
    Calls Tryd.prog 18 #[.string s, .string t] w fun e w' => e = .returned (.tuple #[.bool (atB s t), .bool (atOk s t)]) ∧ Below w.heap.size w w' := by
  have hc := fun W => spec_bsAsked s W hs
  have hd := fun W => spec_bsAsked t W ht
  unfold atB
  cases hq : askB s
  · rw [show atOk s t = false by unfold atOk; rw [hq]; rfl]
    rw [hq] at hc
    replace hc := Lib.hid hc
    clear hq hd
    go_enter Tryd.func18, Tryd.ntmps18
    go_wp2_with (go_at_call 27; refine (hc.out _).mono ?_; rintro e w1 ⟨rfl, rfl⟩)
    go_ret2
    exact ⟨rfl, Below.refl _ _⟩
  · have h60 := askB_size hq
    rw [hq] at hc
    cases hq2 : askB t
    · rw [show atOk s t = false by unfold atOk; rw [hq2]; simp]
      rw [hq2] at hd
      replace hc := Lib.hid hc
      replace hd := Lib.hid hd
      clear hq hq2
      go_enter Tryd.func18, Tryd.ntmps18
      go_wp2_with fail
      refine (hc.out _).mono ?_
      rintro e w1 ⟨rfl, rfl⟩
      go_wp2_with fail
      refine (hd.out _).mono ?_
      rintro e w1 ⟨rfl, rfl⟩
      go_wp2
      go_ret2
      exact ⟨rfl, Below.refl _ _⟩
    · rw [hq2] at hd
      rw [show atOk s t = true by unfold atOk; rw [hq, hq2]; rfl, if_pos rfl]
      have hr := fun W => spec_bsTurns s W h60.2
      have hln := ord_length (turnsB s s.size)
      rw [turnsB_length] at hln
      generalize ordB (turnsB s s.size) = acc at hr hln ⊢
      have hh := fun A c W h => spec_wdHas A acc c t W h (by omega)
      generalize hasB acc t = q at hh ⊢
      replace hc := Lib.hid hc
      replace hd := Lib.hid hd
      replace hr := Lib.hid hr
      replace hh := Lib.hid hh
      clear hq hq2
      go_enter Tryd.func18, Tryd.ntmps18
      go_wp2_with fail
      refine (hc.out _).mono ?_
      rintro e w1 ⟨rfl, rfl⟩
      go_wp2_with fail
      refine (hd.out _).mono ?_
      rintro e w1 ⟨rfl, rfl⟩
      go_wp2_with fail
      refine (hr.out _).mono ?_
      rintro e w1 ⟨A1, c1, rfl, ho, hB⟩
      have HO := Lib.hid (And.intro ho hB)
      clear ho hB
      go_wp2_with fail
      refine (hh.out _ _ _ (Row.of_own HO.out.1)).mono ?_
      rintro e w2 ⟨rfl, rfl⟩
      go_wp2
      go_ret2
      exact ⟨rfl, HO.out.2⟩

end Go.Proofs.YtmijimpfkbgngaaDoor
