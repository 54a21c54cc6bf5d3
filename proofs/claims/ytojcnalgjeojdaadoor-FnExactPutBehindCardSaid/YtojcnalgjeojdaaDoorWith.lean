/-
  WHAT THIS FILE PROVES: a set without the word with an index: the specification's and the program's functions hand back slices of their own that read the same; asked: a row that lies in memory, lengths that an int holds.
-/
import Derived.Test.YtojcnalgjeojdaaDoorIsSet
import Derived.Test.YtojcnalgjeojdaaDoorSConcat
namespace Go.Proofs.YtojcnalgjeojdaaDoor
open Go.RowKit Go.Shelf

theorem info5 : ∃ i0, Tryd.prog.info? 9 = some i0 ∧ i0.zero = some (.string ByteArray.empty) ∧ i0.size = 1 ∧ i0.bytes = 16 := by
  obtain ⟨i0, hi, h⟩ := info_parts infoStr
  exact ⟨i0, hi, h⟩
def withOk (ss : List ByteArray) (n : Int) : Bool := W.isSet ss && decide (0 ≤ n ∧ n < ss.length)
def withOf (ss : List ByteArray) (n : Int) : List ByteArray := if withOk ss n then ss.take n.toNat ++ ss.drop (n.toNat + 1) else []
theorem withOf_no (ss : List ByteArray) (n : Int) (h : withOk ss n = false) : withOf ss n = [] := by unfold withOf; rw [h]; rfl

/-- the call that the program makes: the two slices lie in a block of its own. -/
theorem concat2_new (A1 A2 : Option Addr) (s1 s2 : List ByteArray) (n1 n2 c1 c2 : Nat) (w w1 : World) (hB : Below w.heap.size w w1) (e1 : s1.length = n1) (e2 : s2.length = n2)
    (h1 : Row w w.heap.size A1 (strs s1)) (h2 : Row w w.heap.size A2 (strs s2)) (l1 : s1.length ≤ 262144) (l2 : s2.length ≤ 262144) :
    Calls Tryd.prog 54 #[.slice (some ⟨w1.heap.size, 0, none⟩) 2 2] ((w1.alloc (.cells #[.slice A1 n1 c1, .slice A2 n2 c2] 22)).drew)
      fun e w2 => ∃ v, e = .returned v ∧ w2.ownsRow w.heap.size 9 1 v (s1 ++ s2).length (strs (s1 ++ s2)) ∧ Below w.heap.size w w2 := by
  subst e1 e2
  have hBa : Below w.heap.size w ((w1.alloc (.cells #[.slice A1 s1.length c1, .slice A2 s2.length c2] 22)).drew) := (hB.alloc hB.size _).drew
  refine (slices_Concat2 w1.heap.size A1 A2 s1 s2 c1 c2 _ ?_ ?_ ?_ ((h1.below hBa).more hBa.size) ((h2.below hBa).more hBa.size) l1 l2).mono ?_
  · show w1.heap.size < (w1.heap.push _).size
    rw [Array.size_push]; omega
  · show (w1.alloc _).cell? _ = _
    rw [World.cell?_alloc_at _ _ _ _ rfl]
    rfl
  · show (w1.alloc _).cell? _ = _
    rw [World.cell?_alloc_at _ _ _ _ rfl]
    rfl
  · rintro e w2 ⟨A, c, rfl, ho, hB2⟩
    exact ⟨_, rfl, own_base ho hBa.size, hBa.trans (hB2.mono hBa.size)⟩

set_option maxHeartbeats 3200000 in
theorem impl_WithoutWord (A : Option Addr) (ss : List ByteArray) (c : Nat) (n : Int) (w : World) (h : Row w w.heap.size A (strs ss)) (hcap : ss.length ≤ c) (hl : ss.length ≤ 9223372036854775807) (hs : ∀ s ∈ ss, s.size ≤ 9223372036854775807) (hna : -9223372036854775808 ≤ n) (hnb : n ≤ 9223372036854775807) :
    Calls Tryd.prog 49 #[.slice A ss.length c, .int .i64 n] w (OkStrs w (withOf ss n) (withOk ss n)) := by
  have hc := impl_IsSet A ss c w h hl hs
  cases hq : W.isSet ss
  · have hno : withOk ss n = false := by unfold withOk; rw [hq]; rfl
    rw [withOf_no ss n hno, hno]
    rw [hq] at hc
    replace hc := Lib.hid hc
    clear hno hq h hs
    go_enter Tryd.func49, Tryd.ntmps49
    go_wp2_with (go_at_call 34; refine hc.out.mono ?_; rintro e w1 ⟨rfl, hB⟩)
    go_ret2
    exact okStrs_nil _ _ _ hB
  · rw [hq] at hc
    replace hc := Lib.hid hc
    by_cases hn0 : n < 0
    · have hno : withOk ss n = false := by unfold withOk; rw [hq, decide_eq_false (by omega)]; rfl
      rw [withOf_no ss n hno, hno]
      clear hno hq h hs
      go_enter Tryd.func49, Tryd.ntmps49
      go_wp2_with (go_at_call 34; refine hc.out.mono ?_; rintro e w1 ⟨rfl, hB⟩)
      go_ret2
      exact okStrs_nil _ _ _ hB
    · by_cases hn1 : (ss.length : Int) ≤ n
      · have hno : withOk ss n = false := by unfold withOk; rw [hq, decide_eq_false (by omega)]; rfl
        rw [withOf_no ss n hno, hno]
        clear hno hq h hs
        go_enter Tryd.func49, Tryd.ntmps49
        go_wp2_with (go_at_call 34; refine hc.out.mono ?_; rintro e w1 ⟨rfl, hB⟩)
        go_ret2
        exact okStrs_nil _ _ _ hB
      · obtain ⟨k, rfl⟩ := Int.eq_ofNat_of_zero_le (show 0 ≤ n by omega)
        have hk : k < ss.length := by omega
        have hok : withOk ss k = true := by unfold withOk; rw [hq, decide_eq_true (by omega)]; rfl
        have hv : withOf ss k = ss.take k ++ ss.drop (k + 1) := by unfold withOf; rw [hok, if_pos rfl, Int.toNat_natCast]
        rw [hv, hok]
        have h12 := W.isSet_len ss hq
        obtain ⟨b, off, rfl, hb, _⟩ := h (by rw [strs_length]; omega)
        have hf := Lib.hid (h.front k)
        have hbk := Lib.hid (h.back (k + 1))
        have hwr : IntKind.i64.wrap ((k : Int) + 1) = (k : Int) + 1 := IntWalk.i64_in _ (by omega)
        have hkn : ((k : Int) + 1).toNat = k + 1 := by omega
        have hk0 : (0 : Int) ≤ (k : Int) + 1 := by omega
        have hkc : (k : Int) + 1 ≤ (ss.length : Int) := by omega
        have hkc0 : (k : Int) ≤ (c : Int) := by omega
        have hlt0 := Lib.hid (show (ss.take k).length = k by rw [List.length_take]; omega)
        have hld0 := Lib.hid (show (ss.drop (k + 1)).length = ss.length - (k + 1) by rw [List.length_drop])
        clear hq hs hok hv h hn0 hn1
        go_enter Tryd.func49, Tryd.ntmps49
        by_cases hck : c = k + 1
        · have hR2 : Hid (∀ W : World, Row W W.heap.size (some ⟨b, off, none⟩) (strs (ss.drop (k + 1)))) := fun W hp => by
            rw [strs_length, hld0.out] at hp
            omega
          have hl0 : ss.length - (k + 1) = 0 := by omega
          rw [hl0] at hld0
          subst hck
          have hkk : (k : Int) ≤ (k : Int) + 1 := by omega
          go_wp2_with (go_at_call 34; refine hc.out.mono ?_; rintro e w1 ⟨rfl, hB⟩)
          replace hB := Lib.hid hB
          have hcc := Lib.hid (concat2_new (some ⟨b, off, none⟩) (some ⟨b, off, none⟩) (ss.take k) (ss.drop (k + 1)) k 0 (k + 1) 0 w w1 hB.out hlt0.out hld0.out (by have := hf.out; rwa [strs_take] at this) (hR2.out w) (by rw [hlt0.out]; omega) (by rw [hld0.out]; omega))
          go_region_with (go_at_call 54; refine hcc.out.mono ?_; rintro e w2 ⟨v, rfl, ho2, hB2⟩)
          all_goals
            have hF := Lib.hid (And.intro ho2 hB2)
            clear ho2 hB2
            go_wp2
            go_ret2
            exact okStrs_of hF.out.1 rfl hF.out.2
        · go_wp2_with (go_at_call 34; refine hc.out.mono ?_; rintro e w1 ⟨rfl, hB⟩)
          replace hB := Lib.hid hB
          have hcc := Lib.hid (concat2_new (some ⟨b, off, none⟩) (some ⟨b, off + (k + 1), none⟩) (ss.take k) (ss.drop (k + 1)) k (ss.length - (k + 1)) c (c - (k + 1)) w w1 hB.out hlt0.out hld0.out (by have := hf.out; rwa [strs_take] at this) (by have := hbk.out; rwa [strs_drop] at this) (by rw [hlt0.out]; omega) (by rw [hld0.out]; omega))
          go_region_with (go_at_call 54; refine hcc.out.mono ?_; rintro e w2 ⟨v, rfl, ho2, hB2⟩)
          all_goals
            have hF := Lib.hid (And.intro ho2 hB2)
            clear ho2 hB2
            go_wp2
            go_ret2
            exact okStrs_of hF.out.1 rfl hF.out.2

end Go.Proofs.YtojcnalgjeojdaaDoor
