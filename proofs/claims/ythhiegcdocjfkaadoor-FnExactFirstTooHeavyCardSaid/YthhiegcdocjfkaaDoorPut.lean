/-
  WHAT THIS FILE PROVES: the specification's function that puts a word into an ordered list: what it hands back owns its row and reads as the list with the word; asked: a row of the call's own, room.
-/
import Derived.Test.YthhiegcdocjfkaaDoorPair
import Derived.Test.YthhiegcdocjfkaaDoorAppend
import Derived.Test.YthhiegcdocjfkaaDoorOrd
namespace Go.Proofs.YthhiegcdocjfkaaDoor
open Go.RowKit

theorem info7 : ∃ i0, Tryd.prog.info? 9 = some i0 ∧ i0.zero = some (.string ByteArray.empty) ∧ i0.size = 1 ∧ i0.bytes = 16 := by
  obtain ⟨i0, hi, h⟩ := info_parts infoStr
  exact ⟨i0, hi, h⟩
/-- texts as their bytes -/
def raw (ss : List ByteArray) : List (List UInt8) := ss.map (·.data.toList)
theorem raw_length (ss : List ByteArray) : (raw ss).length = ss.length := by simp [raw]
theorem raw_get (ss : List ByteArray) (i : Nat) : (raw ss)[i]? = (ss[i]?).map (·.data.toList) := by simp [raw]
theorem raw_inj {ss ts : List ByteArray} (h : raw ss = raw ts) : ss = ts := by
  unfold raw at h
  refine List.map_inj_right (f := fun (x : ByteArray) => x.data.toList) (fun a b h => ?_) |>.1 h
  cases a; cases b; simp_all
def aheadB (ss : List ByteArray) (s : ByteArray) : Nat := W.ahead (raw ss) s.data.toList
theorem aheadB_le (ss : List ByteArray) (s : ByteArray) : aheadB ss s ≤ ss.length := by
  have := W.ahead_le (raw ss) s.data.toList
  rwa [raw_length] at this
def putB (ss : List ByteArray) (s : ByteArray) : List ByteArray := if ss[aheadB ss s]? = some s then ss else ss.take (aheadB ss s) ++ s :: ss.drop (aheadB ss s)
theorem data_inj {a b : ByteArray} (h : a.data.toList = b.data.toList) : a = b := by cases a; cases b; simp_all
theorem raw_put (ss : List ByteArray) (s : ByteArray) : raw (putB ss s) = W.put (raw ss) s.data.toList := by
  unfold putB W.put
  have e : (raw ss)[W.ahead (raw ss) s.data.toList]? = some s.data.toList ↔ ss[aheadB ss s]? = some s := by
    rw [raw_get]
    unfold aheadB
    cases ss[W.ahead (raw ss) s.data.toList]? with
    | none => simp
    | some x =>
      simp only [Option.map_some, Option.some.injEq]
      exact ⟨fun h => data_inj h, fun h => by rw [h]⟩
  by_cases h : ss[aheadB ss s]? = some s
  · rw [if_pos h, if_pos (e.2 h)]
  · rw [if_neg h, if_neg (fun k => h (e.1 k))]
    simp [raw, aheadB]
/-- the loop's count: all before are less -/
theorem ahead_lt {ss : List ByteArray} {s : ByteArray} {k : Nat} (hk : k < ss.length) (h : k ≤ aheadB ss s) (hl : W.less (ss[k]).data.toList s.data.toList = true) : k + 1 ≤ aheadB ss s := by
  unfold aheadB W.ahead at *
  have : ∀ (l : List (List UInt8)) (k : Nat) (hk : k < l.length), k ≤ (l.takeWhile fun x => W.less x s.data.toList).length → W.less l[k] s.data.toList = true → k + 1 ≤ (l.takeWhile fun x => W.less x s.data.toList).length := by
    intro l
    induction l with
    | nil => intro k hk; simp at hk
    | cons a r ih =>
      intro k hk h1 h2
      cases k with
      | zero =>
        simp only [List.getElem_cons_zero] at h2
        simp [List.takeWhile, h2]
      | succ k =>
        simp only [List.takeWhile] at h1 ⊢
        cases ha : W.less a s.data.toList with
        | false => rw [ha] at h1; simp at h1
        | true =>
          rw [ha] at h1
          simp only [List.length_cons] at h1 hk ⊢
          have := ih k (by omega) (by omega) (by simpa using h2)
          omega
  exact this (raw ss) k (by rw [raw_length]; exact hk) h (by simpa [raw] using hl)
theorem ahead_eq {ss : List ByteArray} {s : ByteArray} {k : Nat} (hk : k < ss.length) (h : k ≤ aheadB ss s) (hl : W.less (ss[k]).data.toList s.data.toList = false) : k = aheadB ss s := by
  unfold aheadB W.ahead at *
  have : ∀ (l : List (List UInt8)) (k : Nat) (hk : k < l.length), k ≤ (l.takeWhile fun x => W.less x s.data.toList).length → W.less l[k] s.data.toList = false → k = (l.takeWhile fun x => W.less x s.data.toList).length := by
    intro l
    induction l with
    | nil => intro k hk; simp at hk
    | cons a r ih =>
      intro k hk h1 h2
      cases k with
      | zero =>
        simp only [List.getElem_cons_zero] at h2
        simp [List.takeWhile, h2]
      | succ k =>
        simp only [List.takeWhile] at h1 ⊢
        cases ha : W.less a s.data.toList with
        | false => rw [ha] at h1; simp at h1
        | true =>
          rw [ha] at h1
          simp only [List.length_cons] at h1 hk ⊢
          have := ih k (by omega) (by omega) (by simpa using h2)
          omega
  exact this (raw ss) k (by rw [raw_length]; exact hk) h (by simpa [raw] using hl)

theorem own_new (base : Nat) (W : World) (h : base ≤ W.heap.size) : (W.alloc (.cells #[] 9)).ownsRow base 9 1 (.slice (some ⟨W.heap.size, 0, none⟩) 0 0) 0 [] :=
  World.ownsRow_made (base := base) (e := 9) (size := 1) W #[] 0 h (Nat.zero_le _) rfl

theorem row_new (W : World) (s : ByteArray) : Row (W.alloc (.cells #[.string s] 9)) (W.alloc (.cells #[.string s] 9)).heap.size (some ⟨W.heap.size, 0, none⟩) [.string s] := fun _ => by
  refine ⟨W.heap.size, 0, rfl, ?_, fun i v hv => ?_⟩
  · show W.heap.size < (W.heap.push _).size
    rw [Array.size_push]; omega
  · obtain rfl : i = 0 := by have := (List.getElem?_eq_some_iff.1 hv).1; simpa using this
    obtain rfl : v = .string s := by simpa using hv.symm
    show (W.alloc _).cell? _ = _
    rw [World.cell?_alloc_at _ _ _ _ rfl]
    rfl
theorem own_some {w : World} {base e n m c : Nat} {a : Addr} {vs : List Value} (h : w.ownsRow base e 1 (.slice (some a) n c) m vs) : ∃ g, a = ⟨g, 0, none⟩ := by
  rcases h.2 with ⟨e, _⟩ | ⟨g, cap, cur, e, _⟩
  · cases e
  · simp only [Value.slice.injEq, Option.some.injEq] at e
    exact ⟨g, e.1⟩
theorem own_none {w : World} {base e n m c : Nat} {vs : List Value} (h : w.ownsRow base e 1 (.slice none n c) m vs) : m = 0 := by
  rcases h.2 with ⟨_, e⟩ | ⟨g, cap, cur, e, _⟩
  · exact e
  · simp at e

-- WALK
theorem own_nx {w : World} {base e n m : Nat} {v : Value} {xs ys : List Value} (h : w.ownsRow base e 1 v n xs) (e1 : n = m) (e2 : xs = ys) : w.ownsRow base e 1 v m ys := by subst e1 e2; exact h
theorem put_end {base : Nat} {w w3 : World} {v : Value} {ss : List ByteArray} {s : ByteArray} {K : Nat} (hp : putB ss s = ss.take K ++ s :: ss.drop K) (hbase : base ≤ w.heap.size)
    (hk : K ≤ ss.length) (ho : w3.ownsRow w.heap.size 9 1 v (K + 1 + (ss.length - K)) ((strs ss).take K ++ [.string s] ++ (strs ss).drop K)) (hB : Below w.heap.size w w3) :
    ∃ A' c', Ending.returned v = .returned (.slice A' (putB ss s).length c') ∧ w3.ownsRow base 9 1 (.slice A' (putB ss s).length c') (putB ss s).length (strs (putB ss s)) ∧ Below w.heap.size w w3 := by
  have e : K + 1 + (ss.length - K) = (putB ss s).length := by
    rw [hp, List.length_append, List.length_cons, List.length_take, List.length_drop]
    omega
  have e' : (strs ss).take K ++ [.string s] ++ (strs ss).drop K = strs (putB ss s) := by
    rw [hp, strs_append, List.append_assoc, strs_take, strs_drop]
    rfl
  rw [e, e'] at ho
  obtain ⟨A', c', rfl⟩ := own_slice ho
  exact ⟨A', c', rfl, own_base ho hbase, hB⟩
theorem putB_no {ss : List ByteArray} {s : ByteArray} (h : ¬ ss[aheadB ss s]? = some s) : putB ss s = ss.take (aheadB ss s) ++ s :: ss.drop (aheadB ss s) := if_neg h
theorem putB_in {ss : List ByteArray} {s : ByteArray} (h : ss[aheadB ss s]? = some s) : putB ss s = ss := if_pos h
theorem own_cap0 {w : World} {base e n m c : Nat} {vs : List Value} (h : w.ownsRow base e 1 (.slice none n c) m vs) : c = 0 := by
  rcases h.2 with ⟨h, _⟩ | ⟨g, cap, cur, e, _⟩
  · simp only [Value.slice.injEq] at h; exact h.2.2
  · simp at e

set_option maxHeartbeats 3200000 in
theorem spec_wdPut (base : Nat) (A : Option Addr) (ss : List ByteArray) (c : Nat) (s : ByteArray) (w : World) (ho : w.ownsRow base 9 1 (.slice A ss.length c) ss.length (strs ss)) (hbase : base ≤ w.heap.size) (hl : ss.length ≤ 262144) :
    Calls Tryd.prog 55 #[.slice A ss.length c, .string s] w fun e w' => ∃ A' c', e = .returned (.slice A' (putB ss s).length c') ∧ w'.ownsRow base 9 1 (.slice A' (putB ss s).length c') (putB ss s).length (strs (putB ss s)) ∧ Below w.heap.size w w' := by
  have hcap := own_cap ho
  have hrow := Row.of_own ho
  have hless := fun (t : ByteArray) w => spec_wdLess t s w
  obtain ⟨i0, hinfo⟩ := info7
  have HR := Lib.hid hinfo
  clear hinfo
  rcases A with _ | a
  · have h0 : ss.length = 0 := own_none ho
    obtain rfl : c = 0 := own_cap0 ho
    have HO := Lib.hid (And.intro ho hrow)
    have HP := Lib.hid (show putB ss s = ss.take 0 ++ s :: ss.drop 0 by
      obtain rfl := List.eq_nil_of_length_eq_zero h0
      simp [putB, aheadB, raw, W.ahead])
    clear ho hrow
    rw [h0]
    go_enter Tryd.func55, Tryd.ntmps55
    go_wp2
    refine wp_loop_rounds 1 ?_
    rw [rounds_succ]
    have hO1 := Lib.hid (own_new w.heap.size w (Nat.le_refl _))
    have hB1 := Lib.hid ((Below.refl w.heap.size w).alloc (Nat.le_refl _) (.cells #[] 9))
    have hR1 := Lib.hid ((HO.out.2.front 0).below hB1.out)
    have hlt0 := Lib.hid (show ((strs ss).take 0).length = 0 by rw [List.length_take, strs_length]; omega)
    have hld0 := Lib.hid (show ((strs ss).drop 0).length = ss.length - 0 by rw [List.length_drop, strs_length])
    go_wp2_with (at_builtin; refine wpList_append_row _ rfl _ _ 22 rfl w.heap.size 9 i0 _ 16 Tryd.underlying22 HR.out.1 HR.out.2.1 HR.out.2.2.1 HR.out.2.2.2 rfl (.slice (some ⟨w.heap.size, 0, none⟩) 0 0) 0 [] rfl hO1.out w.heap.size none 0 _ (by rw [hlt0.out]; rfl) hR1.out (by rw [strs_take]; exact strs_cells _) (by rw [hlt0.out]; unfold maxLen; omega) (by rw [hlt0.out]; omega) (by show w.heap.size ≤ (w.heap.push _).size; rw [Array.size_push]; omega) ?_)
    intro v1 w1 ho1 hg1
    have hsz1 : w.heap.size + 1 ≤ w1.heap.size := by have := hg1.size; rw [show (w.alloc (.cells #[] 9)).heap.size = w.heap.size + 1 from Array.size_push ..] at this; exact this
    have hB2 := Lib.hid ((hB1.out.grown hg1 (by rw [show (w.alloc (.cells #[] 9)).heap.size = w.heap.size + 1 from Array.size_push ..]; omega) (fun g hg => by have hg2 : some w.heap.size = some g := hg; injection hg2 with hg2; omega)))
    have ho1 := own_nx (m := 0) (ys := (strs ss).take 0) ho1 (by first | rfl | (rw [strs_length]; omega) | omega) (by first | rfl | simp)
    have hO2 := Lib.hid (own_below ho1 ((Below.refl w1.heap.size w1).alloc (Nat.le_refl _) (.cells #[.string s] 9)))
    have hB3 := Lib.hid (hB2.out.alloc (by omega) (.cells #[.string s] 9))
    have hR2 := Lib.hid (row_new w1 s)
    clear ho1 hg1
    go_wp2_with (at_builtin; refine wpList_append_row _ rfl _ _ 22 rfl w.heap.size 9 i0 _ 16 Tryd.underlying22 HR.out.1 HR.out.2.1 HR.out.2.2.1 HR.out.2.2.2 rfl v1 _ _ rfl hO2.out _ (some ⟨w1.heap.size, 0, none⟩) 1 [.string s] rfl hR2.out (one_text s) (by unfold maxLen; simp only [List.length_cons, List.length_nil]; omega) (by simp only [List.length_cons, List.length_nil]; omega) (by show w.heap.size ≤ (w1.heap.push _).size; rw [Array.size_push]; omega) ?_)
    intro v2 w2 ho2 hg2
    have hsz2 : w1.heap.size + 1 ≤ w2.heap.size := by have := hg2.size; rw [show (w1.alloc (.cells #[.string s] 9)).heap.size = w1.heap.size + 1 from Array.size_push ..] at this; exact this
    have hB4 := Lib.hid (hB3.out.grown hg2 (by show w.heap.size ≤ (w1.heap.push _).size; rw [Array.size_push]; omega) (fun g hg => (hO2.out.lt g hg).1))
    have hO3 := Lib.hid (own_nx (m := 0 + 1) (ys := (strs ss).take 0 ++ [.string s]) ho2 (by first | rfl | simp) (by first | rfl | simp))
    clear ho2 hg2
    have hR3 := Lib.hid ((fun hp => absurd hp (by rw [hld0.out]; omega) : Row w w.heap.size none ((strs ss).drop 0)))
    go_wp2_with (at_builtin; refine wpList_append_row _ rfl _ _ 22 rfl w.heap.size 9 i0 _ 16 Tryd.underlying22 HR.out.1 HR.out.2.1 HR.out.2.2.1 HR.out.2.2.2 rfl v2 _ _ rfl hO3.out w.heap.size none 0 _ (by rw [hld0.out]; first | rfl | (simp [Act.eval]; done) | (simp [Act.eval]; omega)) (Row.below hR3.out hB4.out) (by rw [strs_drop]; exact strs_cells _) (by rw [hld0.out]; unfold maxLen; omega) (by rw [hld0.out]; omega) (by omega) ?_)
    intro v3 w3 ho3 hg3
    have hF := Lib.hid (And.intro (own_nx (m := 0 + 1 + (ss.length - 0)) (ys := (strs ss).take 0 ++ [.string s] ++ (strs ss).drop 0) ho3 (by first | rfl | (rw [hld0.out]) | (simp [strs_length]; done) | (rw [strs_length]; omega) | omega) (by first | rfl | simp)) (hB4.out.grown hg3 (by omega) (fun g hg => (hO3.out.lt g hg).1)))
    clear ho3 hg3
    go_wp2
    go_ret
    exact put_end HP.out hbase (by omega) hF.out.1 hF.out.2
  · obtain ⟨g, rfl⟩ := own_some ho
    have hc := Lib.hid (show ∀ j (h : j < ss.length), w.cell? ⟨g, 0 + j, none⟩ = some (.string ss[j]) from fun j h => by
      obtain ⟨b, off, e, _, hh⟩ := hrow (by rw [strs_length]; omega)
      simp only [Option.some.injEq, Addr.mk.injEq] at e
      obtain ⟨rfl, rfl, _⟩ := e
      exact hh j _ (by simp [strs, h]))
    have HO := Lib.hid (And.intro ho hrow)
    clear ho hrow
    go_enter Tryd.func55, Tryd.ntmps55
    go_wp2
    go_loop [5] (fun i => ∃ k : Nat, k ≤ ss.length ∧ k ≤ aheadB ss s ∧ i = .int .i64 k) (fun i => ss.length - (intOf i).toNat)
    case atStart => exact ⟨0, Nat.zero_le _, Nat.zero_le _, rfl⟩
    case round =>
      obtain ⟨k, hk, hka, rfl⟩ := hrel
      by_cases hlt : k < ss.length
      · have hlt' : (k : Int) < (ss.length : Int) := by omega
        have hle' : (k : Int) ≤ (ss.length : Int) := by omega
        have hkc : (k : Int) ≤ (c : Int) := by omega
        have c1 := hc.out k hlt
        rw [Nat.zero_add] at c1
        have hlc := Lib.hid (hless ss[k])
        cases hq : W.less (ss[k]).data.toList s.data.toList
        · have hkeq := Lib.hid (ahead_eq hlt hka hq)
          rw [hq] at hlc
          clear hka hq
          by_cases heq : ss[k] = s
          · have heq' : ((ss[k]).toList == s.toList) = true := by rw [heq]; exact beq_self_eq_true _
            have HP := Lib.hid (putB_in (ss := ss) (s := s) (by rw [← hkeq.out, List.getElem?_eq_getElem hlt, heq]))
            clear heq
            go_wp2_with (go_at_call 40; refine (hlc.out _).mono ?_; rintro e w' ⟨rfl, rfl⟩)
            go_ret
            refine ⟨some ⟨g, 0, none⟩, c, ?_, ?_, Below.refl _ _⟩
            · rw [HP.out]; rfl
            · rw [HP.out]; exact HO.out.1
          · have heq' : ((ss[k]).toList == s.toList) = false := beq_eq_false_iff_ne.2 (fun e => heq (data_inj (by rw [Lib.toList_data, Lib.toList_data] at e; exact e)))
            have HP := Lib.hid (show putB ss s = ss.take k ++ s :: ss.drop k by
              have := putB_no (ss := ss) (s := s) (by rw [← hkeq.out, List.getElem?_eq_getElem hlt]; intro e; injection e with e; exact heq e)
              rwa [← hkeq.out] at this)
            clear heq
            have hO1 := Lib.hid (own_new w.heap.size w (Nat.le_refl _))
            have hB1 := Lib.hid ((Below.refl w.heap.size w).alloc (Nat.le_refl _) (.cells #[] 9))
            have hR1 := Lib.hid ((HO.out.2.front k).below hB1.out)
            have hlt0 := Lib.hid (show ((strs ss).take k).length = k by rw [List.length_take, strs_length]; omega)
            have hld0 := Lib.hid (show ((strs ss).drop k).length = ss.length - k by rw [List.length_drop, strs_length])
            go_wp2_with (first | (go_at_call 40; refine (hlc.out _).mono ?_; rintro e w' ⟨rfl, rfl⟩) | (at_builtin; refine wpList_append_row _ rfl _ _ 22 rfl w.heap.size 9 i0 _ 16 Tryd.underlying22 HR.out.1 HR.out.2.1 HR.out.2.2.1 HR.out.2.2.2 rfl (.slice (some ⟨w.heap.size, 0, none⟩) 0 0) 0 [] rfl hO1.out w.heap.size (some ⟨g, 0, none⟩) c _ (by rw [hlt0.out]; rfl) hR1.out (by rw [strs_take]; exact strs_cells _) (by rw [hlt0.out]; unfold maxLen; omega) (by rw [hlt0.out]; omega) (by show w.heap.size ≤ (w.heap.push _).size; rw [Array.size_push]; omega) ?_))
            intro v1 w1 ho1 hg1
            have hsz1 : w.heap.size + 1 ≤ w1.heap.size := by have := hg1.size; rw [show (w.alloc (.cells #[] 9)).heap.size = w.heap.size + 1 from Array.size_push ..] at this; exact this
            have hB2 := Lib.hid ((hB1.out.grown hg1 (by rw [show (w.alloc (.cells #[] 9)).heap.size = w.heap.size + 1 from Array.size_push ..]; omega) (fun g hg => by have hg2 : some w.heap.size = some g := hg; injection hg2 with hg2; omega)))
            have ho1 := own_nx (m := k) (ys := (strs ss).take k) ho1 (by first | rfl | (rw [strs_length]; omega) | omega) (by first | rfl | simp)
            have hO2 := Lib.hid (own_below ho1 ((Below.refl w1.heap.size w1).alloc (Nat.le_refl _) (.cells #[.string s] 9)))
            have hB3 := Lib.hid (hB2.out.alloc (by omega) (.cells #[.string s] 9))
            have hR2 := Lib.hid (row_new w1 s)
            clear ho1 hg1
            go_wp2_with (at_builtin; refine wpList_append_row _ rfl _ _ 22 rfl w.heap.size 9 i0 _ 16 Tryd.underlying22 HR.out.1 HR.out.2.1 HR.out.2.2.1 HR.out.2.2.2 rfl v1 _ _ rfl hO2.out _ (some ⟨w1.heap.size, 0, none⟩) 1 [.string s] rfl hR2.out (one_text s) (by unfold maxLen; simp only [List.length_cons, List.length_nil]; omega) (by simp only [List.length_cons, List.length_nil]; omega) (by show w.heap.size ≤ (w1.heap.push _).size; rw [Array.size_push]; omega) ?_)
            intro v2 w2 ho2 hg2
            have hsz2 : w1.heap.size + 1 ≤ w2.heap.size := by have := hg2.size; rw [show (w1.alloc (.cells #[.string s] 9)).heap.size = w1.heap.size + 1 from Array.size_push ..] at this; exact this
            have hB4 := Lib.hid (hB3.out.grown hg2 (by show w.heap.size ≤ (w1.heap.push _).size; rw [Array.size_push]; omega) (fun g hg => (hO2.out.lt g hg).1))
            have hO3 := Lib.hid (own_nx (m := k + 1) (ys := (strs ss).take k ++ [.string s]) ho2 (by first | rfl | simp) (by first | rfl | simp))
            clear ho2 hg2
            have hR3 := Lib.hid ((by have := HO.out.2.back k; rw [Nat.zero_add] at this; exact this : Row w w.heap.size (some ⟨g, k, none⟩) ((strs ss).drop k)))
            go_wp2_with (at_builtin; refine wpList_append_row _ rfl _ _ 22 rfl w.heap.size 9 i0 _ 16 Tryd.underlying22 HR.out.1 HR.out.2.1 HR.out.2.2.1 HR.out.2.2.2 rfl v2 _ _ rfl hO3.out w.heap.size (some ⟨g, k, none⟩) (c - k) _ (by rw [hld0.out]; first | rfl | (simp [Act.eval]; done) | (simp [Act.eval]; omega)) (Row.below hR3.out hB4.out) (by rw [strs_drop]; exact strs_cells _) (by rw [hld0.out]; unfold maxLen; omega) (by rw [hld0.out]; omega) (by omega) ?_)
            intro v3 w3 ho3 hg3
            have hF := Lib.hid (And.intro (own_nx (m := k + 1 + (ss.length - k)) (ys := (strs ss).take k ++ [.string s] ++ (strs ss).drop k) ho3 (by first | rfl | (rw [hld0.out]) | (simp [strs_length]; done) | (rw [strs_length]; omega) | omega) (by first | rfl | simp)) (hB4.out.grown hg3 (by omega) (fun g hg => (hO3.out.lt g hg).1)))
            clear ho3 hg3
            go_wp2
            go_ret
            exact put_end HP.out hbase (by omega) hF.out.1 hF.out.2
        · have hk1 := ahead_lt hlt hka hq
          rw [hq] at hlc
          go_wp2_with (go_at_call 40; refine (hlc.out _).mono ?_; rintro e w' ⟨rfl, rfl⟩)
          go_round
          case rel => exact ⟨k + 1, by omega, hk1, by go_num⟩
          case measure => simp [intOf]; omega
      · have hke : k = ss.length := by omega
        have hkeq := Lib.hid (show ss.length = aheadB ss s by have := aheadB_le ss s; omega)
        subst hke
        have HP := Lib.hid (show putB ss s = ss.take ss.length ++ s :: ss.drop ss.length by
          have := putB_no (ss := ss) (s := s) (by rw [← hkeq.out]; simp)
          rwa [← hkeq.out] at this)
        have hkc : (ss.length : Int) ≤ (c : Int) := by omega
        clear hka
        by_cases hcl : c = ss.length
        · subst hcl
          have hO1 := Lib.hid (own_new w.heap.size w (Nat.le_refl _))
          have hB1 := Lib.hid ((Below.refl w.heap.size w).alloc (Nat.le_refl _) (.cells #[] 9))
          have hR1 := Lib.hid ((HO.out.2.front ss.length).below hB1.out)
          have hlt0 := Lib.hid (show ((strs ss).take ss.length).length = ss.length by rw [List.length_take, strs_length]; omega)
          have hld0 := Lib.hid (show ((strs ss).drop ss.length).length = ss.length - ss.length by rw [List.length_drop, strs_length])
          go_wp2_with (at_builtin; refine wpList_append_row _ rfl _ _ 22 rfl w.heap.size 9 i0 _ 16 Tryd.underlying22 HR.out.1 HR.out.2.1 HR.out.2.2.1 HR.out.2.2.2 rfl (.slice (some ⟨w.heap.size, 0, none⟩) 0 0) 0 [] rfl hO1.out w.heap.size (some ⟨g, 0, none⟩) ss.length _ (by rw [hlt0.out]; rfl) hR1.out (by rw [strs_take]; exact strs_cells _) (by rw [hlt0.out]; unfold maxLen; omega) (by rw [hlt0.out]; omega) (by show w.heap.size ≤ (w.heap.push _).size; rw [Array.size_push]; omega) ?_)
          intro v1 w1 ho1 hg1
          have hsz1 : w.heap.size + 1 ≤ w1.heap.size := by have := hg1.size; rw [show (w.alloc (.cells #[] 9)).heap.size = w.heap.size + 1 from Array.size_push ..] at this; exact this
          have hB2 := Lib.hid ((hB1.out.grown hg1 (by rw [show (w.alloc (.cells #[] 9)).heap.size = w.heap.size + 1 from Array.size_push ..]; omega) (fun g hg => by have hg2 : some w.heap.size = some g := hg; injection hg2 with hg2; omega)))
          have ho1 := own_nx (m := ss.length) (ys := (strs ss).take ss.length) ho1 (by first | rfl | (rw [strs_length]; omega) | omega) (by first | rfl | simp)
          have hO2 := Lib.hid (own_below ho1 ((Below.refl w1.heap.size w1).alloc (Nat.le_refl _) (.cells #[.string s] 9)))
          have hB3 := Lib.hid (hB2.out.alloc (by omega) (.cells #[.string s] 9))
          have hR2 := Lib.hid (row_new w1 s)
          clear ho1 hg1
          go_wp2_with (at_builtin; refine wpList_append_row _ rfl _ _ 22 rfl w.heap.size 9 i0 _ 16 Tryd.underlying22 HR.out.1 HR.out.2.1 HR.out.2.2.1 HR.out.2.2.2 rfl v1 _ _ rfl hO2.out _ (some ⟨w1.heap.size, 0, none⟩) 1 [.string s] rfl hR2.out (one_text s) (by unfold maxLen; simp only [List.length_cons, List.length_nil]; omega) (by simp only [List.length_cons, List.length_nil]; omega) (by show w.heap.size ≤ (w1.heap.push _).size; rw [Array.size_push]; omega) ?_)
          intro v2 w2 ho2 hg2
          have hsz2 : w1.heap.size + 1 ≤ w2.heap.size := by have := hg2.size; rw [show (w1.alloc (.cells #[.string s] 9)).heap.size = w1.heap.size + 1 from Array.size_push ..] at this; exact this
          have hB4 := Lib.hid (hB3.out.grown hg2 (by show w.heap.size ≤ (w1.heap.push _).size; rw [Array.size_push]; omega) (fun g hg => (hO2.out.lt g hg).1))
          have hO3 := Lib.hid (own_nx (m := ss.length + 1) (ys := (strs ss).take ss.length ++ [.string s]) ho2 (by first | rfl | simp) (by first | rfl | simp))
          clear ho2 hg2
          have hR3 := Lib.hid ((fun hp => absurd hp (by rw [hld0.out]; omega) : Row w w.heap.size (some ⟨g, 0, none⟩) ((strs ss).drop ss.length)))
          go_wp2_with (at_builtin; refine wpList_append_row _ rfl _ _ 22 rfl w.heap.size 9 i0 _ 16 Tryd.underlying22 HR.out.1 HR.out.2.1 HR.out.2.2.1 HR.out.2.2.2 rfl v2 _ _ rfl hO3.out w.heap.size (some ⟨g, 0, none⟩) 0 _ (by rw [hld0.out]; first | rfl | (simp [Act.eval]; done) | (simp [Act.eval]; omega)) (Row.below hR3.out hB4.out) (by rw [strs_drop]; exact strs_cells _) (by rw [hld0.out]; unfold maxLen; omega) (by rw [hld0.out]; omega) (by omega) ?_)
          intro v3 w3 ho3 hg3
          have hF := Lib.hid (And.intro (own_nx (m := ss.length + 1 + (ss.length - ss.length)) (ys := (strs ss).take ss.length ++ [.string s] ++ (strs ss).drop ss.length) ho3 (by first | rfl | (rw [hld0.out]) | (simp [strs_length]; done) | (rw [strs_length]; omega) | omega) (by first | rfl | simp)) (hB4.out.grown hg3 (by omega) (fun g hg => (hO3.out.lt g hg).1)))
          clear ho3 hg3
          go_wp2
          go_ret
          exact put_end HP.out hbase (by omega) hF.out.1 hF.out.2
        · skip
          have hO1 := Lib.hid (own_new w.heap.size w (Nat.le_refl _))
          have hB1 := Lib.hid ((Below.refl w.heap.size w).alloc (Nat.le_refl _) (.cells #[] 9))
          have hR1 := Lib.hid ((HO.out.2.front ss.length).below hB1.out)
          have hlt0 := Lib.hid (show ((strs ss).take ss.length).length = ss.length by rw [List.length_take, strs_length]; omega)
          have hld0 := Lib.hid (show ((strs ss).drop ss.length).length = ss.length - ss.length by rw [List.length_drop, strs_length])
          go_wp2_with (at_builtin; refine wpList_append_row _ rfl _ _ 22 rfl w.heap.size 9 i0 _ 16 Tryd.underlying22 HR.out.1 HR.out.2.1 HR.out.2.2.1 HR.out.2.2.2 rfl (.slice (some ⟨w.heap.size, 0, none⟩) 0 0) 0 [] rfl hO1.out w.heap.size (some ⟨g, 0, none⟩) c _ (by rw [hlt0.out]; rfl) hR1.out (by rw [strs_take]; exact strs_cells _) (by rw [hlt0.out]; unfold maxLen; omega) (by rw [hlt0.out]; omega) (by show w.heap.size ≤ (w.heap.push _).size; rw [Array.size_push]; omega) ?_)
          intro v1 w1 ho1 hg1
          have hsz1 : w.heap.size + 1 ≤ w1.heap.size := by have := hg1.size; rw [show (w.alloc (.cells #[] 9)).heap.size = w.heap.size + 1 from Array.size_push ..] at this; exact this
          have hB2 := Lib.hid ((hB1.out.grown hg1 (by rw [show (w.alloc (.cells #[] 9)).heap.size = w.heap.size + 1 from Array.size_push ..]; omega) (fun g hg => by have hg2 : some w.heap.size = some g := hg; injection hg2 with hg2; omega)))
          have ho1 := own_nx (m := ss.length) (ys := (strs ss).take ss.length) ho1 (by first | rfl | (rw [strs_length]; omega) | omega) (by first | rfl | simp)
          have hO2 := Lib.hid (own_below ho1 ((Below.refl w1.heap.size w1).alloc (Nat.le_refl _) (.cells #[.string s] 9)))
          have hB3 := Lib.hid (hB2.out.alloc (by omega) (.cells #[.string s] 9))
          have hR2 := Lib.hid (row_new w1 s)
          clear ho1 hg1
          go_wp2_with (at_builtin; refine wpList_append_row _ rfl _ _ 22 rfl w.heap.size 9 i0 _ 16 Tryd.underlying22 HR.out.1 HR.out.2.1 HR.out.2.2.1 HR.out.2.2.2 rfl v1 _ _ rfl hO2.out _ (some ⟨w1.heap.size, 0, none⟩) 1 [.string s] rfl hR2.out (one_text s) (by unfold maxLen; simp only [List.length_cons, List.length_nil]; omega) (by simp only [List.length_cons, List.length_nil]; omega) (by show w.heap.size ≤ (w1.heap.push _).size; rw [Array.size_push]; omega) ?_)
          intro v2 w2 ho2 hg2
          have hsz2 : w1.heap.size + 1 ≤ w2.heap.size := by have := hg2.size; rw [show (w1.alloc (.cells #[.string s] 9)).heap.size = w1.heap.size + 1 from Array.size_push ..] at this; exact this
          have hB4 := Lib.hid (hB3.out.grown hg2 (by show w.heap.size ≤ (w1.heap.push _).size; rw [Array.size_push]; omega) (fun g hg => (hO2.out.lt g hg).1))
          have hO3 := Lib.hid (own_nx (m := ss.length + 1) (ys := (strs ss).take ss.length ++ [.string s]) ho2 (by first | rfl | simp) (by first | rfl | simp))
          clear ho2 hg2
          have hR3 := Lib.hid ((by have := HO.out.2.back ss.length; rw [Nat.zero_add] at this; exact this : Row w w.heap.size (some ⟨g, ss.length, none⟩) ((strs ss).drop ss.length)))
          go_wp2_with (at_builtin; refine wpList_append_row _ rfl _ _ 22 rfl w.heap.size 9 i0 _ 16 Tryd.underlying22 HR.out.1 HR.out.2.1 HR.out.2.2.1 HR.out.2.2.2 rfl v2 _ _ rfl hO3.out w.heap.size (some ⟨g, ss.length, none⟩) (c - ss.length) _ (by rw [hld0.out]; first | rfl | (simp [Act.eval]; done) | (simp [Act.eval]; omega)) (Row.below hR3.out hB4.out) (by rw [strs_drop]; exact strs_cells _) (by rw [hld0.out]; unfold maxLen; omega) (by rw [hld0.out]; omega) (by omega) ?_)
          intro v3 w3 ho3 hg3
          have hF := Lib.hid (And.intro (own_nx (m := ss.length + 1 + (ss.length - ss.length)) (ys := (strs ss).take ss.length ++ [.string s] ++ (strs ss).drop ss.length) ho3 (by first | rfl | (rw [hld0.out]) | (simp [strs_length]; done) | (rw [strs_length]; omega) | omega) (by first | rfl | simp)) (hB4.out.grown hg3 (by omega) (fun g hg => (hO3.out.lt g hg).1)))
          clear ho3 hg3
          go_wp2
          go_ret
          exact put_end HP.out hbase (by omega) hF.out.1 hF.out.2

end Go.Proofs.YthhiegcdocjfkaaDoor
