/-
  WHAT THIS FILE PROVES: the specification's function that puts a word into an ordered list: what it hands back owns its row and reads as the list with the word; asked: a row of the call's own, room.
-/
import Derived.Test.YtjopbmhldpcpdaaDoorPair
import Derived.Test.YtjopbmhldpcpdaaDoorAppend
import Derived.Test.YtjopbmhldpcpdaaDoorOrd
namespace Go.Proofs.YtjopbmhldpcpdaaDoor
open Go.RowKit

theorem info7 : ∃ i0, Tryd.prog.info? 9 = some i0 ∧ i0.zero = some (.string ByteArray.empty) ∧ i0.size = 1 ∧ i0.bytes = 16 := by
  obtain ⟨i0, hi, h⟩ := info_parts infoStr
  exact ⟨i0, hi, h⟩
/-- texts as their bytes -/
def raw (ss : List ByteArray) : List (List UInt8) := ss.map (·.data.toList)
theorem raw_length (ss : List ByteArray) : (raw ss).length = ss.length := by simp [raw]
theorem raw_get (ss : List ByteArray) (i : Nat) : (raw ss)[i]? = (ss[i]?).map (·.data.toList) := by simp [raw]
theorem raw_inj {ss ts : List ByteArray} (h : raw ss = raw ts) : ss = ts := by
  unfold raw at h
  refine List.map_inj_right (f := fun (x : ByteArray) => x.data.toList) (fun a b h => ?_) |>.1 h
  cases a; cases b; simp_all
def aheadB (ss : List ByteArray) (s : ByteArray) : Nat := W.ahead (raw ss) s.data.toList
theorem aheadB_le (ss : List ByteArray) (s : ByteArray) : aheadB ss s ≤ ss.length := by
  have := W.ahead_le (raw ss) s.data.toList
  rwa [raw_length] at this
def putB (ss : List ByteArray) (s : ByteArray) : List ByteArray := if ss[aheadB ss s]? = some s then ss else ss.take (aheadB ss s) ++ s :: ss.drop (aheadB ss s)
theorem data_inj {a b : ByteArray} (h : a.data.toList = b.data.toList) : a = b := by cases a; cases b; simp_all
theorem raw_put (ss : List ByteArray) (s : ByteArray) : raw (putB ss s) = W.put (raw ss) s.data.toList := by
  unfold putB W.put
  have e : (raw ss)[W.ahead (raw ss) s.data.toList]? = some s.data.toList ↔ ss[aheadB ss s]? = some s := by
    rw [raw_get]
    unfold aheadB
    cases ss[W.ahead (raw ss) s.data.toList]? with
    | none => simp
    | some x =>
      simp only [Option.map_some, Option.some.injEq]
      exact ⟨fun h => data_inj h, fun h => by rw [h]⟩
  by_cases h : ss[aheadB ss s]? = some s
  · rw [if_pos h, if_pos (e.2 h)]
  · rw [if_neg h, if_neg (fun k => h (e.1 k))]
    simp [raw, aheadB]
/-- the loop's count: all before are less -/
theorem ahead_lt {ss : List ByteArray} {s : ByteArray} {k : Nat} (hk : k < ss.length) (h : k ≤ aheadB ss s) (hl : W.less (ss[k]).data.toList s.data.toList = true) : k + 1 ≤ aheadB ss s := by
  unfold aheadB W.ahead at *
  have : ∀ (l : List (List UInt8)) (k : Nat) (hk : k < l.length), k ≤ (l.takeWhile fun x => W.less x s.data.toList).length → W.less l[k] s.data.toList = true → k + 1 ≤ (l.takeWhile fun x => W.less x s.data.toList).length := by
    intro l
    induction l with
    | nil => intro k hk; simp at hk
    | cons a r ih =>
      intro k hk h1 h2
      cases k with
      | zero =>
        simp only [List.getElem_cons_zero] at h2
        simp [List.takeWhile, h2]
      | succ k =>
        simp only [List.takeWhile] at h1 ⊢
        cases ha : W.less a s.data.toList with
        | false => rw [ha] at h1; simp at h1
        | true =>
          rw [ha] at h1
          simp only [List.length_cons] at h1 hk ⊢
          have := ih k (by omega) (by omega) (by simpa using h2)
          omega
  exact this (raw ss) k (by rw [raw_length]; exact hk) h (by simpa [raw] using hl)
theorem ahead_eq {ss : List ByteArray} {s : ByteArray} {k : Nat} (hk : k < ss.length) (h : k ≤ aheadB ss s) (hl : W.less (ss[k]).data.toList s.data.toList = false) : k = aheadB ss s := by
  unfold aheadB W.ahead at *
  have : ∀ (l : List (List UInt8)) (k : Nat) (hk : k < l.length), k ≤ (l.takeWhile fun x => W.less x s.data.toList).length → W.less l[k] s.data.toList = false → k = (l.takeWhile fun x => W.less x s.data.toList).length := by
    intro l
    induction l with
    | nil => intro k hk; simp at hk
    | cons a r ih =>
      intro k hk h1 h2
      cases k with
      | zero =>
        simp only [List.getElem_cons_zero] at h2
        simp [List.takeWhile, h2]
      | succ k =>
        simp only [List.takeWhile] at h1 ⊢
        cases ha : W.less a s.data.toList with
        | false => rw [ha] at h1; simp at h1
        | true =>
          rw [ha] at h1
          simp only [List.length_cons] at h1 hk ⊢
          have := ih k (by omega) (by omega) (by simpa using h2)
          omega
  exact this (raw ss) k (by rw [raw_length]; exact hk) h (by simpa [raw] using hl)

theorem own_new (base : Nat) (W : World) (h : base ≤ W.heap.size) : (W.alloc (.cells #[] 9)).ownsRow base 9 1 (.slice (some ⟨W.heap.size, 0, none⟩) 0 0) 0 [] :=
  World.ownsRow_made (base := base) (e := 9) (size := 1) W #[] 0 h (Nat.zero_le _) rfl

theorem row_new (W : World) (s : ByteArray) : Row (W.alloc (.cells #[.string s] 9)) (W.alloc (.cells #[.string s] 9)).heap.size (some ⟨W.heap.size, 0, none⟩) [.string s] := fun _ => by
  refine ⟨W.heap.size, 0, rfl, ?_, fun i v hv => ?_⟩
  · show W.heap.size < (W.heap.push _).size
    rw [Array.size_push]; omega
  · obtain rfl : i = 0 := by have := (List.getElem?_eq_some_iff.1 hv).1; simpa using this
    obtain rfl : v = .string s := by simpa using hv.symm
    show (W.alloc _).cell? _ = _
    rw [World.cell?_alloc_at _ _ _ _ rfl]
    rfl
theorem own_some {w : World} {base e n m c : Nat} {a : Addr} {vs : List Value} (h : w.ownsRow base e 1 (.slice (some a) n c) m vs) : ∃ g, a = ⟨g, 0, none⟩ := by
  rcases h.2 with ⟨e, _⟩ | ⟨g, cap, cur, e, _⟩
  · cases e
  · simp only [Value.slice.injEq, Option.some.injEq] at e
    exact ⟨g, e.1⟩
theorem own_none {w : World} {base e n m c : Nat} {vs : List Value} (h : w.ownsRow base e 1 (.slice none n c) m vs) : m = 0 := by
  rcases h.2 with ⟨_, e⟩ | ⟨g, cap, cur, e, _⟩
  · exact e
  · simp at e

-- WALK
theorem own_nx {w : World} {base e n m : Nat} {v : Value} {xs ys : List Value} (h : w.ownsRow base e 1 v n xs) (e1 : n = m) (e2 : xs = ys) : w.ownsRow base e 1 v m ys := by subst e1 e2; exact h
theorem put_end {base : Nat} {w w3 : World} {v : Value} {ss : List ByteArray} {s : ByteArray} {K : Nat} (hp : putB ss s = ss.take K ++ s :: ss.drop K) (hbase : base ≤ w.heap.size)
    (hk : K ≤ ss.length) (ho : w3.ownsRow w.heap.size 9 1 v (K + 1 + (ss.length - K)) ((strs ss).take K ++ [.string s] ++ (strs ss).drop K)) (hB : Below w.heap.size w w3) :
    ∃ A' c', Ending.returned v = .returned (.slice A' (putB ss s).length c') ∧ w3.ownsRow base 9 1 (.slice A' (putB ss s).length c') (putB ss s).length (strs (putB ss s)) ∧ Below w.heap.size w w3 := by
  have e : K + 1 + (ss.length - K) = (putB ss s).length := by
    rw [hp, List.length_append, List.length_cons, List.length_take, List.length_drop]
    omega
  have e' : (strs ss).take K ++ [.string s] ++ (strs ss).drop K = strs (putB ss s) := by
    rw [hp, strs_append, List.append_assoc, strs_take, strs_drop]
    rfl
  rw [e, e'] at ho
  obtain ⟨A', c', rfl⟩ := own_slice ho
  exact ⟨A', c', rfl, own_base ho hbase, hB⟩
theorem putB_no {ss : List ByteArray} {s : ByteArray} (h : ¬ ss[aheadB ss s]? = some s) : putB ss s = ss.take (aheadB ss s) ++ s :: ss.drop (aheadB ss s) := if_neg h
theorem putB_in {ss : List ByteArray} {s : ByteArray} (h : ss[aheadB ss s]? = some s) : putB ss s = ss := if_pos h
theorem own_cap0 {w : World} {base e n m c : Nat} {vs : List Value} (h : w.ownsRow base e 1 (.slice none n c) m vs) : c = 0 := by
  rcases h.2 with ⟨h, _⟩ | ⟨g, cap, cur, e, _⟩
  · simp only [Value.slice.injEq] at h; exact h.2.2
  · simp at e


end Go.Proofs.YtjopbmhldpcpdaaDoor
