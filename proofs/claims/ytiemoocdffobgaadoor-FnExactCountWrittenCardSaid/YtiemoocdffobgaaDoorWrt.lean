/-
  WHAT THIS FILE PROVES: plain facts on the words of each length that a set writes: tables of them that are made by putting a word of the set behind, or in front, have lists of the same lengths; no program in sight.
-/
import Derived.Test.YtiemoocdffobgaaDoorTwo
namespace Go.Proofs.YtiemoocdffobgaaDoor

/-- a text of n letters that words of the set write -/
def isW (ss : List ByteArray) (n : Nat) (x : ByteArray) : Prop := x.size = n ∧ ∃ ts : List ByteArray, (∀ t ∈ ts, t ∈ ss) ∧ catL ts = x.data.toList
/-- for each length up to n the texts that are written, each once -/
structure Tab (ss : List ByteArray) (n : Nat) (T : List (List ByteArray)) : Prop where
  len : T.length = n + 1
  mem : ∀ j, j ≤ n → ∀ x, x ∈ T.getD j [] ↔ isW ss j x
  nodup : ∀ j, j ≤ n → (T.getD j []).Nodup
def behind (T : List (List ByteArray)) (n : Nat) (t : ByteArray) : List ByteArray := if t.size ≤ n then (T.getD (n - t.size) []).map fun s => s ++ t else []
def before (T : List (List ByteArray)) (n : Nat) (t : ByteArray) : List ByteArray := if t.size ≤ n then (T.getD (n - t.size) []).map fun s => t ++ s else []
theorem size_zero {x : ByteArray} (h : x.size = 0) : x = ⟨#[]⟩ := data_inj (by rw [Lib.size_eq] at h; exact List.eq_nil_of_length_eq_zero h)
theorem Tab.zero {ss : List ByteArray} : Tab ss 0 [[⟨#[]⟩]] := by
  refine ⟨rfl, fun j hj x => ?_, fun j hj => ?_⟩
  · obtain rfl : j = 0 := by omega
    show x ∈ [(⟨#[]⟩ : ByteArray)] ↔ _
    rw [List.mem_singleton]
    constructor
    · rintro rfl
      exact ⟨rfl, [], by simp, rfl⟩
    · exact fun h => size_zero h.1
  · obtain rfl : j = 0 := by omega
    show [(⟨#[]⟩ : ByteArray)].Nodup
    simp
theorem getD_snoc {α : Type} (T : List α) (m d : α) (j n : Nat) (h : T.length = n + 1) : (T ++ [m]).getD j d = if j ≤ n then T.getD j d else if j = n + 1 then m else d := by
  rw [List.getD_eq_getElem?_getD, List.getD_eq_getElem?_getD]
  by_cases h1 : j ≤ n
  · rw [if_pos h1, List.getElem?_append_left (by omega)]
  · rw [if_neg h1, List.getElem?_append_right (by omega)]
    by_cases h2 : j = n + 1
    · subst h2
      rw [if_pos rfl, h, Nat.sub_self]
      rfl
    · rw [if_neg h2, List.getElem?_eq_none (by simp; omega)]
      rfl
theorem Tab.snoc {ss : List ByteArray} {n : Nat} {T : List (List ByteArray)} (h : Tab ss n T) {m : List ByteArray} (hm : ∀ x, x ∈ m ↔ isW ss (n + 1) x) (hn : m.Nodup) : Tab ss (n + 1) (T ++ [m]) := by
  refine ⟨by rw [List.length_append, h.len]; rfl, fun j hj x => ?_, fun j hj => ?_⟩
  · rw [getD_snoc T m [] j n h.len]
    by_cases h1 : j ≤ n
    · rw [if_pos h1]; exact h.mem j h1 x
    · obtain rfl : j = n + 1 := by omega
      rw [if_neg h1, if_pos rfl]; exact hm x
  · rw [getD_snoc T m [] j n h.len]
    by_cases h1 : j ≤ n
    · rw [if_pos h1]; exact h.nodup j h1
    · obtain rfl : j = n + 1 := by omega
      rw [if_neg h1, if_pos rfl]; exact hn
theorem app_toL (a b : ByteArray) : (a ++ b).data.toList = a.data.toList ++ b.data.toList := by rw [ByteArray.data_append, Array.toList_append]
theorem catL_size (ts : List ByteArray) (x : ByteArray) (h : catL ts = x.data.toList) : x.size = (catL ts).length := by rw [h, Lib.size_eq]
theorem mem_behind {ss : List ByteArray} (hset : W.isSet ss = true) {n : Nat} {T : List (List ByteArray)} (h : Tab ss n T) (x : ByteArray) : x ∈ ss.flatMap (behind T (n + 1)) ↔ isW ss (n + 1) x := by
  rw [List.mem_flatMap]
  constructor
  · rintro ⟨t, ht, hx⟩
    have h8 := set_size hset ht
    unfold behind at hx
    split at hx
    · obtain ⟨s, hs, rfl⟩ := List.mem_map.1 hx
      obtain ⟨h1, ts, h2, h3⟩ := (h.mem _ (by omega) s).1 hs
      refine ⟨by rw [ByteArray.size_append]; omega, ts ++ [t], fun y hy => ?_, by rw [catL_append, catL_one, h3, app_toL]⟩
      rcases List.mem_append.1 hy with hy | hy
      · exact h2 y hy
      · rw [List.mem_singleton.1 hy]; exact ht
    · simp at hx
  · rintro ⟨h1, ts, h2, h3⟩
    rcases List.eq_nil_or_concat ts with rfl | ⟨us, t, rfl⟩
    · have h0 : x.size = 0 := catL_size [] x h3
      omega
    · have ht : t ∈ ss := h2 t (by simp)
      have h8 := set_size hset ht
      rw [List.concat_eq_append, catL_append, catL_one] at h3
      have hl := congrArg List.length h3
      rw [List.length_append, ← Lib.size_eq, ← Lib.size_eq, h1] at hl
      refine ⟨t, ht, ?_⟩
      unfold behind
      rw [if_pos (by omega)]
      refine List.mem_map.2 ⟨⟨(catL us).toArray⟩, (h.mem _ (by omega) _).2 ⟨?_, us, fun y hy => h2 y (by simp [hy]), rfl⟩, data_inj ?_⟩
      · show (catL us).toArray.size = _
        simp
        omega
      · rw [app_toL]
        exact h3
theorem mem_before {ss : List ByteArray} (hset : W.isSet ss = true) {n : Nat} {T : List (List ByteArray)} (h : Tab ss n T) (x : ByteArray) : x ∈ ss.flatMap (before T (n + 1)) ↔ isW ss (n + 1) x := by
  rw [List.mem_flatMap]
  constructor
  · rintro ⟨t, ht, hx⟩
    have h8 := set_size hset ht
    unfold before at hx
    split at hx
    · obtain ⟨s, hs, rfl⟩ := List.mem_map.1 hx
      obtain ⟨h1, ts, h2, h3⟩ := (h.mem _ (by omega) s).1 hs
      refine ⟨by rw [ByteArray.size_append]; omega, t :: ts, fun y hy => ?_, by rw [catL_cons, h3, app_toL]⟩
      rcases List.mem_cons.1 hy with rfl | hy
      · exact ht
      · exact h2 y hy
    · simp at hx
  · rintro ⟨h1, ts, h2, h3⟩
    cases ts with
    | nil =>
      have h0 : x.size = 0 := catL_size [] x h3
      omega
    | cons t us =>
      have ht : t ∈ ss := h2 t (by simp)
      have h8 := set_size hset ht
      rw [catL_cons] at h3
      have hl := congrArg List.length h3
      rw [List.length_append, ← Lib.size_eq, ← Lib.size_eq, h1] at hl
      refine ⟨t, ht, ?_⟩
      unfold before
      rw [if_pos (by omega)]
      refine List.mem_map.2 ⟨⟨(catL us).toArray⟩, (h.mem _ (by omega) _).2 ⟨?_, us, fun y hy => h2 y (by simp [hy]), rfl⟩, data_inj ?_⟩
      · show (catL us).toArray.size = _
        simp
        omega
      · rw [app_toL]
        exact h3
theorem nodup_same {l m : List ByteArray} (hl : l.Nodup) (hm : m.Nodup) (h : ∀ x, x ∈ l ↔ x ∈ m) : l.length = m.length :=
  Nat.le_antisymm (G.nodup_le _ _ hl (fun x hx => (h x).1 hx)) (G.nodup_le _ _ hm (fun x hx => (h x).2 hx))
theorem Tab.same {ss : List ByteArray} {n : Nat} {T T' : List (List ByteArray)} (h : Tab ss n T) (h' : Tab ss n T') : (T.getD n []).length = (T'.getD n []).length :=
  nodup_same (h.nodup n (Nat.le_refl _)) (h'.nodup n (Nat.le_refl _)) (fun x => (h.mem n (Nat.le_refl _) x).trans (h'.mem n (Nat.le_refl _) x).symm)
/-- all lists of so many letters -/
def allL : Nat → List (List UInt8)
  | 0 => [[]]
  | n + 1 => (allL n).map (97 :: ·) ++ ((allL n).map (98 :: ·) ++ (allL n).map (99 :: ·))
theorem allL_length : ∀ n, (allL n).length = 3 ^ n
  | 0 => rfl
  | n + 1 => by
    have := allL_length n
    unfold allL
    rw [List.length_append, List.length_append, List.length_map, List.length_map, List.length_map, this, Nat.pow_succ]
    omega
theorem isL_cases (c : UInt8) (h : W.isL c = true) : c = 97 ∨ c = 98 ∨ c = 99 := by
  rw [← W.abc_contains] at h
  simpa using h
theorem mem_allL : ∀ l : List UInt8, W.isWd l = true → l ∈ allL l.length
  | [], _ => by simp [allL]
  | c :: l, h => by
    unfold W.isWd at h
    rw [List.all_cons, Bool.and_eq_true] at h
    have ih := mem_allL l h.2
    show c :: l ∈ allL (l.length + 1)
    unfold allL
    rcases isL_cases c h.1 with rfl | rfl | rfl
    · exact List.mem_append_left _ (List.mem_map.2 ⟨l, ih, rfl⟩)
    · exact List.mem_append_right _ (List.mem_append_left _ (List.mem_map.2 ⟨l, ih, rfl⟩))
    · exact List.mem_append_right _ (List.mem_append_right _ (List.mem_map.2 ⟨l, ih, rfl⟩))
theorem catL_letters {ss : List ByteArray} (hset : W.isSet ss = true) : ∀ ts : List ByteArray, (∀ t ∈ ts, t ∈ ss) → W.isWd (catL ts) = true
  | [], _ => rfl
  | t :: ts, h => by
    have ih := catL_letters hset ts (fun x hx => h x (List.mem_cons_of_mem _ hx))
    have h1 := set_mem hset t (h t (List.mem_cons_self ..))
    unfold W.short at h1
    simp only [Bool.and_eq_true] at h1
    have h2 := h1.2
    rw [catL_cons]
    unfold W.isWd at *
    rw [List.all_append, ih, h2]
    rfl
theorem Tab.few {ss : List ByteArray} (hset : W.isSet ss = true) {n : Nat} {T : List (List ByteArray)} (h : Tab ss n T) (hn : n ≤ 9) (j : Nat) : (T.getD j []).length ≤ 19683 := by
  by_cases hj : j ≤ n
  · have h1 : ((T.getD j []).map fun x => x.data.toList).Nodup := by
      rw [List.Nodup, List.pairwise_map]
      exact (h.nodup j hj).imp (fun {a b} hab e => hab (data_inj e))
    have h2 := G.nodup_le _ (allL j) h1 (fun l hl => by
      obtain ⟨x, hx, rfl⟩ := List.mem_map.1 hl
      obtain ⟨h3, ts, h4, h5⟩ := (h.mem j hj x).1 hx
      have := mem_allL x.data.toList (by rw [← h5]; exact catL_letters hset ts h4)
      rwa [← Lib.size_eq, h3] at this)
    rw [List.length_map, allL_length] at h2
    have h3 : 3 ^ j ≤ 3 ^ 9 := Nat.pow_le_pow_right (by omega) (by omega)
    have h4 : (3 : Nat) ^ 9 = 19683 := by decide
    omega
  · have h0 : T.getD j [] = [] := by
      rw [List.getD_eq_getElem?_getD, List.getElem?_eq_none (by rw [h.len]; omega)]
      rfl
    rw [h0]
    simp
theorem Tab.word {ss : List ByteArray} {n : Nat} {T : List (List ByteArray)} (h : Tab ss n T) (j : Nat) (x : ByteArray) (hx : x ∈ T.getD j []) : x.size ≤ n := by
  by_cases hj : j ≤ n
  · have := ((h.mem j hj x).1 hx).1
    omega
  · have h0 : T.getD j [] = [] := by
      rw [List.getD_eq_getElem?_getD, List.getElem?_eq_none (by rw [h.len]; omega)]
      rfl
    rw [h0] at hx
    simp at hx
open Classical in
/-- how many different texts of n letters are written -/
noncomputable def cwN (ss : List ByteArray) (n : Nat) : Nat := if h : ∃ T, Tab ss n T then ((Classical.choose h).getD n []).length else 0
theorem cwN_eq {ss : List ByteArray} {n : Nat} {T : List (List ByteArray)} (h : Tab ss n T) : cwN ss n = (T.getD n []).length := by
  have hex : ∃ T, Tab ss n T := ⟨T, h⟩
  unfold cwN
  rw [dif_pos hex]
  exact (Classical.choose_spec hex).same h
def cwOk (ss : List ByteArray) (n : Int) : Bool := W.isSet ss && decide (0 ≤ n ∧ n ≤ 9)
noncomputable def cwOf (ss : List ByteArray) (n : Int) : Nat := if cwOk ss n then cwN ss n.toNat else 0
theorem cwOf_no {ss : List ByteArray} {n : Int} (h : cwOk ss n = false) : cwOf ss n = 0 := by unfold cwOf; rw [h]; rfl
theorem cwOf_yes {ss : List ByteArray} {n : Int} (h : cwOk ss n = true) : cwOf ss n = cwN ss n.toNat := by unfold cwOf; rw [h]; rfl

end Go.Proofs.YtiemoocdffobgaaDoor
