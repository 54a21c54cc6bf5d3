/-
  WHAT THIS FILE PROVES: plain facts on all words of at most so many letters that a set writes: one ordered list, whether rows by lengths are put behind each other or words are made longer one by one; no program in sight.
-/
import Derived.Test.YtlmcemdbalhkiaaDoorWrtL
import Derived.Test.YtlmcemdbalhkiaaDoorSub
namespace Go.Proofs.YtlmcemdbalhkiaaDoor

/-- an ordered list of all written words of 1..n letters -/
def Wu (ss : List ByteArray) (n : Nat) (L : List ByteArray) : Prop := W.Inc (raw L) ∧ ∀ x, x ∈ L ↔ 1 ≤ x.size ∧ x.size ≤ n ∧ isW ss x.size x
open Classical in
noncomputable def wuL (ss : List ByteArray) (n : Nat) : List ByteArray := if h : ∃ L, Wu ss n L then Classical.choose h else []
theorem wuL_eq {ss : List ByteArray} {n : Nat} {L : List ByteArray} (h : Wu ss n L) : wuL ss n = L := by
  have hex : ∃ L, Wu ss n L := ⟨L, h⟩
  unfold wuL
  rw [dif_pos hex]
  have h2 := Classical.choose_spec hex
  exact inc_eq h2.1 h.1 (fun x => by rw [h2.2 x, h.2 x])
theorem inc_raw {L : List ByteArray} : W.Inc (raw L) ↔ L.Pairwise fun x y => W.less x.data.toList y.data.toList = true := by
  unfold W.Inc raw
  rw [List.pairwise_map]
theorem tab_wu {ss : List ByteArray} {n : Nat} {T : List (List ByteArray)} (hT : Tab ss n T) (hI : ∀ L ∈ T, W.Inc (raw L)) : Wu ss n (T.drop 1).flatten := by
  have hget : ∀ i (hi : i < (T.drop 1).length), (T.drop 1)[i] = T.getD (i + 1) [] := fun i hi => by
    have h1 : (T.drop 1)[i]? = T[i + 1]? := by rw [List.getElem?_drop, Nat.add_comm]
    rw [List.getElem?_eq_getElem hi] at h1
    rw [List.getD_eq_getElem?_getD, ← h1]
    rfl
  refine ⟨?_, fun x => ?_⟩
  · rw [inc_raw, List.pairwise_flatten]
    refine ⟨fun L hL => inc_raw.1 (hI L (List.mem_of_mem_drop hL)), ?_⟩
    rw [List.pairwise_iff_getElem]
    intro i j hi hj hij x hx y hy
    rw [hget i hi] at hx
    rw [hget j hj] at hy
    rw [List.length_drop, hT.len] at hi hj
    have h1 := ((hT.mem (i + 1) (by omega) x).1 hx).1
    have h2 := ((hT.mem (j + 1) (by omega) y).1 hy).1
    unfold W.less
    rw [decide_eq_true (by rw [← Lib.size_eq, ← Lib.size_eq]; omega)]
    rfl
  · rw [List.mem_flatten]
    constructor
    · rintro ⟨L, hL, hx⟩
      obtain ⟨i, hi, rfl⟩ := List.getElem_of_mem hL
      have hi' := hi
      rw [hget i hi] at hx
      rw [List.length_drop, hT.len] at hi
      have h1 := (hT.mem (i + 1) (by omega) x).1 hx
      have h2 := h1.1
      exact ⟨by omega, by omega, by rw [h2]; exact h1⟩
    · rintro ⟨h1, h2, h3⟩
      have hi : x.size - 1 < (T.drop 1).length := by rw [List.length_drop, hT.len]; omega
      refine ⟨(T.drop 1)[x.size - 1], List.getElem_mem hi, ?_⟩
      rw [hget _ hi, show x.size - 1 + 1 = x.size by omega]
      exact (hT.mem x.size h2 x).2 h3
theorem tab_ex {ss : List ByteArray} (hset : W.isSet ss = true) : ∀ n, ∃ T, Tab ss n T ∧ ∀ L ∈ T, W.Inc (raw L)
  | 0 => ⟨[[⟨#[]⟩]], Tab.zero, fun L hL => by
      rw [List.mem_singleton] at hL
      rw [hL]
      exact List.pairwise_singleton _ _⟩
  | n + 1 => by
    obtain ⟨T, h1, h2⟩ := tab_ex hset n
    refine ⟨T ++ [ordB (nowTo (before T (n + 1)) ss ss.length)], h1.nextB hset (inc_nodup (inc_ord _)) (fun x => mem_ord _ x), fun L hL => ?_⟩
    rcases List.mem_append.1 hL with hL | hL
    · exact h2 L hL
    · rw [List.mem_singleton] at hL
      rw [hL]
      exact inc_ord _
theorem wu_ex {ss : List ByteArray} (hset : W.isSet ss = true) (n : Nat) : Wu ss n (wuL ss n) := by
  obtain ⟨T, h1, h2⟩ := tab_ex hset n
  have h := tab_wu h1 h2
  rw [wuL_eq h]
  exact h
def wuAsk (ss : List ByteArray) (n : Int) : Bool := W.isSet ss && decide (0 ≤ n ∧ n ≤ 8)
noncomputable def wuOk (ss : List ByteArray) (n : Int) : Bool := wuAsk ss n && decide ((wuL ss n.toNat).length ≤ 200)
/-- what WrittenUpTo tells -/
noncomputable def wuOf (ss : List ByteArray) (n : Int) : List ByteArray := if wuOk ss n then wuL ss n.toNat else []
theorem wuOf_no {ss : List ByteArray} {n : Int} (h : wuOk ss n = false) : wuOf ss n = [] := by unfold wuOf; rw [h]; rfl
theorem wuOf_yes {ss : List ByteArray} {n : Int} (h : wuOk ss n = true) : wuOf ss n = wuL ss n.toNat := by unfold wuOf; rw [h]; rfl
theorem wuOf_len (ss : List ByteArray) (n : Int) : (wuOf ss n).length ≤ 200 := by
  cases h : wuOk ss n
  · rw [wuOf_no h]; simp
  · rw [wuOf_yes h]
    unfold wuOk at h
    simp only [Bool.and_eq_true, decide_eq_true_eq] at h
    exact h.2

/-- the words so far: those with an index below k have been made longer by each word of the set -/
structure Sw (ss : List ByteArray) (n k : Nat) (L : List ByteArray) : Prop where
  inc : W.Inc (raw L)
  mem : ∀ x ∈ L, x.size ≤ n ∧ isW ss x.size x
  head : (⟨#[]⟩ : ByteArray) ∈ L
  done : ∀ i, i < k → ∀ t ∈ ss, (W.nth L i ++ t).size ≤ n → W.nth L i ++ t ∈ L
/-- the word with the index k by the first j words of the set -/
def Swj (ss : List ByteArray) (n k j : Nat) (L : List ByteArray) : Prop := ∀ i, i < j → (W.nth L k ++ W.nth ss i).size ≤ n → W.nth L k ++ W.nth ss i ∈ L
theorem isW_add {ss : List ByteArray} {u t : ByteArray} (hu : isW ss u.size u) (ht : t ∈ ss) : isW ss (u ++ t).size (u ++ t) := by
  obtain ⟨_, ts, h1, h2⟩ := hu
  refine ⟨rfl, ts ++ [t], fun y hy => ?_, ?_⟩
  · rcases List.mem_append.1 hy with hy | hy
    · exact h1 y hy
    · rw [List.mem_singleton] at hy; rw [hy]; exact ht
  · rw [catL_append, catL_one, h2, app_toL]
theorem Sw.start (ss : List ByteArray) (n : Nat) : Sw ss n 0 [⟨#[]⟩] := by
  refine ⟨List.pairwise_singleton _ _, fun x hx => ?_, by simp, fun i hi => absurd hi (Nat.not_lt_zero _)⟩
  rw [List.mem_singleton] at hx
  subst hx
  exact ⟨Nat.zero_le _, rfl, [], by simp, rfl⟩
theorem inc_less {L : List ByteArray} (h : W.Inc (raw L)) {i j : Nat} (hij : i < j) (hj : j < L.length) : W.less (W.nth L i).data.toList (W.nth L j).data.toList = true := by
  have := List.pairwise_iff_getElem.1 (inc_raw.1 h) i j (by omega) hj hij
  rw [W.nth_lt L i (by omega), W.nth_lt L j hj]
  exact this
/-- a word behind the one with the index k put in turns none up to this -/
theorem put_keep {L : List ByteArray} (h : W.Inc (raw L)) {k : Nat} (hk : k < L.length) {x : ByteArray} (hx : W.less (W.nth L k).data.toList x.data.toList = true) : k < (putB L x).length ∧ ∀ i, i ≤ k → W.nth (putB L x) i = W.nth L i := by
  have hless : ∀ i, i ≤ k → W.less (W.nth L i).data.toList x.data.toList = true := fun i hi => by
    by_cases e : i = k
    · subst e; exact hx
    · exact W.less_trans (inc_less h (by omega) hk) hx
  have hah : ∀ i, i ≤ k + 1 → i ≤ aheadB L x := by
    intro i
    induction i with
    | zero => intro _; omega
    | succ i ih =>
      intro hi
      refine ahead_lt (by omega) (ih (by omega)) ?_
      have := hless i (by omega)
      rwa [W.nth_lt L i (by omega)] at this
  have ha := hah (k + 1) (Nat.le_refl _)
  have hal := aheadB_le L x
  unfold putB
  split
  · exact ⟨hk, fun _ _ => rfl⟩
  · refine ⟨by rw [List.length_append, List.length_take, List.length_cons, List.length_drop]; omega, fun i hi => ?_⟩
    have h1 : i < (L.take (aheadB L x)).length := by rw [List.length_take]; omega
    rw [W.nth_lt _ i (by rw [List.length_append]; omega), List.getElem_append_left h1, List.getElem_take, W.nth_lt L i (by omega)]
theorem mem_putB {L : List ByteArray} {x y : ByteArray} : y ∈ putB L x ↔ y ∈ L ∨ y = x := by
  have key : ∀ M : List ByteArray, y ∈ M ↔ y.data.toList ∈ raw M := fun M => mem_raw.symm
  rw [key, raw_put, W.mem_put, ← key]
  constructor
  · rintro (h | h)
    · exact .inl h
    · exact .inr (data_inj h)
  · rintro (h | h)
    · exact .inl h
    · exact .inr (by rw [h])
theorem inc_putB {L : List ByteArray} (h : W.Inc (raw L)) (x : ByteArray) : W.Inc (raw (putB L x)) := by rw [raw_put]; exact W.inc_put _ h
theorem putB_len (L : List ByteArray) (x : ByteArray) : (putB L x).length ≤ L.length + 1 := by
  have := W.put_length (raw L) x.data.toList
  rw [← raw_put, raw_length, raw_length] at this
  exact this
theorem less_app {u t : ByteArray} (h : 1 ≤ t.size) : W.less u.data.toList (u ++ t).data.toList = true := by
  unfold W.less
  rw [decide_eq_true (by rw [← Lib.size_eq, ← Lib.size_eq, ByteArray.size_append]; omega)]
  rfl
theorem Sw.add {ss : List ByteArray} {n k j : Nat} {L : List ByteArray} (hset : W.isSet ss = true) (h : Sw ss n k L) (hk : k < L.length) (hj : Swj ss n k j L) (hlt : j < ss.length) (hs : (W.nth L k ++ W.nth ss j).size ≤ n) :
    Sw ss n k (putB L (W.nth L k ++ W.nth ss j)) ∧ Swj ss n k (j + 1) (putB L (W.nth L k ++ W.nth ss j)) ∧ k < (putB L (W.nth L k ++ W.nth ss j)).length ∧ W.nth (putB L (W.nth L k ++ W.nth ss j)) k = W.nth L k := by
  have hm : W.nth L k ∈ L := by rw [W.nth_lt L k hk]; exact List.getElem_mem hk
  have ht : W.nth ss j ∈ ss := by rw [W.nth_lt ss j hlt]; exact List.getElem_mem hlt
  have h1 := put_keep h.inc hk (x := W.nth L k ++ W.nth ss j) (less_app (set_size hset ht).1)
  refine ⟨⟨inc_putB h.inc _, fun x hx => ?_, mem_putB.2 (.inl h.head), fun i hi t ht hsz => ?_⟩, fun i hi hsz => ?_, h1.1, h1.2 k (Nat.le_refl _)⟩
  · rcases mem_putB.1 hx with hx | rfl
    · exact h.mem x hx
    · exact ⟨hs, isW_add (h.mem _ hm).2 ht⟩
  · rw [h1.2 i (by omega)] at hsz ⊢
    exact mem_putB.2 (.inl (h.done i hi t ht hsz))
  · rw [h1.2 k (Nat.le_refl _)] at hsz ⊢
    by_cases e : i = j
    · subst e; exact mem_putB.2 (.inr rfl)
    · exact mem_putB.2 (.inl (hj i (by omega) hsz))
theorem Swj.skip {ss : List ByteArray} {n k j : Nat} {L : List ByteArray} (hj : Swj ss n k j L) (hs : ¬ (W.nth L k ++ W.nth ss j).size ≤ n) : Swj ss n k (j + 1) L := fun i hi hsz => by
  by_cases e : i = j
  · subst e; exact absurd hsz hs
  · exact hj i (by omega) hsz
theorem Sw.next {ss : List ByteArray} {n k : Nat} {L : List ByteArray} (h : Sw ss n k L) (hj : Swj ss n k ss.length L) : Sw ss n (k + 1) L := by
  refine ⟨h.inc, h.mem, h.head, fun i hi t ht hs => ?_⟩
  by_cases e : i = k
  · subst e
    obtain ⟨m, hm, rfl⟩ := List.getElem_of_mem ht
    have := hj m hm
    rw [W.nth_lt ss m hm] at this
    exact this hs
  · exact h.done i (by omega) t ht hs
theorem Sw.sub {ss : List ByteArray} {n k : Nat} {L : List ByteArray} (hset : W.isSet ss = true) (h : Sw ss n k L) : L.length ≤ (wuL ss n).length + 1 := by
  have hw := wu_ex hset n
  have := G.nodup_le L (⟨#[]⟩ :: wuL ss n) (inc_nodup h.inc) (fun x hx => by
    by_cases e : x.size = 0
    · rw [size_zero e]; exact List.mem_cons_self ..
    · exact List.mem_cons_of_mem _ ((hw.2 x).2 ⟨by omega, (h.mem x hx).1, (h.mem x hx).2⟩))
  simpa using this
theorem Sw.all {ss : List ByteArray} {n : Nat} {L : List ByteArray} (h : Sw ss n L.length L) : ∀ (m : Nat) (ts : List ByteArray), ts.length = m → (∀ t ∈ ts, t ∈ ss) → ∀ x : ByteArray, x.data.toList = catL ts → x.size ≤ n → x ∈ L
  | 0, ts, hl, _, x, hx, _ => by
    obtain rfl := List.eq_nil_of_length_eq_zero hl
    have : x = ⟨#[]⟩ := data_inj hx
    rw [this]
    exact h.head
  | m + 1, ts, hl, hts, x, hx, hn => by
    rcases List.eq_nil_or_concat ts with rfl | ⟨us, t, rfl⟩
    · simp at hl
    · rw [List.concat_eq_append] at hx hl hts
      have hx2 : x = ⟨(catL us).toArray⟩ ++ t := data_inj (by rw [hx, catL_append, catL_one, app_toL])
      have hu := Sw.all h m us (by simpa using hl) (fun y hy => hts y (List.mem_append_left _ hy)) ⟨(catL us).toArray⟩ rfl (by rw [hx2, ByteArray.size_append] at hn; omega)
      obtain ⟨i, hi, e⟩ := List.getElem_of_mem hu
      have := h.done i hi t (hts t (List.mem_append_right _ (List.mem_singleton.2 rfl)))
      rw [W.nth_lt L i hi, e, ← hx2] at this
      exact this hn
theorem Sw.tail {ss : List ByteArray} {n : Nat} {L : List ByteArray} (h : Sw ss n L.length L) : L = ⟨#[]⟩ :: L.tail ∧ Wu ss n L.tail := by
  cases hL : L with
  | nil => have := h.head; rw [hL] at this; simp at this
  | cons a r =>
    have hinc := inc_raw.1 h.inc
    rw [hL] at hinc
    obtain ⟨h1, h2⟩ := List.pairwise_cons.1 hinc
    have ha : a = ⟨#[]⟩ := by
      have hh := h.head
      rw [hL] at hh
      rcases List.mem_cons.1 hh with e | hh
      · exact e.symm
      · have := h1 _ hh
        unfold W.less at this
        simp at this
        exact this.1
    subst ha
    refine ⟨rfl, inc_raw.2 h2, fun x => ?_⟩
    constructor
    · intro hx
      have hm := h.mem x (by rw [hL]; exact List.mem_cons_of_mem _ hx)
      have hl := h1 x hx
      refine ⟨?_, hm⟩
      rcases Nat.lt_or_ge 0 x.size with h0 | h0
      · exact h0
      · rw [size_zero (show x.size = 0 by omega), W.less_irrefl] at hl
        cases hl
    · rintro ⟨h3, h4, h5⟩
      obtain ⟨_, ts, h6, h7⟩ := h5
      have := Sw.all h ts.length ts rfl h6 x h7.symm h4
      rw [hL] at this
      rcases List.mem_cons.1 this with e | hx
      · rw [e] at h3
        exact absurd h3 (by decide)
      · exact hx
end Go.Proofs.YtlmcemdbalhkiaaDoor
