/-
  WHAT THIS FILE PROVES: plain facts on the dangling lists of a set: each is what is reached in so many steps, they repeat soon, and their texts tell them apart; no program in sight.
-/
import Derived.Test.YtjopbmhldpcpdaaGreatDoorQuot
import Derived.Test.YtjopbmhldpcpdaaGreatDoorTexts
import Derived.Test.YtjopbmhldpcpdaaGreatDoorCyc
import Derived.Test.YtjopbmhldpcpdaaGreatDoorHb
namespace Go.Proofs.YtjopbmhldpcpdaaGreatDoor

/-- the dangling lists of a set -/
def dl (ss : List ByteArray) : Nat → List ByteArray
  | 0 => ordB (rests ss ss)
  | n + 1 => ordB (rests ss (dl ss n) ++ rests (dl ss n) ss)
/-- one step: a word of the set is taken away, or is begun -/
def dE (ss : List ByteArray) (u x : ByteArray) : Prop := ∃ t, t ∈ ss ∧ (x ∈ restOf t u ∨ x ∈ restOf u t)
def dI (ss : List ByteArray) (x : ByteArray) : Prop := x ∈ rests ss ss
/-- all ends of words of the set, but for these -/
def dS (ss : List ByteArray) : List ByteArray := ss.flatMap fun t => (List.range (t.size - 1)).map fun i => t.extract (i + 1) t.size

theorem mem_rests {ss ts : List ByteArray} {x : ByteArray} : x ∈ rests ss ts ↔ ∃ s, s ∈ ss ∧ ∃ t, t ∈ ts ∧ x ∈ restOf s t := by
  unfold rests restsOf
  simp only [List.mem_flatMap]
theorem mem_dl (ss : List ByteArray) : ∀ n x, x ∈ dl ss n ↔ G.reach (dE ss) (dI ss) n x
  | 0, x => mem_ord _ _
  | n + 1, x => by
    have ih := mem_dl ss n
    show x ∈ ordB _ ↔ _
    rw [mem_ord, List.mem_append, mem_rests, mem_rests]
    constructor
    · rintro (⟨s, hs, t, ht, hx⟩ | ⟨s, hs, t, ht, hx⟩)
      · exact ⟨t, (ih t).1 ht, s, hs, .inl hx⟩
      · exact ⟨s, (ih s).1 hs, t, ht, .inr hx⟩
    · rintro ⟨u, hu, t, ht, hx | hx⟩
      · exact .inl ⟨t, ht, u, (ih u).2 hu, hx⟩
      · exact .inr ⟨u, (ih u).2 hu, t, ht, hx⟩
theorem restOf_mem {s t x : ByteArray} (h : x ∈ restOf s t) : s.size < t.size ∧ x = t.extract s.size t.size ∧ Lib.hasPrefix t.data.toList s.data.toList = true := by
  unfold restOf at h
  split at h
  · rename_i hc
    simp only [Bool.and_eq_true, decide_eq_true_eq] at hc
    simp only [List.mem_singleton] at h
    exact ⟨hc.2, h, hc.1⟩
  · simp at h
theorem drop_toList (s : ByteArray) (k : Nat) : (s.extract k s.size).data.toList = s.data.toList.drop k := by
  rw [Lib.extract_eq]
  show (List.take (s.size - k) (List.drop k s.data.toList)) = _
  exact List.take_of_length_le (by simp)
theorem drop_size (s : ByteArray) (k : Nat) : (s.extract k s.size).size = s.size - k := by
  rw [Lib.size_eq, drop_toList, List.length_drop, ← Lib.size_eq]
theorem mem_dS {ss : List ByteArray} {x : ByteArray} : x ∈ dS ss ↔ ∃ t, t ∈ ss ∧ ∃ i, i + 1 < t.size ∧ x = t.extract (i + 1) t.size := by
  unfold dS
  simp only [List.mem_flatMap, List.mem_map, List.mem_range]
  constructor
  · rintro ⟨t, ht, i, hi, rfl⟩
    exact ⟨t, ht, i, by omega, rfl⟩
  · rintro ⟨t, ht, i, hi, rfl⟩
    exact ⟨t, ht, i, by omega, rfl⟩
theorem set_size {ss : List ByteArray} (h : W.isSet ss = true) {t : ByteArray} (ht : t ∈ ss) : 1 ≤ t.size ∧ t.size ≤ 8 := W.short_size _ (set_mem h t ht)
theorem dS_start {ss : List ByteArray} (h : W.isSet ss = true) (x : ByteArray) (hx : dI ss x) : x ∈ dS ss := by
  obtain ⟨s, hs, t, ht, hx⟩ := mem_rests.1 hx
  obtain ⟨h1, rfl, _⟩ := restOf_mem hx
  have := set_size h hs
  exact mem_dS.2 ⟨t, ht, s.size - 1, by omega, by rw [show s.size - 1 + 1 = s.size by omega]⟩
theorem dS_step {ss : List ByteArray} (x y : ByteArray) (hx : x ∈ dS ss) (he : dE ss x y) : y ∈ dS ss := by
  obtain ⟨t, ht, i, hi, rfl⟩ := mem_dS.1 hx
  have hsz := drop_size t (i + 1)
  obtain ⟨u, hu, hy | hy⟩ := he
  · obtain ⟨h1, rfl, _⟩ := restOf_mem hy
    refine mem_dS.2 ⟨t, ht, i + u.size, by omega, data_inj ?_⟩
    rw [drop_toList, drop_toList, drop_toList, List.drop_drop]
    congr 1
    omega
  · obtain ⟨h1, rfl, _⟩ := restOf_mem hy
    exact mem_dS.2 ⟨u, hu, t.size - (i + 1) - 1, by omega, by rw [hsz, show t.size - (i + 1) - 1 + 1 = t.size - (i + 1) by omega]⟩
theorem dS_length {ss : List ByteArray} (h : W.isSet ss = true) : (dS ss).length ≤ 84 := by
  have key : ∀ l : List ByteArray, (∀ t ∈ l, t.size ≤ 8) → (l.flatMap fun t => (List.range (t.size - 1)).map fun i => t.extract (i + 1) t.size).length ≤ l.length * 7 := by
    intro l
    induction l with
    | nil => intro _; simp
    | cons a r ih =>
      intro hl
      have h1 := hl a (List.mem_cons_self ..)
      have h2 := ih (fun t ht => hl t (List.mem_cons_of_mem _ ht))
      rw [List.flatMap_cons, List.length_append, List.length_map, List.length_range, List.length_cons]
      omega
  have h1 := key ss (fun t ht => (set_size h ht).2)
  have h2 := W.isSet_len ss h
  unfold dS
  omega
theorem dl_in {ss : List ByteArray} (h : W.isSet ss = true) (n : Nat) (x : ByteArray) (hx : x ∈ dl ss n) : x ∈ dS ss :=
  G.reach_in (dS_start h) (fun x y hx he => dS_step x y hx he) ((mem_dl ss n x).1 hx)
theorem dl_inc (ss : List ByteArray) : ∀ n, W.Inc (raw (dl ss n))
  | 0 => inc_ord _
  | _ + 1 => inc_ord _
/-- ordered lists with the same members are one -/
theorem inc_eq {l m : List ByteArray} (hl : W.Inc (raw l)) (hm : W.Inc (raw m)) (h : ∀ x, x ∈ l ↔ x ∈ m) : l = m := by
  refine raw_inj (W.inc_unique hl hm (fun x => ?_))
  constructor
  · intro hx
    obtain ⟨y, hy, rfl⟩ := List.mem_map.1 hx
    exact List.mem_map.2 ⟨y, (h y).1 hy, rfl⟩
  · intro hx
    obtain ⟨y, hy, rfl⟩ := List.mem_map.1 hx
    exact List.mem_map.2 ⟨y, (h y).2 hy, rfl⟩
theorem dl_repeat {ss : List ByteArray} (h : W.isSet ss = true) : ∃ m n, m < n ∧ n ≤ 400000000000 ∧ dl ss m = dl ss n := by
  obtain ⟨m, n, h1, h2, h3⟩ := G.lists_repeat (dS_length h) (dS_start h) (fun x y hx he => dS_step x y hx he) (dl ss) (mem_dl ss)
  exact ⟨m, n, h1, h2, inc_eq (dl_inc ss m) (dl_inc ss n) h3⟩
theorem inc_nodup {l : List ByteArray} (h : W.Inc (raw l)) : l.Nodup := by
  have := h
  unfold W.Inc raw at this
  rw [List.pairwise_map] at this
  exact this.imp (fun {a b} hab e => by subst e; rw [W.less_irrefl] at hab; cases hab)
theorem dl_length {ss : List ByteArray} (h : W.isSet ss = true) (n : Nat) : (dl ss n).length ≤ 84 :=
  Nat.le_trans (G.nodup_le _ _ (inc_nodup (dl_inc ss n)) (dl_in h n)) (dS_length h)
theorem isWd_drop (l : List UInt8) (k : Nat) (h : W.isWd l = true) : W.isWd (l.drop k) = true := by
  unfold W.isWd at *
  rw [List.all_eq_true] at *
  exact fun x hx => h x (List.mem_of_mem_drop hx)
/-- what dangles is a short word -/
theorem dl_word {ss : List ByteArray} (h : W.isSet ss = true) (n : Nat) (x : ByteArray) (hx : x ∈ dl ss n) : 1 ≤ x.size ∧ x.size ≤ 7 ∧ W.isWd x.data.toList = true := by
  obtain ⟨t, ht, i, hi, rfl⟩ := mem_dS.1 (dl_in h n x hx)
  have h8 := set_size h ht
  have hw := set_mem h t ht
  unfold W.short at hw
  simp only [Bool.and_eq_true] at hw
  rw [drop_size, drop_toList]
  exact ⟨by omega, by omega, isWd_drop _ _ hw.2⟩

/-- a list has a word of the set -/
def dHit (ss l : List ByteArray) : Bool := l.any (hasB ss)
/-- the list with the number n is one before -/
def dOld (ss : List ByteArray) (n : Nat) : Bool := (List.range n).any fun m => decide (dl ss m = dl ss n)
/-- the dangling lists end with the one with the number n -/
def dStop (ss : List ByteArray) (n : Nat) : Bool := dOld ss n || dHit ss (dl ss n) || (dl ss n).isEmpty
def dFind (ss : List ByteArray) : Nat → Nat → Nat
  | 0, n => n
  | f + 1, n => if dStop ss n then n else dFind ss f (n + 1)
/-- the number of the last dangling list -/
def dLast (ss : List ByteArray) : Nat := dFind ss 400000000000 0
theorem dFind_eq (ss : List ByteArray) (n : Nat) (h1 : ∀ m, m < n → dStop ss m = false) (h2 : dStop ss n = true) : ∀ f k, k ≤ n → n ≤ k + f → dFind ss f k = n
  | 0, k, h3, h4 => by
    show k = n
    omega
  | f + 1, k, h3, h4 => by
    unfold dFind
    by_cases e : k = n
    · subst e
      rw [if_pos h2]
    · rw [if_neg (by rw [h1 k (by omega)]; simp)]
      exact dFind_eq ss n h1 h2 f (k + 1) (by omega) (by omega)
/-- where the lists have not ended, few have been -/
theorem dStop_few {ss : List ByteArray} (h : W.isSet ss = true) (n : Nat) (h1 : ∀ m, m < n → dStop ss m = false) : n ≤ 400000000000 := by
  obtain ⟨a, b, hab, hb, e⟩ := dl_repeat h
  by_cases hn : n ≤ b
  · omega
  · have := h1 b (by omega)
    unfold dStop dOld at this
    rw [show ((List.range b).any fun m => decide (dl ss m = dl ss b)) = true from List.any_eq_true.2 ⟨a, by simpa using hab, by simpa using e⟩] at this
    simp at this
theorem dLast_eq {ss : List ByteArray} (h : W.isSet ss = true) (n : Nat) (h1 : ∀ m, m < n → dStop ss m = false) (h2 : dStop ss n = true) : dLast ss = n :=
  dFind_eq ss n h1 h2 _ 0 (Nat.zero_le _) (by have := dStop_few h n h1; omega)
/-- the dangling lists, up to the last one -/
def dLists (ss : List ByteArray) (n : Nat) : List (List ByteArray) := (List.range n).map (dl ss)
theorem dLists_succ (ss : List ByteArray) (n : Nat) : dLists ss (n + 1) = dLists ss n ++ [dl ss n] := by
  unfold dLists
  rw [List.range_succ, List.map_append]
  rfl
theorem dLists_length (ss : List ByteArray) (n : Nat) : (dLists ss n).length = n := by simp [dLists]

theorem split_one : ∀ (x y r s : List UInt8), 44 ∉ x → 44 ∉ y → x ++ 44 :: r = y ++ 44 :: s → x = y ∧ r = s
  | [], [], _, _, _, _, h => ⟨rfl, by simpa using h⟩
  | [], b :: y, _, _, _, h2, h => by
    simp only [List.nil_append, List.cons_append, List.cons.injEq] at h
    exact absurd (by rw [h.1]; exact List.mem_cons_self ..) h2
  | a :: x, [], _, _, h1, _, h => by
    simp only [List.nil_append, List.cons_append, List.cons.injEq] at h
    exact absurd (by rw [h.1]; exact List.mem_cons_self ..) h1
  | a :: x, b :: y, r, s, h1, h2, h => by
    simp only [List.cons_append, List.cons.injEq] at h
    obtain ⟨e1, e2⟩ := split_one x y r s (fun hx => h1 (List.mem_cons_of_mem _ hx)) (fun hx => h2 (List.mem_cons_of_mem _ hx)) h.2
    exact ⟨by rw [h.1, e1], e2⟩
theorem tail_cons (z : List UInt8) (r : List (List UInt8)) : Lib.joinTail [44] (z :: r) = 44 :: (z ++ Lib.joinTail [44] r) := by
  unfold Lib.joinTail
  simp
theorem join_inj : ∀ (r s : List (List UInt8)) (x y : List UInt8), 44 ∉ x → 44 ∉ y → (∀ z ∈ r, 44 ∉ z) → (∀ z ∈ s, 44 ∉ z) → x ++ Lib.joinTail [44] r = y ++ Lib.joinTail [44] s → x = y ∧ r = s
  | [], [], x, y, _, _, _, _, h => by
    have e : Lib.joinTail [44] [] = [] := rfl
    rw [e, List.append_nil, List.append_nil] at h
    exact ⟨h, rfl⟩
  | [], z :: s, x, y, hx, _, _, _, h => by
    rw [tail_cons] at h
    have e : Lib.joinTail [44] [] = [] := rfl
    rw [e, List.append_nil] at h
    exact absurd (by rw [h]; simp) hx
  | z :: r, [], x, y, _, hy, _, _, h => by
    rw [tail_cons] at h
    have e : Lib.joinTail [44] [] = [] := rfl
    rw [e, List.append_nil] at h
    exact absurd (by rw [← h]; simp) hy
  | z :: r, z' :: s, x, y, hx, hy, hr, hs, h => by
    rw [tail_cons, tail_cons] at h
    obtain ⟨e1, e2⟩ := split_one x y _ _ hx hy h
    obtain ⟨e3, e4⟩ := join_inj r s z z' (hr z (List.mem_cons_self ..)) (hs z' (List.mem_cons_self ..)) (fun q hq => hr q (List.mem_cons_of_mem _ hq)) (fun q hq => hs q (List.mem_cons_of_mem _ hq)) e2
    exact ⟨e1, by rw [e3, e4]⟩
theorem no_comma {l : List UInt8} (h : W.isWd l = true) : 44 ∉ l := fun hm => by
  have := List.all_eq_true.1 h 44 hm
  revert this
  decide
/-- lists of words are told apart by their texts -/
theorem texts_inj {l m : List ByteArray} (hl : ∀ x ∈ l, W.isWd x.data.toList = true) (hm : ∀ x ∈ m, W.isWd x.data.toList = true) (hl0 : l ≠ []) (hm0 : m ≠ []) (h : Lib.join (W.bytes l) [44] = Lib.join (W.bytes m) [44]) : l = m := by
  cases l with
  | nil => exact absurd rfl hl0
  | cons a r =>
    cases m with
    | nil => exact absurd rfl hm0
    | cons b q =>
      have e : raw (a :: r) = raw (b :: q) := by
        show a.data.toList :: raw r = b.data.toList :: raw q
        have h' : Lib.join (a.data.toList :: raw r) [44] = Lib.join (b.data.toList :: raw q) [44] := h
        rw [Lib.join_cons, Lib.join_cons] at h'
        have nc : ∀ (l : List ByteArray), (∀ x ∈ l, W.isWd x.data.toList = true) → ∀ z ∈ raw l, 44 ∉ z := fun l hl z hz => by
          obtain ⟨x, hx, rfl⟩ := List.mem_map.1 hz
          exact no_comma (hl x hx)
        obtain ⟨e1, e2⟩ := join_inj _ _ _ _ (no_comma (hl a (List.mem_cons_self ..))) (no_comma (hm b (List.mem_cons_self ..))) (nc r (fun x hx => hl x (List.mem_cons_of_mem _ hx))) (nc q (fun x hx => hm x (List.mem_cons_of_mem _ hx))) h'
        rw [e1, e2]
      exact raw_inj e

/-- to put words behind an ordered list is to order both -/
theorem ord_fold (ys zs : List ByteArray) : (ordB zs).foldl putB (ordB ys) = ordB (ys ++ zs) := by
  refine inc_eq ?_ (inc_ord _) (fun x => ?_)
  · rw [raw_fold]
    exact W.inc_puts _ _ (inc_ord ys)
  · rw [mem_ord, List.mem_append, ← mem_raw, raw_fold, W.mem_puts, mem_raw, mem_raw, mem_ord, mem_ord]

end Go.Proofs.YtjopbmhldpcpdaaGreatDoor
