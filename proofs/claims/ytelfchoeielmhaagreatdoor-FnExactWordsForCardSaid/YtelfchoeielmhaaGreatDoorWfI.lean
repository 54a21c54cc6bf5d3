/-
  WHAT THIS FILE PROVES: a slice of the call's own, its elements of one cell each, behind the library's sort: it owns the sorted list, all else is as it was; slices of slices whose order has turned own the same rows; each asks what its premises name.
  And: plain facts on words for lengths in any order: lengths are taken by size, those of equal size in order, and get the words of the first prefix set; no program in sight.
  And: plain facts on when words for lengths can be, and what they are while they are laid; no program in sight.
  And: words for lengths in any order: the specification's function gives the plain ones; asked: a slice in memory, a length that an int holds.
  And: words for lengths in any order: the program's function gives the plain ones; asked: a slice in memory, a length that an int holds.
-/
import Derived.Test.YtelfchoeielmhaaGreatDoorSSMem
import Derived.Sort.Grow
import Derived.Laws.OwnMore
import Derived.Test.YtelfchoeielmhaaGreatDoorMr
import Derived.Test.YtelfchoeielmhaaGreatDoorKrT
import Derived.Test.YtelfchoeielmhaaGreatDoorKrF
import Derived.Test.YtelfchoeielmhaaGreatDoorMrT
import Derived.Test.YtelfchoeielmhaaGreatDoorMemS
import Derived.Test.YtelfchoeielmhaaGreatDoorKrL
import Derived.Test.YtelfchoeielmhaaGreatDoorBeI
import Derived.Lib.Slices
namespace Go.Proofs.YtelfchoeielmhaaGreatDoor
open Go.RowKit Go.Sort

section
variable {α : Type} [Inhabited α] (enc : α → Value)
/-- what the sort's contract asks of the slice -/
theorem own_holds {w : World} {base e g cap : Nat} {xs : List α} (h : w.ownsRow base e 1 (.slice (some ⟨g, 0, none⟩) xs.length cap) xs.length (xs.map enc)) : Holds enc w g 0 xs.toArray := fun j hj => by
  have hj' : j < xs.length := by simpa using hj
  have h1 := h.cellAt j (by omega)
  rw [List.getElem?_map, List.getElem?_eq_getElem hj'] at h1
  refine ⟨?_, ?_⟩
  · rw [Nat.zero_add, h1]
    simp [hj']
  · rw [Nat.zero_add]
    exact h.frozenAt j
theorem sort_grown {w : World} {g n : Nat} (os : Array Obj) (d : Array α) : w.grownBy (grow (putRow enc (Sort.ahead w n) g 0 d) os) (some g) where
  os := rfl
  tape := rfl
  output := rfl
  size := by simp
  block k hk hne := by
    have hkg : g ≠ k := fun e => hne (by rw [e])
    rw [heap_grow_old _ _ (by simpa using hk)]
    simp [putRow, mapBlock, Sort.ahead, Array.getElem?_modify, hkg]
/-- behind the sort -/
theorem sort_own {w : World} {base e g cap n : Nat} {xs ys : List α} (os : Array Obj) (hl : ys.length = xs.length) (h : w.ownsRow base e 1 (.slice (some ⟨g, 0, none⟩) xs.length cap) xs.length (xs.map enc)) :
    (grow (putRow enc (Sort.ahead w n) g 0 ys.toArray) os).ownsRow base e 1 (.slice (some ⟨g, 0, none⟩) ys.length cap) ys.length (ys.map enc) := by
  refine ⟨by simp, ?_⟩
  rcases h.2 with ⟨h0, _⟩ | ⟨g', cap', cur, hv, hb, hh, hn, hm, hs, _⟩
  · cases h0
  · simp only [Value.slice.injEq, Option.some.injEq, Addr.mk.injEq] at hv
    obtain ⟨⟨rfl, _, _⟩, _, rfl⟩ := hv
    have hg := (Array.getElem?_eq_some_iff.1 hh).1
    have hblk : (grow (putRow enc (Sort.ahead w n) g 0 ys.toArray) os).heap[g]? = some (.cells (putCells enc 0 ys.toArray cur) e (0, 0)) := by
      rw [heap_grow_old _ _ (by simpa using hg)]
      simp [putRow, mapBlock, Sort.ahead, Array.getElem?_modify, hh, onCells]
    refine .inr ⟨g, cap, _, rfl, hb, hblk, by omega, hm, by simp [putCells, hs], ?_⟩
    rw [Nat.mul_one]
    refine List.ext_getElem? fun j => ?_
    by_cases hj : j < ys.length
    · rw [List.getElem?_take_of_lt hj, Array.getElem?_toList]
      simp [putCells, hj, show j < cur.size by omega]
    · rw [List.getElem?_take_eq_none (by omega), List.getElem?_eq_none (by simp; omega)]
end
/-- two slices lie apart -/
def apartV (p q : Value × List Value) : Prop := p.1.ownBlock = none ∨ p.1.ownBlock ≠ q.1.ownBlock
theorem apartV_symm {p q : Value × List Value} (h : apartV p q) : apartV q p := by
  rcases h with h | h
  · by_cases e : q.1.ownBlock = none
    · exact .inl e
    · exact .inr fun e2 => e (e2.trans h)
  · exact .inr fun e => h e.symm
/-- slices of slices in another order own the same rows -/
theorem ownAt_perm {w w' : World} {base E e : TypeId} {v v' : Value} {L L' : List (Value × List Value)} (hne : e ≠ E) (h : OwnAt w base E e v (L.map Prod.fst) (L.map Prod.snd)) (hp : L.Perm L')
    (ho : w'.ownsRow base E 1 v' L'.length (L'.map Prod.fst)) (hg : w.grownBy w' v.ownBlock) : OwnAt w' base E e v' (L'.map Prod.fst) (L'.map Prod.snd) := by
  have hpw : L.Pairwise apartV := by
    rw [List.pairwise_iff_getElem]
    intro i j hi hj hij
    exact h.sep i j _ _ (by omega) (by rw [List.getElem?_map, List.getElem?_eq_getElem hi]; rfl) (by rw [List.getElem?_map, List.getElem?_eq_getElem hj]; rfl)
  have hpw' : L'.Pairwise apartV := (hp.pairwise_iff apartV_symm).1 hpw
  refine ⟨by rw [List.length_map]; exact ho, fun i xs hx => ?_, fun i j u u' hij hu hu' => ?_⟩
  · rw [List.getElem?_map, Option.map_eq_some_iff] at hx
    obtain ⟨p, hi, rfl⟩ := hx
    obtain ⟨j, hj⟩ := List.getElem?_of_mem (hp.mem_iff.2 (List.mem_of_getElem? hi))
    obtain ⟨A, c, h1, h2⟩ := h.inner j p.2 (by rw [List.getElem?_map, hj]; rfl)
    rw [List.getElem?_map, hj] at h1
    have e1 : p.1 = .slice A p.2.length c := by injection h1
    have hap := h.ne hne p.1 (List.mem_map.2 ⟨p, List.mem_of_getElem? hj, rfl⟩)
    refine ⟨A, c, by rw [List.getElem?_map, hi, ← e1]; rfl, h2.kept hg ?_⟩
    rw [← e1]
    exact hap
  · rw [List.getElem?_map, Option.map_eq_some_iff] at hu hu'
    obtain ⟨p, hi, rfl⟩ := hu
    obtain ⟨q, hj, rfl⟩ := hu'
    obtain ⟨hi', ei⟩ := List.getElem?_eq_some_iff.1 hi
    obtain ⟨hj', ej⟩ := List.getElem?_eq_some_iff.1 hj
    have hpg := List.pairwise_iff_getElem.1 hpw'
    rcases Nat.lt_or_ge i j with hlt | hge
    · have := hpg i j hi' hj' hlt
      rw [ei, ej] at this
      exact this
    · have := apartV_symm (hpg j i hj' hi' (by omega))
      rw [ei, ej] at this
      exact this
end Go.Proofs.YtelfchoeielmhaaGreatDoor
namespace Go.Proofs.YtelfchoeielmhaaGreatDoor.W

/-- a list in order is what is less, what is equal, what is greater -/
theorem up_split {s : List Int} (h : UpI s) (v : Int) : s = s.filter (fun x => decide (x < v)) ++ (s.filter (fun x => decide (x = v)) ++ s.filter (fun x => decide (v < x))) := by
  induction s with
  | nil => rfl
  | cons a s ih =>
    have h1 := List.pairwise_cons.1 h
    have ih := ih h1.2
    have hge : ∀ x ∈ s, a ≤ x := fun x hx => by
      have := h1.1 x hx
      simpa [leI] using this
    by_cases e1 : a < v
    · have e2 : ¬ a = v := by omega
      have e3 : ¬ v < a := by omega
      simp only [List.filter_cons, e1, e2, e3, decide_true, decide_false, if_true, Bool.false_eq_true, if_false]
      rw [List.cons_append, ← ih]
    · have hno : s.filter (fun x => decide (x < v)) = [] := by
        rw [List.filter_eq_nil_iff]
        intro x hx
        have := hge x hx
        simp
        omega
      by_cases e2 : a = v
      · subst e2
        rw [hno, List.nil_append] at ih
        rw [List.filter_cons_of_neg (by simp), List.filter_cons_of_pos (by simp), List.filter_cons_of_neg (by simp), hno, List.nil_append, List.cons_append, ← ih]
      · have e3 : v < a := by omega
        have hno2 : s.filter (fun x => decide (x = v)) = [] := by
          rw [List.filter_eq_nil_iff]
          intro x hx
          have := hge x hx
          simp
          omega
        rw [hno, hno2, List.nil_append, List.nil_append] at ih
        simp only [List.filter_cons, e1, e2, e3, decide_true, decide_false, if_true, Bool.false_eq_true, if_false, hno, hno2, List.nil_append]
        rw [← ih]
/-- how many are less -/
def lo (z : List Int) (v : Int) : Nat := (z.filter fun x => decide (x < v)).length
/-- how many of the first i are equal -/
def eqn (z : List Int) (v : Int) (i : Nat) : Nat := ((z.take i).filter fun x => decide (x = v)).length
/-- the place of the next one of this size -/
def ps (z : List Int) (v : Int) (i : Nat) : Nat := lo z v + eqn z v i
theorem eqn_succ (z : List Int) (v : Int) (i : Nat) (h : i < z.length) : eqn z v (i + 1) = eqn z v i + if z[i] = v then 1 else 0 := by
  unfold eqn
  rw [List.take_succ_eq_append_getElem h, List.filter_append, List.length_append]
  congr 1
  by_cases e : z[i] = v
  · simp [e]
  · simp [e]
theorem eqn_mono (z : List Int) (v : Int) : ∀ d i, eqn z v i ≤ eqn z v (i + d)
  | 0, _ => Nat.le_refl _
  | d + 1, i => by
    refine Nat.le_trans (eqn_mono z v d i) ?_
    by_cases h : i + d < z.length
    · rw [← Nat.add_assoc, eqn_succ z v (i + d) h]
      omega
    · unfold eqn
      rw [List.take_of_length_le (by omega), List.take_of_length_le (by omega)]
      exact Nat.le_refl _
theorem perm_filter {a b : List Int} (h : a.Perm b) (p : Int → Bool) : (a.filter p).length = (b.filter p).length := (h.filter p).length_eq
theorem lo_sort (z : List Int) (v : Int) : lo (sortI z) v = lo z v := perm_filter (sortI_perm z) _
theorem eqAll (z : List Int) (v : Int) : ((sortI z).filter fun x => decide (x = v)).length = eqn z v z.length := by
  unfold eqn
  rw [List.take_length]
  exact perm_filter (sortI_perm z) _
/-- what stands at a place of the ordered list -/
theorem sort_at (z : List Int) (v : Int) (k : Nat) (hk : k < (sortI z).length) : (sortI z)[k] = v ↔ lo z v ≤ k ∧ k < lo z v + eqn z v z.length := by
  have hs := up_split (sortI_up z) v
  have hl : ((sortI z).filter fun x => decide (x < v)).length = lo z v := lo_sort z v
  have he := eqAll z v
  generalize hA : (sortI z).filter (fun x => decide (x < v)) = A at hs hl
  generalize hB : (sortI z).filter (fun x => decide (x = v)) = B at hs he
  generalize hC : (sortI z).filter (fun x => decide (v < x)) = C at hs
  have mA : ∀ x ∈ A, x < v := fun x hx => by rw [← hA] at hx; simpa using (List.mem_filter.1 hx).2
  have mB : ∀ x ∈ B, x = v := fun x hx => by rw [← hB] at hx; simpa using (List.mem_filter.1 hx).2
  have mC : ∀ x ∈ C, v < x := fun x hx => by rw [← hC] at hx; simpa using (List.mem_filter.1 hx).2
  clear hA hB hC
  generalize sortI z = s at hs hk ⊢
  subst hs
  rw [← hl, ← he]
  simp only [List.length_append] at hk
  by_cases h1 : k < A.length
  · rw [List.getElem_append_left h1]
    have := mA _ (List.getElem_mem h1)
    omega
  · rw [List.getElem_append_right (by omega)]
    by_cases h2 : k - A.length < B.length
    · rw [List.getElem_append_left h2]
      have := mB _ (List.getElem_mem h2)
      omega
    · rw [List.getElem_append_right (by omega)]
      have := mC _ (List.getElem_mem (show k - A.length - B.length < C.length by omega))
      omega
theorem ps_at (z : List Int) (i : Nat) (h : i < z.length) : ∃ hk : ps z z[i] i < (sortI z).length, (sortI z)[ps z z[i] i] = z[i] := by
  have h1 := eqn_succ z z[i] i h
  rw [if_pos rfl] at h1
  have h2 := eqn_mono z z[i] (z.length - (i + 1)) (i + 1)
  rw [show i + 1 + (z.length - (i + 1)) = z.length by omega] at h2
  have hs := congrArg List.length (up_split (sortI_up z) z[i])
  simp only [List.length_append] at hs
  rw [eqAll] at hs
  have hl : ((sortI z).filter fun x => decide (x < z[i])).length = lo z z[i] := lo_sort z z[i]
  rw [hl] at hs
  have hk : ps z z[i] i < (sortI z).length := by
    unfold ps
    omega
  exact ⟨hk, (sort_at z z[i] _ hk).2 (by unfold ps; omega)⟩
/-- the ordered list with those that are used struck -/
def bsF (z : List Int) (i k : Nat) : Int := if k < ps z ((sortI z).getD k 0) i then 0 else (sortI z).getD k 0
def bsL (z : List Int) (i : Nat) : List Int := (List.range z.length).map (bsF z i)
theorem bsL_length (z : List Int) (i : Nat) : (bsL z i).length = z.length := by simp [bsL]
theorem bsL_at (z : List Int) (i k : Nat) (h : k < z.length) : (bsL z i)[k]'(by rw [bsL_length]; exact h) = bsF z i k := by simp [bsL]
theorem sortI_getD (z : List Int) (k : Nat) (h : k < z.length) : (sortI z).getD k 0 = (sortI z)[k]'(by rw [sortI_length]; exact h) := getD_ltM _ _ (by rw [sortI_length]; exact h)
theorem bsL_zero (z : List Int) : bsL z 0 = sortI z := by
  apply List.ext_getElem
  · rw [bsL_length, sortI_length]
  · intro k h1 h2
    rw [bsL_length] at h1
    rw [bsL_at z 0 k h1]
    unfold bsF
    rw [sortI_getD z k h1]
    have h3 := (sort_at z _ k h2).1 rfl
    rw [if_neg]
    unfold ps eqn
    simp
    omega
theorem bsL_next (z : List Int) (i : Nat) (h : i < z.length) : bsL z (i + 1) = (bsL z i).set (ps z z[i] i) 0 := by
  obtain ⟨hk, hv⟩ := ps_at z i h
  apply List.ext_getElem
  · rw [List.length_set, bsL_length, bsL_length]
  · intro k h1 h2
    rw [bsL_length] at h1
    rw [bsL_at z (i + 1) k h1, List.getElem_set]
    unfold bsF
    rw [sortI_getD z k h1]
    by_cases e : ps z z[i] i = k
    · rw [if_pos e, if_pos]
      subst e
      rw [hv]
      have := eqn_succ z z[i] i h
      rw [if_pos rfl] at this
      unfold ps at hk ⊢
      omega
    · rw [if_neg e, bsL_at z i k h1]
      unfold bsF
      rw [sortI_getD z k h1]
      have h3 := eqn_succ z ((sortI z)[k]'(by rw [sortI_length]; exact h1)) i h
      by_cases e2 : z[i] = (sortI z)[k]'(by rw [sortI_length]; exact h1)
      · rw [if_pos e2] at h3
        rw [e2] at e
        unfold ps at e ⊢
        by_cases e3 : k < lo z ((sortI z)[k]'(by rw [sortI_length]; exact h1)) + eqn z ((sortI z)[k]'(by rw [sortI_length]; exact h1)) i
        · rw [if_pos e3, if_pos (by omega)]
        · rw [if_neg e3, if_neg (by omega)]
      · rw [if_neg e2] at h3
        unfold ps
        rw [h3, Nat.add_zero]
/-- the place is the first at which the size is left -/
theorem bsL_first (z : List Int) (i : Nat) (h : i < z.length) (h1 : 1 ≤ z[i]) : ∃ hk : ps z z[i] i < z.length, (bsL z i)[ps z z[i] i]'(by rw [bsL_length]; exact hk) = z[i] ∧ ∀ j (hj : j < ps z z[i] i), (bsL z i)[j]'(by rw [bsL_length]; omega) ≠ z[i] := by
  obtain ⟨hk, hv⟩ := ps_at z i h
  rw [sortI_length] at hk
  refine ⟨hk, ?_, fun j hj => ?_⟩
  · rw [bsL_at z i _ hk]
    unfold bsF
    rw [sortI_getD z _ hk, hv, if_neg (by omega)]
  · rw [bsL_at z i j (by omega)]
    unfold bsF
    rw [sortI_getD z j (by omega)]
    split
    · omega
    · rename_i h3
      intro e
      rw [e] at h3
      exact h3 hj
/-- the word of the length with the index i -/
def wfW (L : Nat) (z : List Int) (i : Nat) : ByteArray := wordAt L (sortI z) (ps z (z.getD i 0) i)
def wfL (L : Nat) (z : List Int) : List ByteArray := (List.range z.length).map (wfW L z)
theorem wfL_length (L : Nat) (z : List Int) : (wfL L z).length = z.length := by simp [wfL]
/-- the words when those before an index, and all that are less, are laid -/
def wfM (L : Nat) (z : List Int) (v : Int) (i : Nat) : List ByteArray := (List.range z.length).map fun j => if z.getD j 0 < v ∨ (z.getD j 0 = v ∧ j < i) then wfW L z j else ByteArray.empty
theorem wfM_length (L : Nat) (z : List Int) (v : Int) (i : Nat) : (wfM L z v i).length = z.length := by simp [wfM]
theorem wfM_skip (L : Nat) (z : List Int) (v : Int) (i : Nat) (h : i < z.length) (hne : z[i] ≠ v) : wfM L z v (i + 1) = wfM L z v i := by
  unfold wfM
  apply List.map_congr_left
  intro j hj
  have hj : j < z.length := by simpa using hj
  by_cases e : j = i
  · subst e
    rw [getD_ltM z j h]
    by_cases h1 : z[j] < v
    · rw [if_pos (.inl h1), if_pos (.inl h1)]
    · rw [if_neg (by omega), if_neg (by omega)]
  · by_cases h1 : z.getD j 0 < v ∨ (z.getD j 0 = v ∧ j < i)
    · rw [if_pos h1, if_pos (by omega)]
    · rw [if_neg h1, if_neg (by omega)]
theorem wfM_set (L : Nat) (z : List Int) (v : Int) (i : Nat) (h : i < z.length) (he : z[i] = v) : (wfM L z v i).set i (wfW L z i) = wfM L z v (i + 1) := by
  apply List.ext_getElem
  · rw [List.length_set, wfM_length, wfM_length]
  · intro j h1 h2
    rw [List.getElem_set]
    unfold wfM at h2 ⊢
    simp only [List.length_map, List.length_range] at h2
    simp only [List.getElem_map, List.getElem_range]
    by_cases e : i = j
    · subst e
      rw [if_pos rfl, if_pos (.inr ⟨by rw [getD_ltM z i h]; exact he, by omega⟩)]
    · rw [if_neg e]
      by_cases h3 : z.getD j 0 < v ∨ (z.getD j 0 = v ∧ j < i)
      · rw [if_pos h3, if_pos (by omega)]
      · rw [if_neg h3, if_neg (by omega)]
theorem wfM_row (L : Nat) (z : List Int) (v : Int) : wfM L z v z.length = wfM L z (v + 1) 0 := by
  unfold wfM
  apply List.map_congr_left
  intro j hj
  have hj : j < z.length := by simpa using hj
  by_cases h3 : z.getD j 0 < v ∨ (z.getD j 0 = v ∧ j < z.length)
  · rw [if_pos h3, if_pos (by omega)]
  · rw [if_neg h3, if_neg (by omega)]
theorem wfM_start (L : Nat) (z : List Int) (h : ∀ x ∈ z, 1 ≤ x) : wfM L z 1 0 = List.replicate z.length ByteArray.empty := by
  unfold wfM
  rw [List.eq_replicate_iff]
  refine ⟨by simp, fun b hb => ?_⟩
  obtain ⟨j, hj, rfl⟩ := List.mem_map.1 hb
  have hj : j < z.length := by simpa using hj
  have := h z[j] (List.getElem_mem hj)
  rw [if_neg]
  rw [getD_ltM z j hj]
  omega
theorem wfM_end (L : Nat) (z : List Int) (h : ∀ x ∈ z, x ≤ 8) : wfM L z 9 0 = wfL L z := by
  unfold wfM wfL
  apply List.map_congr_left
  intro j hj
  have hj : j < z.length := by simpa using hj
  have := h z[j] (List.getElem_mem hj)
  rw [if_pos]
  left
  rw [getD_ltM z j hj]
  omega
theorem ps_skip (z : List Int) (v : Int) (i : Nat) (h : i < z.length) (hne : z[i] ≠ v) : ps z v (i + 1) = ps z v i := by
  unfold ps
  rw [eqn_succ z v i h, if_neg hne, Nat.add_zero]
theorem ps_take (z : List Int) (v : Int) (i : Nat) (h : i < z.length) (he : z[i] = v) : ps z v (i + 1) = ps z v i + 1 := by
  unfold ps
  rw [eqn_succ z v i h, if_pos he]
  omega
theorem ps_row (z : List Int) (v : Int) : ps z v z.length = ps z (v + 1) 0 := by
  unfold ps lo eqn
  rw [List.take_length, List.take_zero]
  simp only [List.filter_nil, List.length_nil, Nat.add_zero]
  induction z with
  | nil => rfl
  | cons a z ih =>
    simp only [List.filter_cons]
    by_cases e1 : a < v
    · have e2 : ¬ a = v := by omega
      have e3 : a < v + 1 := by omega
      simp only [e1, e2, e3, decide_true, decide_false, if_true, Bool.false_eq_true, if_false, List.length_cons]
      omega
    · by_cases e2 : a = v
      · subst e2
        have e3 : a < a + 1 := by omega
        have e4 : ¬ a < a := by omega
        simp only [e3, e4, decide_true, decide_false, if_true, Bool.false_eq_true, if_false, List.length_cons]
        omega
      · have e3 : ¬ a < v + 1 := by omega
        simp only [e1, e2, e3, decide_false, Bool.false_eq_true, if_false]
        exact ih
theorem ps_start (z : List Int) (h : ∀ x ∈ z, 1 ≤ x) : ps z 1 0 = 0 := by
  unfold ps lo eqn
  rw [List.take_zero]
  simp only [List.filter_nil, List.length_nil, Nat.add_zero]
  rw [List.filter_eq_nil_iff.2 fun x hx => by have := h x hx; simp; omega]
  rfl
end Go.Proofs.YtelfchoeielmhaaGreatDoor.W
namespace Go.Proofs.YtelfchoeielmhaaGreatDoor

theorem sum_permN {a b : List Nat} (h : a.Perm b) : a.sum = b.sum := by
  induction h with
  | nil => rfl
  | cons x _ ih => rw [List.sum_cons, List.sum_cons, ih]
  | swap x y l => simp only [List.sum_cons]; omega
  | trans _ _ h1 h2 => exact h1.trans h2
theorem sharesD_sort (m : Nat) (z : List Int) : W.sharesD m (W.sortI z) = W.sharesD m z := sum_permN ((W.sortI_perm z).map _)
theorem lenAll_sort {z : List Int} (h : W.beN 8 z = true) : W.lenAll (W.sortI z) = true := by
  unfold W.lenAll
  rw [List.all_eq_true]
  intro x hx
  have := W.beN_mem h ((W.sortI_perm z).mem_iff.1 hx)
  rw [decide_eq_true_eq]
  exact this
theorem upTo_sort (z : List Int) : W.upTo (W.sortI z) (W.sortI z).length = true := by
  unfold W.upTo
  rw [List.all_eq_true]
  intro i hi
  have hi : i < (W.sortI z).length := by simpa using hi
  by_cases h0 : i = 0
  · rw [decide_eq_true h0]; rfl
  · have hp := List.pairwise_iff_getElem.1 (W.sortI_up z) (i - 1) i (by omega) hi (by omega)
    rw [W.leI, decide_eq_true_eq] at hp
    rw [W.getD_ltM _ i hi, W.getD_ltM _ (i - 1) (by omega), decide_eq_false h0, decide_eq_false (by omega)]
    rfl
theorem krList_sort {z : List Int} {L : Int} (h : W.beN 8 z = true) (hL : W.krLet L = true) : W.krList (W.sortI z) L = true := by
  unfold W.krList
  rw [hL, lenAll_sort h, upTo_sort, W.sortI_length, decide_eq_true (W.beN_parts h).1.2]
  rfl
theorem cb_sort {z : List Int} {m : Nat} (h : W.beN 8 z = true) (hL : W.krLet m = true) (hm2 : 2 ≤ m) : cbOf (W.sortI z) m = W.fitD m z := by
  unfold cbOf W.fitD
  rw [krList_sort h hL, Bool.true_and, Int.toNat_natCast, Bool.eq_iff_iff, decide_eq_true_eq, decide_eq_true_eq, ← W.fit_D m hm2 (lenAll_sort h), sharesD_sort]
/-- what WordsFor tells -/
def wfOk (z : List Int) (L : Int) : Bool := W.beN 8 z && cbOf (W.sortI z) L
def wfOf (z : List Int) (L : Int) : List ByteArray := if wfOk z L then W.wfL L.toNat z else []
theorem wfOf_no {z : List Int} {L : Int} (h : wfOk z L = false) : wfOf z L = [] := by unfold wfOf; rw [h]; rfl
theorem wfOf_yes {z : List Int} {L : Nat} (h : wfOk z L = true) : wfOf z L = W.wfL L z := by unfold wfOf; rw [h, Int.toNat_natCast]; rfl
theorem wfOf_len (z : List Int) (L : Int) : (wfOf z L).length ≤ 12 := by
  cases h : wfOk z L
  · rw [wfOf_no h]; exact Nat.zero_le _
  · unfold wfOf
    rw [h]
    show (W.wfL L.toNat z).length ≤ 12
    rw [W.wfL_length]
    unfold wfOk at h
    rw [Bool.and_eq_true] at h
    exact (W.beN_parts h.1).1.2
theorem cb_let {s : List Int} {L : Int} (h : W.krLet L = false) : cbOf s L = false := by
  unfold cbOf W.krList
  rw [h]
  rfl
theorem beN_deep {z : List Int} (h : W.beN 8 z = true) : W.beN 11 z = true := by
  obtain ⟨h1, _⟩ := W.beN_parts h
  unfold W.beN
  rw [decide_eq_true h1, Bool.true_and, List.all_eq_true]
  intro x hx
  have := W.beN_mem h hx
  rw [decide_eq_true_eq]
  omega
theorem beN_of {z : List Int} (h : W.beN 11 z = true) (h8 : z.all (fun x => decide (1 ≤ x ∧ x ≤ 8)) = true) : W.beN 8 z = true := by
  obtain ⟨h1, _⟩ := W.beN_parts h
  unfold W.beN
  rw [decide_eq_true h1, h8]
  rfl
/-- the first k words laid, in the order of lengths -/
def wfT (L : Nat) (z : List Int) (k : Nat) : List ByteArray := (W.wfL L z).take k ++ List.replicate (z.length - k) ByteArray.empty
theorem wfT_length (L : Nat) (z : List Int) (k : Nat) (h : k ≤ z.length) : (wfT L z k).length = z.length := by
  unfold wfT
  rw [List.length_append, List.length_take, W.wfL_length, List.length_replicate]
  omega
theorem wfT_zero (L : Nat) (z : List Int) : wfT L z 0 = List.replicate z.length ByteArray.empty := rfl
theorem wfT_all (L : Nat) (z : List Int) : wfT L z z.length = W.wfL L z := by
  unfold wfT
  rw [Nat.sub_self, List.replicate_zero, List.append_nil, List.take_of_length_le (by rw [W.wfL_length]; exact Nat.le_refl _)]
theorem wfT_set (L : Nat) (z : List Int) (k : Nat) (h : k < z.length) : (wfT L z k).set k (W.wfW L z k) = wfT L z (k + 1) := by
  have hl : ((W.wfL L z).take k).length = k := by rw [List.length_take, W.wfL_length]; omega
  have hg : (W.wfL L z)[k]'(by rw [W.wfL_length]; exact h) = W.wfW L z k := by simp [W.wfL]
  unfold wfT
  rw [List.set_append_right _ _ (by rw [hl]; exact Nat.le_refl _), hl, Nat.sub_self, show z.length - k = (z.length - (k + 1)) + 1 by omega, List.replicate_succ, List.set_cons_zero, List.take_succ_eq_append_getElem (by rw [W.wfL_length]; exact h), hg, List.append_assoc]
  rfl
end Go.Proofs.YtelfchoeielmhaaGreatDoor
namespace Go.Proofs.YtelfchoeielmhaaGreatDoor
open Go.RowKit Go.Shelf

theorem strs_setX (xs : List ByteArray) (j : Nat) (x : ByteArray) : (strs xs).set j (.string x) = strs (xs.set j x) := by
  unfold strs
  rw [List.map_set]
theorem strs_atX (xs : List ByteArray) (k : Nat) (h : k < xs.length) : (strs xs)[k]? = some (.string xs[k]) := by
  unfold strs
  rw [List.getElem?_map, List.getElem?_eq_getElem h]
  rfl
theorem fpTo_atX (L : Nat) (s : List Int) (n k : Nat) (h : k < n) : (fpTo L s n)[k]'(by rw [fpTo_length]; exact h) = wordAt L s k := by simp [fpTo]
set_option maxHeartbeats 12800000 in
set_option maxRecDepth 100000 in
theorem spec_WordsFor (A : Option Addr) (z : List Int) (c : Nat) (L : Int) (w : World) (h : Row w w.heap.size A (ints z)) (hl : z.length ≤ 9223372036854775807) :
    Calls Tryz.prog 4 #[.slice A z.length c, .int .i64 L] w (OkStrs w (wfOf z L) (wfOk z L)) := by
  have hk := fun u => spec_krLetters L u
  cases hlt : W.krLet L
  · have hno : wfOk z L = false := by unfold wfOk; rw [cb_let hlt, Bool.and_false]
    rw [wfOf_no hno, hno]
    rw [hlt] at hk
    replace hk := Lib.hid hk
    clear h hlt hno
    go_enter Tryz.func4, Tryz.ntmps4
    go_wp2_with (go_at_call 12; refine (hk.out _).mono ?_; rintro e w' ⟨rfl, rfl⟩)
    go_ret2
    exact okStrs_nil _ _ _ (Below.refl _ _)
  · rw [hlt] at hk
    replace hk := Lib.hid hk
    have hbl := spec_beLengths A z c w h hl
    cases hq : W.beN 11 z
    · have hno : wfOk z L = false := by
        unfold wfOk
        cases h8 : W.beN 8 z
        · rfl
        · rw [beN_deep h8] at hq; cases hq
      rw [wfOf_no hno, hno]
      rw [hq] at hbl
      replace hbl := Lib.hid hbl
      clear h hlt hno hq
      go_enter Tryz.func4, Tryz.ntmps4
      go_wp2_with (first | (go_at_call 12; refine (hk.out _).mono ?_; rintro e w' ⟨rfl, rfl⟩) | (go_at_call 13; refine hbl.out.mono ?_; rintro e w' ⟨rfl, rfl⟩))
      go_ret2
      exact okStrs_nil _ _ _ (Below.refl _ _)
    · rw [hq] at hbl
      replace hbl := Lib.hid hbl
      obtain ⟨⟨hz1, hz12⟩, hall⟩ := W.beN_parts hq
      have ha := spec_l1AllR A z c 1 8 w h (by omega)
      cases h8 : z.all (inR 1 8)
      · have hno : wfOk z L = false := by
          unfold wfOk
          cases h9 : W.beN 8 z
          · rfl
          · have := (W.beN_parts h9).2
            rw [show z.all (fun x => decide (1 ≤ x ∧ x ≤ 8)) = z.all (inR 1 8) from rfl, h8] at this
            cases this
        rw [wfOf_no hno, hno]
        rw [h8] at ha
        replace ha := Lib.hid ha
        clear h hlt hno hq h8 hall
        go_enter Tryz.func4, Tryz.ntmps4
        go_wp2_with (first | (go_at_call 12; refine (hk.out _).mono ?_; rintro e w' ⟨rfl, rfl⟩) | (go_at_call 13; refine hbl.out.mono ?_; rintro e w' ⟨rfl, rfl⟩) | (go_at_call 14; refine ha.out.mono ?_; rintro e w' ⟨rfl, rfl⟩))
        go_ret2
        exact okStrs_nil _ _ _ (Below.refl _ _)
      · rw [h8] at ha
        replace ha := Lib.hid ha
        have hb8 : W.beN 8 z = true := beN_of hq h8
        obtain ⟨m, rfl, hm2, hm3⟩ := W.let_nat hlt
        have hf := spec_beFit A z c m w h hz12 hall hm2 hm3
        have hwf : wfOk z m = W.fitD m z := by unfold wfOk; rw [hb8, Bool.true_and, cb_sort hb8 hlt hm2]
        cases hft : W.fitD m z
        · rw [hft] at hf hwf
          rw [wfOf_no hwf, hwf]
          replace hf := Lib.hid hf
          clear h hlt hq h8 hall hb8 hft hwf
          go_enter Tryz.func4, Tryz.ntmps4
          go_wp2_with (first | (go_at_call 12; refine (hk.out _).mono ?_; rintro e w' ⟨rfl, rfl⟩) | (go_at_call 13; refine hbl.out.mono ?_; rintro e w' ⟨rfl, rfl⟩) | (go_at_call 14; refine ha.out.mono ?_; rintro e w' ⟨rfl, rfl⟩) | (go_at_call 15; refine hf.out.mono ?_; rintro e w' ⟨rfl, rfl⟩))
          go_ret2
          exact okStrs_nil _ _ _ (Below.refl _ _)
        · rw [hft] at hf hwf
          rw [wfOf_yes hwf, hwf]
          replace hf := Lib.hid hf
          have hcb : cbOf (W.sortI z) m = true := by rw [cb_sort hb8 hlt hm2]; exact hft
          have hfp := Lib.hid (fun (A' : Option Addr) (c' : Nat) (u : World) (hu : Row u u.heap.size A' (ints (W.sortI z))) => by
            have h1 := spec_FirstPrefixCode A' (W.sortI z) c' m u hu (by rw [W.sortI_length]; omega)
            rw [W.sortI_length, hcb, fpOf_yes hcb, Int.toNat_natCast, W.sortI_length] at h1
            exact h1)
          obtain ⟨i0, hi, hy0, hy1, hy2⟩ := info_parts infoStr
          have HR := Lib.hid (And.intro hi (And.intro hy0 (And.intro hy1 hy2)))
          have Htk := Lib.hid (fun k (hk : k < z.length) => W.sortI_take_succ z k hk)
          have HsL := Lib.hid (fun k (hk : k ≤ z.length) => show (W.sortI (z.take k)).length = k by rw [W.sortI_length, List.length_take]; omega)
          have Hall : Hid (W.sortI (z.take z.length) = W.sortI z) := by show _ = _; rw [List.take_length]
          have H0 : Hid (W.sortI (z.take 0) = []) := by show _ = _; rw [List.take_zero]; exact W.sortI_nil
          have H := Lib.hid h
          have hge : ∀ x ∈ z, 1 ≤ x := fun x hx => (W.beN_mem hb8 hx).1
          have hle : ∀ x ∈ z, x ≤ 8 := fun x hx => (W.beN_mem hb8 hx).2
          have Hpat := Lib.hid (fun i (hi : i < z.length) => show W.ps z z[i] i < z.length by obtain ⟨h1, _⟩ := W.ps_at z i hi; rwa [W.sortI_length] at h1)
          have Hww := Lib.hid (fun i (hi : i < z.length) => show W.wfW m z i = wordAt m (W.sortI z) (W.ps z z[i] i) by unfold W.wfW; rw [W.getD_ltM z i hi])
          have Hset := Lib.hid (fun v i (hi : i < z.length) (he : z[i] = v) => W.wfM_set m z v i hi he)
          have Hskip := Lib.hid (fun v i (hi : i < z.length) (he : z[i] ≠ v) => W.wfM_skip m z v i hi he)
          have Hps := Lib.hid (fun v i (hi : i < z.length) (he : z[i] = v) => W.ps_take z v i hi he)
          have Hpk := Lib.hid (fun v i (hi : i < z.length) (he : z[i] ≠ v) => W.ps_skip z v i hi he)
          have Hrow := Lib.hid (fun v => W.wfM_row m z v)
          have Hprow := Lib.hid (fun v => W.ps_row z v)
          have Hst := Lib.hid (W.wfM_start m z hge)
          have Hpst := Lib.hid (W.ps_start z hge)
          have Hen := Lib.hid (W.wfM_end m z hle)
          have HmL := Lib.hid (fun v i => W.wfM_length m z v i)
          have HwL := Lib.hid (W.wfL_length m z)
          have Hfat := Lib.hid (fun k (hk : k < z.length) => fpTo_atX m (W.sortI z) z.length k hk)
          have HfL := Lib.hid (fpTo_length m (W.sortI z) z.length)
          have hl12 : (z.length : Int) ≤ 12 := by omega
          have hl1 : (1 : Int) ≤ (z.length : Int) := by omega
          clear h hlt hq h8 hall hb8 hft hwf hcb hi hy0 hy1 hy2 hge hle
          go_enter Tryz.func4, Tryz.ntmps4
          go_wp2_with (first | (go_at_call 12; refine (hk.out _).mono ?_; rintro e w' ⟨rfl, rfl⟩) | (go_at_call 13; refine hbl.out.mono ?_; rintro e w' ⟨rfl, rfl⟩) | (go_at_call 14; refine ha.out.mono ?_; rintro e w' ⟨rfl, rfl⟩) | (go_at_call 15; refine hf.out.mono ?_; rintro e w' ⟨rfl, rfl⟩))
          go_loopw [6, 37] (fun v i wr => ∃ k : Nat, k ≤ z.length ∧ i = .int .i64 k ∧ (k = 0 → v = .slice none 0 0) ∧ wr.ownsRow w.heap.size 3 1 v k (ints (W.sortI (z.take k))) ∧ Below w.heap.size w wr) (fun _ i _ => z.length - (intOf i).toNat)
          case atStart => exact ⟨0, Nat.zero_le _, rfl, fun _ => rfl, by rw [H0.out]; exact World.ownsRow_nil _ _ _ _, Below.refl _ _⟩
          case round =>
            obtain ⟨k, hk, rfl, hnil, ho, hB⟩ := hrel
            have hO := Lib.hid (And.intro ho hB)
            have hszr := hB.size
            clear ho hB
            by_cases hlt : k < z.length
            · obtain ⟨b, off, rfl, hb, hcc⟩ := Row.int_at H.out (by omega)
              have hlt' : (k : Int) < (z.length : Int) := by omega
              have c1 := (hO.out.2.cell (p := ⟨b, off + k, none⟩) hb).trans (hcc k hlt)
              have htk := Htk.out k hlt
              have hl1 := HsL.out (k + 1) (by omega)
              rw [htk] at hl1
              clear hcc
              generalize z[k] = x at c1 htk hl1
              have hput : Hid (Calls Tryz.prog 16 #[u6, .int .i64 x] wr (GivesInts wr (W.putI (W.sortI (z.take k)) x))) := by
                by_cases h0 : k = 0
                · subst h0
                  rw [hnil rfl, H0.out]
                  exact spec_bePut_nil x wr
                · obtain ⟨A1, c1', rfl⟩ := own_slice hO.out.1
                  obtain ⟨g1, rfl, _, _⟩ := own_form hO.out.1 (by omega)
                  exact spec_bePut k g1 0 _ c1' x wr (HsL.out k hk) (Row.of_own hO.out.1) (by omega) (own_cap hO.out.1)
              replace htk := Lib.hid htk
              replace hl1 := Lib.hid hl1
              clear hnil
              go_wp2_with fail
              refine hput.out.mono ?_
              rintro e w1 ⟨A2, c2, rfl, ho2, hB2⟩
              have hF := Lib.hid (And.intro (own_base ho2 hszr) (hO.out.2.trans (hB2.mono hszr)))
              clear ho2 hB2
              go_wp2
              go_roundw
              case rel => exact ⟨k + 1, by omega, by go_num, fun h => by omega, by rw [htk.out]; have := hF.out.1; rw [hl1.out] at this ⊢; exact this, hF.out.2⟩
              case measure => simp [intOf]; omega
            · obtain rfl : k = z.length := by omega
              obtain ⟨A1, c1, rfl⟩ := own_slice hO.out.1
              obtain ⟨g1, rfl, hg1, hg2⟩ := own_form hO.out.1 (by omega)
              have hO1 := hO.out
              rw [Hall.out] at hO1
              have hfp1 := Lib.hid (hfp.out (some ⟨g1, 0, none⟩) c1 wr (Row.of_own hO1.1))
              have hBr := Lib.hid hO1.2
              clear hO hnil hO1
              generalize wr = wq at *
              go_wp2_with fail
              refine hfp1.out.mono ?_
              rintro e w4 ⟨A4, c4, rfl, hown4, hB4⟩
              rw [HfL.out] at hown4
              obtain ⟨g2, rfl, hg3, hg4⟩ := own_form hown4 (by omega)
              have hsz4 := hB4.size
              have hO4 := Lib.hid (And.intro hown4 (hBr.out.trans (hB4.mono hszr)))
              rw [HfL.out]
              clear hown4 hB4
              go_wp2_with (at_make; refine wpList_make_full _ rfl _ _ 23 rfl w.heap.size 9 i0 (.string ByteArray.empty) 1 Tryz.underlying23 HR.out.1 HR.out.2.1 HR.out.2.2.1 _ _ _ _ z.length rfl rfl rfl rfl ?b1 ?b2 ?b3 ?_)
              case b1 => rw [HR.out.2.2.2]; omega
              case b2 => unfold maxLen; omega
              case b3 => omega
              intro w5 hown5 hgrow5
              rw [toList_madeCells_one] at hown5
              have hsz5 := hgrow5.size
              have hO5 := Lib.hid (show w5.ownsRow wq.heap.size 9 1 (.slice (some ⟨g2, 0, none⟩) z.length c4) z.length (strs (fpTo m (W.sortI z) z.length)) ∧ w5.ownsRow w.heap.size 9 1 (.slice (some ⟨w4.heap.size, 0, none⟩) z.length z.length) z.length (strs (W.wfM m z 1 0)) ∧ Below w.heap.size w w5 from by
                refine ⟨hO4.out.1.kept hgrow5 (.inr (by simp [Value.ownBlock])), ?_, hO4.out.2.grown hgrow5 (by omega) (fun g hg => by cases hg)⟩
                rw [Hst.out]
                unfold strs
                rw [List.map_replicate]
                exact hown5)
              clear hown5 hgrow5 hO4
              go_wp2_with fail
              go_loopw [12, 13] (fun av sv wr => ∃ v : Nat, 1 ≤ v ∧ v ≤ 9 ∧ sv = .int .i64 v ∧ av = .int .i64 ((W.ps z v 0 : Nat) : Int) ∧ wr.ownsRow wq.heap.size 9 1 (.slice (some ⟨g2, 0, none⟩) z.length c4) z.length (strs (fpTo m (W.sortI z) z.length)) ∧ wr.ownsRow w.heap.size 9 1 (.slice (some ⟨w4.heap.size, 0, none⟩) z.length z.length) z.length (strs (W.wfM m z v 0)) ∧ Below w.heap.size w wr) (fun _ sv _ => 10 - (intOf sv).toNat)
              case atStart => exact ⟨1, by omega, by omega, rfl, by rw [show ((1 : Nat) : Int) = 1 from rfl, Hpst.out]; rfl, hO5.out.1, hO5.out.2.1, hO5.out.2.2⟩
              case round =>
                clear hO5
                obtain ⟨v, hv1, hv9, rfl, rfl, ho2, ho3, hB3⟩ := hrel
                have hO := Lib.hid (And.intro ho2 (And.intro ho3 hB3))
                clear ho2 ho3 hB3
                by_cases hv8 : v ≤ 8
                · have hv8' : (v : Int) ≤ 8 := by omega
                  generalize wr = wk at *
                  go_wp2_with fail
                  go_loopw [12, 60] (fun av iv wr => ∃ i : Nat, i ≤ z.length ∧ iv = .int .i64 i ∧ av = .int .i64 ((W.ps z v i : Nat) : Int) ∧ wr.ownsRow wq.heap.size 9 1 (.slice (some ⟨g2, 0, none⟩) z.length c4) z.length (strs (fpTo m (W.sortI z) z.length)) ∧ wr.ownsRow w.heap.size 9 1 (.slice (some ⟨w4.heap.size, 0, none⟩) z.length z.length) z.length (strs (W.wfM m z v i)) ∧ Below w.heap.size w wr) (fun _ iv _ => z.length - (intOf iv).toNat)
                  case atStart => exact ⟨0, Nat.zero_le _, rfl, rfl, hO.out.1, hO.out.2.1, hO.out.2.2⟩
                  case round =>
                    clear hO
                    obtain ⟨i, hi, rfl, rfl, ho2, ho3, hB3⟩ := hrel
                    by_cases hli : i < z.length
                    · obtain ⟨b, off, rfl, hb, hcc⟩ := Row.int_at H.out (by omega)
                      have hli' : (i : Int) < (z.length : Int) := by omega
                      have c0 := (hB3.cell (p := ⟨b, off + i, none⟩) hb).trans (hcc i hli)
                      clear hcc
                      by_cases he : z[i] = (v : Int)
                      · have hp := Hpat.out i hli
                        have hww := Hww.out i hli
                        have hset := Hset.out v i hli he
                        have hps := Hps.out v i hli he
                        rw [he] at hp hww c0
                        generalize W.ps z v i = p at hp hww hps
                        have d1 := ho2.cellAt p (by omega)
                        rw [strs_atX _ p (by rw [HfL.out]; exact hp), Hfat.out p hp, ← hww] at d1
                        have d2 := ho3.cellAt i (by omega)
                        rw [strs_atX _ i (by rw [HmL.out]; exact hli)] at d2
                        have d3 := ho3.frozenAt i
                        have s1 := ho3.stored i (.string (W.wfW m z i))
                        rw [strs_setX, hset] at s1
                        generalize W.wfW m z i = x at d1 s1 hww hset
                        generalize (W.wfM m z v i)[i]'(by rw [HmL.out]; exact hli) = old at d2
                        have ho2' := ho2.kept s1.2 (.inr (by
                          show some g2 ≠ some w4.heap.size
                          intro e
                          injection e with e
                          omega))
                        have hF := Lib.hid (And.intro ho2' (And.intro s1.1 (hB3.grown s1.2 hB3.size (fun g hg => by injection hg with hg; omega))))
                        have hpi : (p : Int) < (z.length : Int) := by omega
                        replace hps := Lib.hid hps
                        clear ho2 ho3 ho2' s1 hB3 hww hset he
                        go_wp2
                        go_roundw
                        case rel => exact ⟨i + 1, by omega, by go_num, by rw [hps.out]; go_num, hF.out.1, hF.out.2.1, hF.out.2.2⟩
                        case measure => simp [intOf]; omega
                      · have hskip := Hskip.out v i hli he
                        have hpk := Hpk.out v i hli he
                        have hF := Lib.hid (And.intro ho2 (And.intro ho3 hB3))
                        rw [← hskip, ] at hF
                        generalize z[i] = y at c0 he
                        have hne : (y == (v : Int)) = false := beq_eq_false_iff_ne.2 he
                        replace hpk := Lib.hid hpk
                        clear ho2 ho3 hB3 hskip
                        go_wp2
                        go_roundw
                        case rel => exact ⟨i + 1, by omega, by go_num, by rw [hpk.out], hF.out.1, hF.out.2.1, hF.out.2.2⟩
                        case measure => simp [intOf]; omega
                    · obtain rfl : i = z.length := by omega
                      have hli' : ¬ ((z.length : Int) < (z.length : Int)) := by omega
                      rw [Hrow.out] at ho3
                      have hpr := Lib.hid (Hprow.out v)
                      have hF := Lib.hid (And.intro ho2 (And.intro ho3 hB3))
                      clear ho2 ho3 hB3
                      go_wp2
                      go_roundw
                      case rel => exact ⟨v + 1, by omega, by omega, by go_num, by rw [hpr.out]; rfl, hF.out.1, hF.out.2.1, hF.out.2.2⟩
                      case measure => simp [intOf]; omega
                · obtain rfl : v = 9 := by omega
                  have hO9 := hO.out
                  rw [show ((9 : Nat) : Int) = 9 from rfl, Hen.out] at hO9
                  have hF := Lib.hid (And.intro hO9.2.1 hO9.2.2)
                  clear hO hO9
                  go_wp2
                  go_ret2
                  exact okStrs_of (by rw [HwL.out]; exact hF.out.1) rfl hF.out.2
end Go.Proofs.YtelfchoeielmhaaGreatDoor
namespace Go.Proofs.YtelfchoeielmhaaGreatDoor
open Go.RowKit Go.Shelf Go.Sort

theorem strs_setW (xs : List ByteArray) (j : Nat) (x : ByteArray) : (strs xs).set j (.string x) = strs (xs.set j x) := by
  unfold strs
  rw [List.map_set]
theorem strs_atW (xs : List ByteArray) (k : Nat) (h : k < xs.length) : (strs xs)[k]? = some (.string xs[k]) := by
  unfold strs
  rw [List.getElem?_map, List.getElem?_eq_getElem h]
  rfl
theorem fpTo_at (L : Nat) (s : List Int) (n k : Nat) (h : k < n) : (fpTo L s n)[k]'(by rw [fpTo_length]; exact h) = wordAt L s k := by simp [fpTo]
set_option maxHeartbeats 12800000 in
set_option maxRecDepth 100000 in
theorem impl_WordsFor (A : Option Addr) (z : List Int) (c : Nat) (L : Int) (w : World) (h : Row w w.heap.size A (ints z)) (hl : z.length ≤ 9223372036854775807) :
    Calls Tryz.prog 6 #[.slice A z.length c, .int .i64 L] w (OkStrs w (wfOf z L) (wfOk z L)) := by
  have hc := impl_areNumbers 8 A z c w h hl
  cases hq : W.beN 8 z
  · have hno : wfOk z L = false := by unfold wfOk; rw [hq]; rfl
    rw [wfOf_no hno, hno]
    rw [hq] at hc
    replace hc := Lib.hid hc
    clear h hq hno
    go_enter Tryz.func6, Tryz.ntmps6
    go_wp2_with fail
    refine hc.out.mono ?_
    rintro e w1 ⟨rfl, hB⟩
    replace hB := Lib.hid hB
    go_wp2
    go_ret2
    exact okStrs_nil _ _ _ hB.out
  · rw [hq] at hc
    replace hc := Lib.hid hc
    obtain ⟨⟨hz1, hz12⟩, hall⟩ := W.beN_parts hq
    obtain ⟨b, off, rfl, hb, hcc⟩ := Row.int_at h (by omega)
    have Hcc := Lib.hid (show ∀ k (hk : k < z.length), w.cell? ⟨b, off + k, none⟩ = some (.int .i64 z[k]) from hcc)
    have hcl := Lib.hid (fun (u : World) (hu : Below w.heap.size w u) => Tryz.slices_Clone_int b off z.length c z u (Nat.le_refl _) (by omega) (fun j hj => by rw [(hu.cell (p := ⟨b, off + j, none⟩) hb), hcc j hj, W.getD_ltM z j hj]))
    rw [List.take_length, show z.map (Value.int .i64) = ints z from rfl] at hcl
    have hfp := Lib.hid (fun (A' : Option Addr) (c' : Nat) (u : World) (hu : Row u u.heap.size A' (ints (W.sortI z))) => by
      have h1 := impl_FirstPrefixCode A' (W.sortI z) c' L u hu (by rw [W.sortI_length]; omega)
      rw [W.sortI_length] at h1
      exact h1)
    have hsl := Lib.hid (W.sortI_length z)
    have hwf : wfOk z L = cbOf (W.sortI z) L := by unfold wfOk; rw [hq, Bool.true_and]
    have hl12 : (z.length : Int) ≤ 12 := by omega
    have hl1 : (1 : Int) ≤ (z.length : Int) := by omega
    cases hcb : cbOf (W.sortI z) L
    · rw [hcb] at hwf hfp
      rw [wfOf_no hwf, hwf]
      rw [fpOf_no hcb] at hfp
      clear h hq hwf hcb hcc hall
      go_enter Tryz.func6, Tryz.ntmps6
      go_wp2_with fail
      refine hc.out.mono ?_
      rintro e w1 ⟨rfl, hB⟩
      have hcl1 := Lib.hid (hcl.out w1 hB)
      replace hB := Lib.hid hB
      go_wp2_with fail
      refine hcl1.out.mono ?_
      rintro e w2 ⟨v1, rfl, hown1, _, hB2⟩
      obtain ⟨A1, c1, rfl⟩ := own_slice hown1
      obtain ⟨g1, rfl, hg1, hg2⟩ := own_form hown1 (by omega)
      have hO := Lib.hid (And.intro hown1 (hB.out.trans (hB2.mono hB.out.size)))
      have hsz1 := hB.out.size
      have hsz2 := hB2.size
      have hsort := Lib.hid (Tryz.slices_Sort_int g1 0 c1 z w2 (own_holds (Value.int .i64) hown1) hg2 (by omega))
      clear hown1 hB2
      go_wp2_with fail
      refine hsort.out.mono ?_
      rintro e w3' ⟨rfl, nn, os, rfl⟩
      obtain ⟨w3, hw3⟩ : ∃ u, u = grow (putRow (Value.int .i64) (Sort.ahead w2 nn) g1 0 (z.mergeSort fun x y => decide (x ≤ y)).toArray) os := ⟨_, rfl⟩
      have hgr : w2.grownBy w3 (some g1) := by rw [hw3]; exact sort_grown (Value.int .i64) os _
      have hown3 : w3.ownsRow w1.heap.size 3 1 (.slice (some ⟨g1, 0, none⟩) z.length c1) z.length (ints (W.sortI z)) := by
        have h1 := sort_own (Value.int .i64) (n := nn) (ys := W.sortI z) os hsl.out hO.out.1
        rw [hsl.out] at h1
        rw [hw3]
        exact h1
      rw [← hw3]
      clear hw3
      have hsz3 := hgr.size
      have hB3 := Lib.hid (hO.out.2.grown hgr (by omega) (fun k hk => by injection hk with hk; omega))
      have hfp1 := Lib.hid (hfp.out (some ⟨g1, 0, none⟩) c1 w3 (Row.of_own hown3))
      clear hgr hown3
      go_wp2_with fail
      refine hfp1.out.mono ?_
      rintro e w4 ⟨A4, c4, rfl, _, hB4⟩
      have hF := Lib.hid (hB3.out.trans (hB4.mono (by omega)))
      clear hB4
      go_wp2
      go_ret2
      exact okStrs_nil _ _ _ hF.out
    · rw [hcb] at hwf hfp
      have hcl3 := cbOf_list hcb
      obtain ⟨m, rfl, hm2, hm3⟩ := W.let_nat (W.krList_parts hcl3).1
      rw [wfOf_yes hwf, hwf]
      rw [fpOf_yes hcb, Int.toNat_natCast, W.sortI_length] at hfp
      obtain ⟨i0, hi, hy0, hy1, hy2⟩ := info_parts infoStr
      have HR := Lib.hid (And.intro hi (And.intro hy0 (And.intro hy1 hy2)))
      have Hstep := Lib.hid (show ∀ i (hi : i < z.length), ∃ p, p < z.length ∧ (W.bsL z i).getD p 0 = z[i] ∧ (∀ j, j < p → (W.bsL z i).getD j 0 ≠ z[i]) ∧ W.bsL z (i + 1) = (W.bsL z i).set p 0 ∧ W.wfW m z i = wordAt m (W.sortI z) p from fun i hi => by
        obtain ⟨hp, hv, hne⟩ := W.bsL_first z i hi (W.beN_at hq i hi).1
        have hl := W.bsL_length z i
        exact ⟨_, hp, by rw [W.getD_ltM _ _ (by rw [hl]; exact hp)]; exact hv, fun j hj => by rw [W.getD_ltM _ j (by rw [hl]; omega)]; exact hne j hj, W.bsL_next z i hi, by unfold W.wfW; rw [W.getD_ltM z i hi]⟩)
      have HbL := Lib.hid (fun i => W.bsL_length z i)
      have Hset := Lib.hid (fun i (hi : i < z.length) => wfT_set m z i hi)
      have HtL := Lib.hid (fun i (hi : i ≤ z.length) => wfT_length m z i hi)
      have Hz0 := Lib.hid (wfT_zero m z)
      have Hall := Lib.hid (wfT_all m z)
      have HwL := Lib.hid (W.wfL_length m z)
      have Hb0 := Lib.hid (W.bsL_zero z)
      have Hfat := Lib.hid (fun k (hk : k < z.length) => fpTo_at m (W.sortI z) z.length k hk)
      have HfL := Lib.hid (fpTo_length m (W.sortI z) z.length)
      have Hrg := Lib.hid (fun i (hi : i < z.length) => W.beN_at hq i hi)
      clear h hq hwf hcb hcl3 hcc hall hi hy0 hy1 hy2
      go_enter Tryz.func6, Tryz.ntmps6
      go_wp2_with fail
      refine hc.out.mono ?_
      rintro e w1 ⟨rfl, hB⟩
      have hcl1 := Lib.hid (hcl.out w1 hB)
      replace hB := Lib.hid hB
      go_wp2_with fail
      refine hcl1.out.mono ?_
      rintro e w2 ⟨v1, rfl, hown1, _, hB2⟩
      obtain ⟨A1, c1, rfl⟩ := own_slice hown1
      obtain ⟨g1, rfl, hg1, hg2⟩ := own_form hown1 (by omega)
      have hO := Lib.hid (And.intro hown1 (hB.out.trans (hB2.mono hB.out.size)))
      have hsz1 := hB.out.size
      have hsz2 := hB2.size
      have hsort := Lib.hid (Tryz.slices_Sort_int g1 0 c1 z w2 (own_holds (Value.int .i64) hown1) hg2 (by omega))
      clear hown1 hB2
      go_wp2_with fail
      refine hsort.out.mono ?_
      rintro e w3' ⟨rfl, nn, os, rfl⟩
      obtain ⟨w3, hw3⟩ : ∃ u, u = grow (putRow (Value.int .i64) (Sort.ahead w2 nn) g1 0 (z.mergeSort fun x y => decide (x ≤ y)).toArray) os := ⟨_, rfl⟩
      have hgr : w2.grownBy w3 (some g1) := by rw [hw3]; exact sort_grown (Value.int .i64) os _
      have hown3 : w3.ownsRow w1.heap.size 3 1 (.slice (some ⟨g1, 0, none⟩) z.length c1) z.length (ints (W.sortI z)) := by
        have h1 := sort_own (Value.int .i64) (n := nn) (ys := W.sortI z) os hsl.out hO.out.1
        rw [hsl.out] at h1
        rw [hw3]
        exact h1
      rw [← hw3]
      clear hw3
      have hsz3 := hgr.size
      have hB3 := Lib.hid (hO.out.2.grown hgr (by omega) (fun k hk => by injection hk with hk; omega))
      have hfp1 := Lib.hid (hfp.out (some ⟨g1, 0, none⟩) c1 w3 (Row.of_own hown3))
      have hO3 := Lib.hid hown3
      clear hgr hown3 hO
      go_wp2_with fail
      refine hfp1.out.mono ?_
      rintro e w4 ⟨A4, c4, rfl, hown4, hB4⟩
      rw [HfL.out] at hown4
      obtain ⟨g2, rfl, hg3, hg4⟩ := own_form hown4 (by omega)
      have hsz4 := hB4.size
      have hO4 := Lib.hid (And.intro (own_below hO3.out hB4) (And.intro hown4 (hB3.out.trans (hB4.mono (by omega)))))
      rw [HfL.out]
      clear hown4 hB4 hO3
      go_wp2_with (at_make; refine wpList_make_full _ rfl _ _ 23 rfl w.heap.size 9 i0 (.string ByteArray.empty) 1 Tryz.underlying23 HR.out.1 HR.out.2.1 HR.out.2.2.1 _ _ _ _ z.length rfl rfl rfl rfl ?b1 ?b2 ?b3 ?_)
      case b1 => rw [HR.out.2.2.2]; omega
      case b2 => unfold maxLen; omega
      case b3 => omega
      intro w5 hown5 hgrow5
      rw [toList_madeCells_one] at hown5
      have hsz5 := hgrow5.size
      have hO5 := Lib.hid (show w5.ownsRow w1.heap.size 3 1 (.slice (some ⟨g1, 0, none⟩) z.length c1) z.length (ints (W.bsL z 0)) ∧ w5.ownsRow w3.heap.size 9 1 (.slice (some ⟨g2, 0, none⟩) z.length c4) z.length (strs (fpTo m (W.sortI z) z.length)) ∧ w5.ownsRow w.heap.size 9 1 (.slice (some ⟨w4.heap.size, 0, none⟩) z.length z.length) z.length (strs (wfT m z 0)) ∧ Below w.heap.size w w5 from by
        refine ⟨?_, hO4.out.2.1.kept hgrow5 (.inr (by simp [Value.ownBlock])), ?_, hO4.out.2.2.grown hgrow5 (by omega) (fun g hg => by cases hg)⟩
        · rw [Hb0.out]
          exact hO4.out.1.kept hgrow5 (.inr (by simp [Value.ownBlock]))
        · rw [Hz0.out]
          unfold strs
          rw [List.map_replicate]
          exact hown5)
      clear hown5 hgrow5 hO4
      go_wp2_with fail
      go_loopw [33] (fun i wr => ∃ k : Nat, k ≤ z.length ∧ i = .int .i64 k ∧ wr.ownsRow w1.heap.size 3 1 (.slice (some ⟨g1, 0, none⟩) z.length c1) z.length (ints (W.bsL z k)) ∧ wr.ownsRow w3.heap.size 9 1 (.slice (some ⟨g2, 0, none⟩) z.length c4) z.length (strs (fpTo m (W.sortI z) z.length)) ∧ wr.ownsRow w.heap.size 9 1 (.slice (some ⟨w4.heap.size, 0, none⟩) z.length z.length) z.length (strs (wfT m z k)) ∧ Below w.heap.size w wr) (fun i _ => z.length - (intOf i).toNat)
      case atStart => exact ⟨0, Nat.zero_le _, rfl, hO5.out.1, hO5.out.2.1, hO5.out.2.2.1, hO5.out.2.2.2⟩
      case round =>
        clear hO5
        obtain ⟨k, hk, rfl, ho1, ho2, ho3, hBr⟩ := hrel
        by_cases hlt : k < z.length
        · have hlt' : (k : Int) < (z.length : Int) := by omega
          have c0 := (hBr.cell (p := ⟨b, off + k, none⟩) hb).trans (Hcc.out k hlt)
          obtain ⟨p, hp, hv, hne, hnext, hww⟩ := Hstep.out k hlt
          have hrg := Hrg.out k hlt
          have hset := Hset.out k hlt
          generalize z[k] = v at c0 hv hne hrg
          have hbl := HbL.out k
          have hidx : Lib.idxOf (W.bsL z k) v = ((p : Nat) : Int) := by
            have h1 := Lib.idxFrom_hit v (W.bsL z k) p 0 (by rw [hbl]; exact hp) hv hne
            rw [Nat.zero_add] at h1
            exact h1
          have hix := Tryz.slices_Index_int g1 0 z.length c1 (W.bsL z k) v wr (by rw [hbl]; exact Nat.le_refl _) (by omega) (fun j hj => by
            rw [Nat.zero_add, ho1.cellAt j (by rw [hbl] at hj; omega), ints_at _ j hj, W.getD_ltM _ j hj])
          rw [List.take_of_length_le (by rw [hbl]; exact Nat.le_refl _), hidx] at hix
          have d1 := ho2.cellAt p (by omega)
          rw [strs_atW _ p (by rw [HfL.out]; exact hp), Hfat.out p hp, ← hww] at d1
          have d2 := ho3.cellAt k (by omega)
          rw [strs_atW _ k (by rw [HtL.out k hk]; exact hlt)] at d2
          have d3 := ho3.frozenAt k
          have s1 := ho3.stored k (.string (W.wfW m z k))
          rw [strs_setW, hset] at s1
          generalize W.wfW m z k = x at d1 s1 hww hset
          generalize (wfT m z k)[k]'(by rw [HtL.out k hk]; exact hlt) = old at d2
          have ho1' := ho1.kept s1.2 (.inr (by
            show some g1 ≠ some w4.heap.size
            intro e
            injection e with e
            omega))
          have ho2' := ho2.kept s1.2 (.inr (by
            show some g2 ≠ some w4.heap.size
            intro e
            injection e with e
            omega))
          have d4 := ho1'.cellAt p (by omega)
          rw [ints_at _ p (by rw [hbl]; exact hp), ← W.getD_ltM _ p (by rw [hbl]; exact hp), hv] at d4
          have d5 := ho1'.frozenAt p
          have s2 := ho1'.stored p (.int .i64 0)
          rw [ints_set, ← hnext] at s2
          have ho2'' := ho2'.kept s2.2 (.inr (by
            show some g2 ≠ some g1
            intro e
            injection e with e
            omega))
          have ho3'' := s1.1.kept s2.2 (.inr (by
            show some w4.heap.size ≠ some g1
            intro e
            injection e with e
            omega))
          have hB1 := hBr.grown s1.2 hBr.size (fun g hg => by injection hg with hg; omega)
          have hB2 := hB1.grown s2.2 hB1.size (fun g hg => by injection hg with hg; omega)
          have hF := Lib.hid (And.intro s2.1 (And.intro ho2'' (And.intro ho3'' hB2)))
          have hpi : (p : Int) < (z.length : Int) := by omega
          replace hix := Lib.hid hix
          clear ho1 ho2 ho3 ho1' ho2' ho2'' ho3'' s1 s2 hBr hB1 hB2 hv hne hnext hww hset hidx
          go_wp2_with fail
          refine hix.out.mono ?_
          rintro e w' ⟨rfl, rfl⟩
          go_wp2
          go_roundw
          case rel => exact ⟨k + 1, by omega, by go_num, hF.out.1, hF.out.2.1, hF.out.2.2.1, hF.out.2.2.2⟩
          case measure => simp [intOf]; omega
        · obtain rfl : k = z.length := by omega
          rw [Hall.out] at ho3
          have hlt' : ¬ ((z.length : Int) < (z.length : Int)) := by omega
          have hF := Lib.hid (And.intro ho3 hBr)
          clear ho1 ho2 ho3 hBr
          go_wp2
          go_ret2
          exact okStrs_of (by rw [HwL.out]; exact hF.out.1) rfl hF.out.2
end Go.Proofs.YtelfchoeielmhaaGreatDoor
