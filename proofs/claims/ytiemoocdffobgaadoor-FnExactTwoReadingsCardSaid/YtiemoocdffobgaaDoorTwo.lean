/-
  WHAT THIS FILE PROVES: plain facts: a word that the search finds has at least two readings; what the search finds is one word; no program in sight.
-/
import Derived.Test.YtiemoocdffobgaaDoorDbl
import Derived.Test.YtiemoocdffobgaaDoorReads
namespace Go.Proofs.YtiemoocdffobgaaDoor
open W (le)

/-- what words are written one behind the other -/
def catL (ts : List ByteArray) : List UInt8 := (ts.map fun t => t.data.toList).flatten
theorem catL_cons (t : ByteArray) (ts : List ByteArray) : catL (t :: ts) = t.data.toList ++ catL ts := by simp [catL]
theorem catL_append (ts us : List ByteArray) : catL (ts ++ us) = catL ts ++ catL us := by simp [catL]
theorem catL_one (t : ByteArray) : catL [t] = t.data.toList := by simp [catL]
theorem restOf_cat {s t x : ByteArray} (h : x ∈ restOf s t) : t.data.toList = s.data.toList ++ x.data.toList := by
  obtain ⟨h1, rfl, hp⟩ := restOf_mem h
  have := W.prefix_take hp
  rw [drop_toList, Lib.size_eq s]
  conv => lhs; rw [← List.take_append_drop s.data.toList.length t.data.toList, this]
/-- two readings that begin with different words, but for the end by which one is ahead -/
theorem db_two {ss : List ByteArray} {w : List UInt8} {u : ByteArray} (h : Db ss w u) :
    ∃ a p b q, a ∈ ss ∧ b ∈ ss ∧ a ≠ b ∧ (∀ x ∈ p, x ∈ ss) ∧ (∀ x ∈ q, x ∈ ss) ∧ catL (a :: p) = w ∧ catL (b :: q) ++ u.data.toList = w := by
  induction h with
  | @start s t x hs ht hx =>
    refine ⟨t, [], s, [], ht, hs, fun e => ?_, by simp, by simp, catL_one t, ?_⟩
    · have := (restOf_mem hx).1
      subst e
      omega
    · rw [catL_one, ← restOf_cat hx]
  | @off w u t x _ ht hx ih =>
    obtain ⟨a, p, b, q, ha, hb, hab, hp, hq, h1, h2⟩ := ih
    refine ⟨a, p, b, q ++ [t], ha, hb, hab, hp, fun y hy => ?_, h1, ?_⟩
    · rcases List.mem_append.1 hy with hy | hy
      · exact hq y hy
      · rw [List.mem_singleton.1 hy]; exact ht
    · rw [← List.cons_append, catL_append, catL_one, List.append_assoc, ← restOf_cat hx]
      exact h2
  | @on w u t x _ ht hx ih =>
    obtain ⟨a, p, b, q, ha, hb, hab, hp, hq, h1, h2⟩ := ih
    refine ⟨b, q ++ [t], a, p, hb, ha, fun e => hab e.symm, fun y hy => ?_, hp, ?_, by rw [h1]⟩
    · rcases List.mem_append.1 hy with hy | hy
      · exact hq y hy
      · rw [List.mem_singleton.1 hy]; exact ht
    · rw [← List.cons_append, catL_append, catL_one, restOf_cat hx, ← List.append_assoc, h2]
namespace W
theorem prefix_app (a b : List UInt8) : Lib.hasPrefix (a ++ b) a = true := by
  simp [Lib.hasPrefix]
theorem index_of {ss : List ByteArray} {t : ByteArray} (h : t ∈ ss) : ∃ i, i < ss.length ∧ nth ss i = t := by
  obtain ⟨i, hi, e⟩ := List.getElem_of_mem h
  exact ⟨i, hi, by rw [nth_lt ss i hi, e]⟩
theorem rpart_mono (set : List ByteArray) (l : List UInt8) (k n : Nat) (h : k ≤ n) : (rpart set l k).length ≤ (rpart set l n).length := by
  obtain ⟨r, hr⟩ := rpart_pre set l k n h
  rw [hr, List.length_append]
  omega
theorem ways_one {ss : List ByteArray} (hset : isSet ss = true) : ∀ ts : List ByteArray, (∀ t ∈ ts, t ∈ ss) → 1 ≤ ways ss (catL ts)
  | [], _ => Nat.le_refl _
  | t :: ts, h => by
    have ih := ways_one hset ts (fun x hx => h x (List.mem_cons_of_mem _ hx))
    obtain ⟨i, hi, e⟩ := index_of (h t (List.mem_cons_self ..))
    have hpos := set_pos hset i hi
    have hp : Lib.hasPrefix (catL (t :: ts)) (nth ss i).data.toList = true := by rw [catL_cons, e]; exact prefix_app _ _
    have hne : catL (t :: ts) ≠ [] := fun e2 => by
      rw [catL_cons, List.append_eq_nil_iff] at e2
      rw [e, Lib.size_eq, e2.1] at hpos
      simp at hpos
    have h1 := rpart_yes ss (catL (t :: ts)) i hpos hp
    have h2 := rpart_mono ss (catL (t :: ts)) (i + 1) ss.length (by omega)
    rw [reads_all ss _ hne, reads_length, h1, List.length_append, List.length_map, reads_length] at h2
    have h3 : (catL (t :: ts)).drop (nth ss i).size = catL ts := by rw [catL_cons, e, Lib.size_eq, List.drop_left]
    rw [h3] at h2
    omega
theorem ways_two {ss : List ByteArray} (hset : isSet ss = true) {a b : ByteArray} {p q : List ByteArray} (ha : a ∈ ss) (hb : b ∈ ss) (hab : a ≠ b) (hp : ∀ x ∈ p, x ∈ ss) (hq : ∀ x ∈ q, x ∈ ss) (he : catL (a :: p) = catL (b :: q)) : 2 ≤ ways ss (catL (a :: p)) := by
  obtain ⟨i, hi, ei⟩ := index_of ha
  obtain ⟨j, hj, ej⟩ := index_of hb
  have hij : i ≠ j := fun e => hab (by rw [← ei, ← ej, e])
  have key : ∀ (i j : Nat) (a b : ByteArray) (p q : List ByteArray), i < j → j < ss.length → nth ss i = a → nth ss j = b → (∀ x ∈ p, x ∈ ss) → (∀ x ∈ q, x ∈ ss) → catL (a :: p) = catL (b :: q) → 2 ≤ ways ss (catL (a :: p)) := by
    intro i j a b p q hij hj ei ej hp hq he
    have hpi := set_pos hset i (by omega)
    have hpj := set_pos hset j hj
    have h1 : Lib.hasPrefix (catL (a :: p)) (nth ss i).data.toList = true := by rw [catL_cons, ei]; exact prefix_app _ _
    have h2 : Lib.hasPrefix (catL (a :: p)) (nth ss j).data.toList = true := by rw [he, catL_cons, ej]; exact prefix_app _ _
    have hne : catL (a :: p) ≠ [] := fun e2 => by
      rw [catL_cons, List.append_eq_nil_iff] at e2
      rw [ei, Lib.size_eq, e2.1] at hpi
      simp at hpi
    have h3 := rpart_yes ss (catL (a :: p)) i hpi h1
    have h4 := rpart_yes ss (catL (a :: p)) j hpj h2
    have h5 := rpart_mono ss (catL (a :: p)) (i + 1) j (by omega)
    have h6 := rpart_mono ss (catL (a :: p)) (j + 1) ss.length (by omega)
    have h7 : (catL (a :: p)).drop (nth ss i).size = catL p := by rw [catL_cons, ei, Lib.size_eq, List.drop_left]
    have h8 : (catL (a :: p)).drop (nth ss j).size = catL q := by rw [he, catL_cons, ej, Lib.size_eq, List.drop_left]
    have h9 := ways_one hset p hp
    have h10 := ways_one hset q hq
    rw [reads_all ss _ hne, reads_length, h4, List.length_append, List.length_map, reads_length, h8] at h6
    rw [h3, List.length_append, List.length_map, reads_length, h7] at h5
    omega
  rcases Nat.lt_or_gt_of_ne hij with h | h
  · exact key i j a b p q h hj ei ej hp hq he
  · rw [he]
    exact key j i b a q p h hi ej ei hq hp he.symm
end W
/-- what the search finds has two readings -/
theorem FD.two {ss : List ByteArray} (hset : W.isSet ss = true) {w : List UInt8} (h : FD ss (some w)) : 2 ≤ W.ways ss w := by
  obtain ⟨⟨u, hu, hd⟩, _⟩ := h.1 w rfl
  obtain ⟨a, p, b, q, ha, hb, hab, hp, hq, h1, h2⟩ := db_two hd
  have := W.ways_two hset ha hb hab hp (q := q ++ [u]) (fun x hx => by
    rcases List.mem_append.1 hx with hx | hx
    · exact hq x hx
    · rw [List.mem_singleton.1 hx]; exact hu) (by rw [← List.cons_append, catL_append, catL_one, h1, h2])
  rwa [h1] at this

open Classical in
/-- the first word with two readings, if there is one -/
noncomputable def sdR (ss : List ByteArray) : Option (List UInt8) := if h : ∃ r, FD ss r then Classical.choose h else none
theorem sdR_eq {ss : List ByteArray} {r : Option (List UInt8)} (h : FD ss r) : sdR ss = r := by
  have hex : ∃ r, FD ss r := ⟨r, h⟩
  unfold sdR
  rw [dif_pos hex]
  exact (Classical.choose_spec hex).unique h
noncomputable def sdOk (ss : List ByteArray) : Bool := W.isSet ss && ((sdR ss).map fun w => decide (w.length ≤ 60)).getD false
noncomputable def sdOf (ss : List ByteArray) : ByteArray := if sdOk ss then ⟨((sdR ss).getD []).toArray⟩ else ⟨#[]⟩
theorem sdOf_no {ss : List ByteArray} (h : sdOk ss = false) : sdOf ss = ⟨#[]⟩ := by unfold sdOf; rw [h]; rfl
theorem sdOk_no {ss : List ByteArray} (h : W.isSet ss = false) : sdOk ss = false := by unfold sdOk; rw [h]; rfl
theorem sdOk_none {ss : List ByteArray} (h : FD ss none) : sdOk ss = false := by unfold sdOk; rw [sdR_eq h]; simp
theorem sdOk_some {ss : List ByteArray} (hset : W.isSet ss = true) {x : ByteArray} (h : FD ss (some x.data.toList)) : sdOk ss = decide (x.size ≤ 60) := by
  unfold sdOk
  rw [sdR_eq h, hset, Lib.size_eq]
  simp
theorem sdOf_some {ss : List ByteArray} (hset : W.isSet ss = true) {x : ByteArray} (h : FD ss (some x.data.toList)) (h60 : x.size ≤ 60) : sdOf ss = x := by
  have h1 := sdOk_some hset h
  rw [decide_eq_true h60] at h1
  unfold sdOf
  rw [h1, if_pos rfl, sdR_eq h]
  rfl
/-- what is told is the word that is found -/
theorem sdOk_word {ss : List ByteArray} (h : sdOk ss = true) : W.isSet ss = true ∧ FD ss (some (sdOf ss).data.toList) ∧ (sdOf ss).size ≤ 60 := by
  have h' := h
  unfold sdOk at h'
  rw [Bool.and_eq_true] at h'
  obtain ⟨hset, h2⟩ := h'
  have hex : ∃ r, FD ss r := by
    apply Classical.byContradiction
    intro hno
    unfold sdR at h2
    rw [dif_neg hno] at h2
    cases h2
  obtain ⟨r, hr⟩ := hex
  rw [sdR_eq hr] at h2
  cases r with
  | none => cases h2
  | some w =>
    have h3 : w.length ≤ 60 := by simpa using h2
    have e : sdOf ss = ⟨w.toArray⟩ := by
      unfold sdOf
      rw [h, if_pos rfl, sdR_eq hr]
      rfl
    rw [e]
    exact ⟨hset, hr, by rw [Lib.size_eq]; exact h3⟩

end Go.Proofs.YtiemoocdffobgaaDoor
