/-
  WHAT THIS FILE PROVES: plain facts on hulls: the first word that is another one and a rest that can meet, the least generators behind a step, and that steps end; no program in sight.
-/
import Derived.Test.YtlmcemdbalhkiaaDoorLg
import Derived.Test.YtlmcemdbalhkiaaDoorMtC
namespace Go.Proofs.YtlmcemdbalhkiaaDoor

theorem ord_ext {a b : List ByteArray} (h : ∀ x, x ∈ a ↔ x ∈ b) : ordB a = ordB b := by
  apply raw_inj
  refine W.inc_unique (inc_ord a) (inc_ord b) (fun x => ?_)
  have key : ∀ c : List ByteArray, x ∈ raw (ordB c) ↔ ⟨x.toArray⟩ ∈ c := fun c => by
    have := @mem_raw (ordB c) ⟨x.toArray⟩
    rw [← mem_ord c]
    exact this
  rw [key, key, h]

/-- the rests of a word behind other ones -/
def rsts (ss : List ByteArray) (s : ByteArray) : List ByteArray := ss.flatMap fun t => restOf t s
theorem rests_rsts (ss : List ByteArray) (s : ByteArray) : rests ss [s] = rsts ss s := by
  unfold rests rsts restsOf
  simp
/-- the first of them that can meet -/
noncomputable def frAt (ss : List ByteArray) (i : Nat) : Option ByteArray := (rsts ss (W.nth ss i)).find? (mtB ss)
/-- the first word from the index i on, among d of them, with such a rest -/
noncomputable def frFrom (ss : List ByteArray) : Nat → Nat → Option (Nat × ByteArray)
  | 0, _ => none
  | d + 1, i => match frAt ss i with
    | some x => some (i, x)
    | none => frFrom ss d (i + 1)
noncomputable def frO (ss : List ByteArray) : Option (Nat × ByteArray) := frFrom ss ss.length 0
theorem frFrom_some {ss : List ByteArray} {d i : Nat} {x : ByteArray} (h : frAt ss i = some x) : frFrom ss (d + 1) i = some (i, x) := by
  unfold frFrom
  rw [h]
theorem frFrom_none {ss : List ByteArray} {d i : Nat} (h : frAt ss i = none) : frFrom ss (d + 1) i = frFrom ss d (i + 1) := by
  conv => lhs; unfold frFrom
  rw [h]
theorem frFrom_mem {ss : List ByteArray} : ∀ d i j x, frFrom ss d i = some (j, x) → i ≤ j ∧ j < i + d ∧ frAt ss j = some x
  | 0, _, _, _, h => by cases h
  | d + 1, i, j, x, h => by
    cases hf : frAt ss i with
    | some y =>
      rw [frFrom_some hf] at h
      injection h with h
      injection h with h1 h2
      subst h1 h2
      exact ⟨Nat.le_refl _, by omega, hf⟩
    | none =>
      rw [frFrom_none hf] at h
      have := frFrom_mem d (i + 1) j x h
      exact ⟨by omega, by omega, this.2.2⟩
/-- the rest is shorter than the word, and is one of a set -/
theorem short_drop {s : ByteArray} (h : W.short s = true) (k : Nat) (hk : k < s.size) : W.short (s.extract k s.size) = true := by
  unfold W.short at h ⊢
  simp only [Bool.and_eq_true, decide_eq_true_eq] at h ⊢
  have hd := drop_size s k
  refine ⟨by omega, ?_⟩
  rw [drop_toList]
  unfold W.isWd at h ⊢
  rw [List.all_eq_true] at h ⊢
  exact fun x hx => h.2 x (List.mem_of_mem_drop hx)
theorem rsts_mem {ss : List ByteArray} {s x : ByteArray} (hset : W.isSet ss = true) (hs : W.short s = true) (hx : x ∈ rsts ss s) : W.short x = true ∧ x.size < s.size := by
  unfold rsts at hx
  obtain ⟨t, ht, hx⟩ := List.mem_flatMap.1 hx
  obtain ⟨h1, rfl, _⟩ := restOf_mem hx
  have := set_size hset ht
  exact ⟨short_drop hs _ h1, by rw [drop_size]; omega⟩
theorem rsts_length (ss : List ByteArray) (s : ByteArray) : (rsts ss s).length ≤ ss.length := by
  unfold rsts
  induction ss with
  | nil => simp
  | cons t r ih =>
    rw [List.flatMap_cons, List.length_append, List.length_cons]
    have : (restOf t s).length ≤ 1 := by unfold restOf; split <;> simp
    omega
theorem frO_mem {ss : List ByteArray} (hset : W.isSet ss = true) {i : Nat} {x : ByteArray} (h : frO ss = some (i, x)) : i < ss.length ∧ W.short x = true ∧ x.size < (W.nth ss i).size := by
  have h1 := frFrom_mem _ _ _ _ h
  have hi : i < ss.length := by omega
  have h2 : (rsts ss (W.nth ss i)).find? (mtB ss) = some x := h1.2.2
  have h3 := rsts_mem hset (W.isSet_short ss hset i hi) (List.mem_of_find?_eq_some h2)
  exact ⟨hi, h3⟩

/-- how many letters words have together -/
def tot (ss : List ByteArray) : Nat := (ss.map ByteArray.size).sum
theorem tot_append (a b : List ByteArray) : tot (a ++ b) = tot a + tot b := by unfold tot; rw [List.map_append, List.sum_append]
theorem tot_sub {a b : List ByteArray} (h : a.Sublist b) : tot a ≤ tot b := by
  induction h with
  | slnil => exact Nat.le_refl _
  | cons x _ ih => unfold tot at *; rw [List.map_cons, List.sum_cons]; omega
  | cons_cons x _ ih => unfold tot at *; rw [List.map_cons, List.sum_cons, List.map_cons, List.sum_cons]; omega
theorem tot_put (a : List ByteArray) (x : ByteArray) : tot (putB a x) ≤ tot a + x.size := by
  unfold putB
  split
  · omega
  · rw [tot_append]
    have h1 : tot (x :: a.drop (aheadB a x)) = x.size + tot (a.drop (aheadB a x)) := by unfold tot; rw [List.map_cons, List.sum_cons]
    have h2 : tot a = tot (a.take (aheadB a x)) + tot (a.drop (aheadB a x)) := by rw [← tot_append, List.take_append_drop]
    omega
theorem tot_ord (a : List ByteArray) : tot (ordB a) ≤ tot a := by
  have key : ∀ (b acc : List ByteArray), tot (b.foldl putB acc) ≤ tot acc + tot b := by
    intro b
    induction b with
    | nil => intro acc; simp [tot]
    | cons x r ih =>
      intro acc
      have h1 := ih (putB acc x)
      have h2 := tot_put acc x
      have h3 : tot (x :: r) = x.size + tot r := by unfold tot; rw [List.map_cons, List.sum_cons]
      rw [List.foldl_cons]
      omega
  have := key a []
  unfold ordB
  simpa [tot] using this
theorem tot_set {ss : List ByteArray} (h : W.isSet ss = true) : tot ss ≤ 96 := by
  have h1 := W.isSet_len ss h
  have key : ∀ l : List ByteArray, (∀ t ∈ l, t.size ≤ 8) → tot l ≤ l.length * 8 := by
    intro l
    induction l with
    | nil => intro _; simp [tot]
    | cons a r ih =>
      intro hl
      have h1 := hl a (List.mem_cons_self ..)
      have h2 := ih (fun t ht => hl t (List.mem_cons_of_mem _ ht))
      have h3 : tot (a :: r) = a.size + tot r := by unfold tot; rw [List.map_cons, List.sum_cons]
      rw [List.length_cons]
      omega
  have := key ss (fun t ht => (set_size h ht).2)
  omega

/-- the words behind a step, before least generators are taken -/
def chg (ss : List ByteArray) (i : Nat) (x : ByteArray) : List ByteArray := ordB (wo ss i ++ [x])
theorem chg_set {ss : List ByteArray} (h : W.isSet ss = true) {i : Nat} {x : ByteArray} (hi : i < ss.length) (hx : W.short x = true) : W.isSet (chg ss i x) = true := by
  unfold chg
  rw [isSet_ord]
  · refine decide_eq_true ?_
    have h1 := ord_length (wo ss i ++ [x])
    rw [List.length_append, wo_length ss i hi, List.length_singleton] at h1
    have h2 := W.isSet_len ss h
    omega
  · intro y hy
    rcases List.mem_append.1 hy with hy | hy
    · exact set_mem h y ((wo_sub ss i).subset hy)
    · rw [List.mem_singleton] at hy
      rw [hy]
      exact hx
theorem chg_tot {ss : List ByteArray} {i : Nat} {x : ByteArray} (hi : i < ss.length) (hx : x.size < (W.nth ss i).size) : tot (chg ss i x) < tot ss := by
  have h1 := tot_ord (wo ss i ++ [x])
  rw [tot_append] at h1
  have h2 : tot [x] = x.size := by simp [tot]
  have h3 : tot ss = tot (wo ss i) + (W.nth ss i).size := by
    conv => lhs; rw [wo_split ss i hi, tot_append]
    have : tot (W.nth ss i :: ss.drop (i + 1)) = (W.nth ss i).size + tot (ss.drop (i + 1)) := by unfold tot; rw [List.map_cons, List.sum_cons]
    unfold wo
    rw [tot_append]
    omega
  unfold chg
  omega
theorem chg_mid (ss : List ByteArray) (i : Nat) (x : ByteArray) : ordB (ss.take i ++ ([x] ++ ss.drop (i + 1))) = chg ss i x := by
  unfold chg wo
  refine ord_ext fun y => ?_
  simp only [List.mem_append]
  constructor
  · rintro (h | h | h)
    · exact .inl (.inl h)
    · exact .inr h
    · exact .inl (.inr h)
  · rintro ((h | h) | h)
    · exact .inl h
    · exact .inr (.inr h)
    · exact .inr (.inl h)
/-- the least generators behind a step -/
noncomputable def stpO (ss : List ByteArray) : Option (List ByteArray) := (frO ss).map fun p => lgB (chg ss p.1 p.2)
theorem stpO_some {ss : List ByteArray} (h : W.isSet ss = true) {m : List ByteArray} (hm : stpO ss = some m) : W.isSet m = true ∧ tot m < tot ss := by
  unfold stpO at hm
  cases hf : frO ss with
  | none => rw [hf] at hm; cases hm
  | some p =>
    obtain ⟨i, x⟩ := p
    rw [hf] at hm
    injection hm with hm
    subst hm
    obtain ⟨h1, h2, h3⟩ := frO_mem h hf
    exact ⟨lgB_set (chg_set h h1 h2), Nat.lt_of_le_of_lt (tot_sub (lgB_sub _)) (chg_tot h1 h3)⟩
/-- all steps, so many at most -/
noncomputable def hlL : Nat → List ByteArray → List (List ByteArray)
  | 0, ss => [ss]
  | n + 1, ss => ss :: match stpO ss with
    | none => []
    | some m => hlL n m
theorem hlL_none {n : Nat} {ss : List ByteArray} (h : stpO ss = none) : hlL n ss = [ss] := by
  cases n with
  | zero => rfl
  | succ n => unfold hlL; rw [h]
theorem hlL_some {n : Nat} {ss m : List ByteArray} (h : stpO ss = some m) : hlL (n + 1) ss = ss :: hlL n m := by
  conv => lhs; unfold hlL
  rw [h]
theorem hlL_length : ∀ n ss, (hlL n ss).length ≤ n + 1
  | 0, _ => Nat.le_refl _
  | n + 1, ss => by
    cases h : stpO ss with
    | none => rw [hlL_none h]; simp
    | some m =>
      rw [hlL_some h, List.length_cons]
      have := hlL_length n m
      omega
theorem hlL_sets : ∀ n ss, W.isSet ss = true → ∀ m ∈ hlL n ss, W.isSet m = true
  | 0, ss, h, m, hm => by
    have : m = ss := by simpa [hlL] using hm
    rw [this]
    exact h
  | n + 1, ss, h, m, hm => by
    cases hs : stpO ss with
    | none =>
      rw [hlL_none hs, List.mem_singleton] at hm
      rw [hm]
      exact h
    | some l =>
      rw [hlL_some hs] at hm
      rcases List.mem_cons.1 hm with rfl | hm
      · exact h
      · exact hlL_sets n l (stpO_some h hs).1 m hm
/-- what HullSteps tells -/
noncomputable def hlB (ss : List ByteArray) : List (List ByteArray) := hlL 97 (lgB ss)
noncomputable def hsOf (ss : List ByteArray) : List (List ByteArray) := if W.isSet ss then hlB ss else []
theorem hsOf_no {ss : List ByteArray} (h : W.isSet ss = false) : hsOf ss = [] := by unfold hsOf; rw [h]; rfl
theorem hsOf_yes {ss : List ByteArray} (h : W.isSet ss = true) : hsOf ss = hlB ss := by unfold hsOf; rw [h]; rfl
theorem hlB_length (ss : List ByteArray) : (hlB ss).length ≤ 98 := hlL_length 97 _
theorem hlB_ne (ss : List ByteArray) : hlB ss ≠ [] := by
  unfold hlB hlL
  simp
theorem hsOf_len (ss : List ByteArray) : (hsOf ss).length ≤ 98 := by
  cases h : W.isSet ss
  · rw [hsOf_no h]; simp
  · rw [hsOf_yes h]; exact hlB_length ss
theorem hsOf_12 (ss : List ByteArray) : ∀ m ∈ hsOf ss, m.length ≤ 12 := fun m hm => by
  cases h : W.isSet ss
  · rw [hsOf_no h] at hm; simp at hm
  · rw [hsOf_yes h] at hm
    exact W.isSet_len m (hlL_sets 97 _ (lgB_set h) m hm)
/-- the steps so far, the last one with which they go on -/
def Hst (ss : List ByteArray) (out : List (List ByteArray)) (l : List ByteArray) (f : Nat) : Prop := hlB ss = out ++ hlL f l ∧ W.isSet l = true ∧ tot l ≤ f
theorem hst_first {ss : List ByteArray} (h : W.isSet ss = true) : Hst ss [] (lgB ss) 97 := ⟨rfl, lgB_set h, by have := tot_set (lgB_set h); omega⟩
theorem Hst.next {ss : List ByteArray} {out : List (List ByteArray)} {l m : List ByteArray} {f : Nat} (h : Hst ss out l f) (hm : stpO l = some m) : ∃ g, f = g + 1 ∧ Hst ss (out ++ [l]) m g := by
  obtain ⟨h1, h2, h3⟩ := h
  obtain ⟨h4, h5⟩ := stpO_some h2 hm
  cases f with
  | zero => omega
  | succ g =>
    refine ⟨g, rfl, ?_, h4, by omega⟩
    rw [h1, hlL_some hm, List.append_assoc]
    rfl
theorem Hst.last {ss : List ByteArray} {out : List (List ByteArray)} {l : List ByteArray} {f : Nat} (h : Hst ss out l f) (hm : stpO l = none) : hlB ss = out ++ [l] := by
  rw [h.1, hlL_none hm]
/-- words of a set at different places are different -/
theorem isSet_ne {ss : List ByteArray} (h : W.isSet ss = true) {i j : Nat} (hij : i < j) (hj : j < ss.length) : W.nth ss i ≠ W.nth ss j := fun e => by
  have := W.isSet_lt h i j hij hj
  rw [e] at this
  unfold W.lessB at this
  rw [W.less_irrefl] at this
  cases this
end Go.Proofs.YtlmcemdbalhkiaaDoor
