/-
  WHAT THIS FILE PROVES: plain facts on the order of words and on lists put in order: to put words one by one into an ordered list, and to sort a list and drop repeats, give the one list; no program in sight.
-/
import Derived.Test.YthhiegcdocjfkaaDoorPure
import Derived.Test.YthhiegcdocjfkaaDoorLess
import Derived.Sort.LotA
import Derived.Sort.Walk0
import Derived.Lib.SlicesCompact
import Derived.Shelf.SlSortCmp.Insertion
namespace Go.Proofs.YthhiegcdocjfkaaDoor.W
open Go.Sort

theorem ltOf_cw (l m : List UInt8) : ltOf cw l m = less l m := by unfold ltOf; exact cw_neg l m
theorem swo_cw : SWO (ltOf cw) where
  irrefl x := by rw [ltOf_cw]; exact less_irrefl x
  trans x y z h1 h2 := by rw [ltOf_cw] at *; exact less_trans h1 h2
  ntrans x y z h1 h2 := by
    rw [ltOf_cw] at *
    cases h : less x z with
    | false => rfl
    | true =>
      cases h3 : less y x with
      | true => rw [less_trans h3 h] at h2; cases h2
      | false => rw [less_total h1 h3] at h; rw [h] at h2; cases h2
theorem total_cw (x y : List UInt8) (h1 : ltOf cw x y = false) (h2 : ltOf cw y x = false) : x = y := by
  rw [ltOf_cw] at *
  exact less_total h1 h2

/-- each less than those behind it -/
abbrev Inc (l : List (List UInt8)) : Prop := l.Pairwise fun x y => less x y = true

/-- one ordered list without repeats of given members -/
theorem inc_unique : ∀ {l m : List (List UInt8)}, Inc l → Inc m → (∀ x, x ∈ l ↔ x ∈ m) → l = m
  | [], [], _, _, _ => rfl
  | [], b :: m, _, _, h => absurd ((h b).2 (List.mem_cons_self ..)) (by simp)
  | a :: l, [], _, _, h => absurd ((h a).1 (List.mem_cons_self ..)) (by simp)
  | a :: l, b :: m, h1, h2, h => by
    obtain ⟨p1, q1⟩ := List.pairwise_cons.1 h1
    obtain ⟨p2, q2⟩ := List.pairwise_cons.1 h2
    have e : a = b := by
      rcases List.mem_cons.1 ((h a).1 (List.mem_cons_self ..)) with e | ha
      · exact e
      · rcases List.mem_cons.1 ((h b).2 (List.mem_cons_self ..)) with e | hb
        · exact e.symm
        · have k1 := p2 a ha
          rw [less_asymm (p1 b hb)] at k1
          cases k1
    subst e
    rw [inc_unique q1 q2 (fun x => ⟨fun hx => ?_, fun hx => ?_⟩)]
    · rcases List.mem_cons.1 ((h x).1 (List.mem_cons_of_mem _ hx)) with e | k
      · subst e; have := p1 x hx; rw [less_irrefl] at this; cases this
      · exact k
    · rcases List.mem_cons.1 ((h x).2 (List.mem_cons_of_mem _ hx)) with e | k
      · subst e; have := p2 x hx; rw [less_irrefl] at this; cases this
      · exact k

/-- how many words at a list's head are less than a word -/
def ahead (l : List (List UInt8)) (s : List UInt8) : Nat := (l.takeWhile fun x => less x s).length
theorem ahead_le (l : List (List UInt8)) (s : List UInt8) : ahead l s ≤ l.length := by
  unfold ahead
  exact (List.takeWhile_sublist _).length_le
/-- a word put into an ordered list, none twice -/
def put (l : List (List UInt8)) (s : List UInt8) : List (List UInt8) := if l[ahead l s]? = some s then l else l.take (ahead l s) ++ s :: l.drop (ahead l s)
/-- words put into an ordered list, one by one -/
def puts (l zs : List (List UInt8)) : List (List UInt8) := zs.foldl put l
theorem put_length (l : List (List UInt8)) (s : List UInt8) : (put l s).length ≤ l.length + 1 := by
  unfold put
  split
  · omega
  · have := ahead_le l s
    rw [List.length_append, List.length_cons, List.length_take, List.length_drop]
    omega
theorem puts_length (zs : List (List UInt8)) : ∀ l, (puts l zs).length ≤ l.length + zs.length := by
  induction zs with
  | nil => intro l; simp [puts]
  | cons a r ih =>
    intro l
    have h1 := ih (put l a)
    have h2 := put_length l a
    show (puts (put l a) r).length ≤ _
    rw [List.length_cons]
    omega
theorem ahead_take (l : List (List UInt8)) (s : List UInt8) : l.take (ahead l s) = l.takeWhile fun x => less x s := by
  unfold ahead
  conv => lhs; arg 2; rw [← List.takeWhile_append_dropWhile (p := fun x => less x s) (l := l)]
  exact List.take_left
theorem ahead_drop (l : List (List UInt8)) (s : List UInt8) : l.drop (ahead l s) = l.dropWhile fun x => less x s := by
  unfold ahead
  conv => lhs; arg 2; rw [← List.takeWhile_append_dropWhile (p := fun x => less x s) (l := l)]
  exact List.drop_left
theorem mem_put (l : List (List UInt8)) (s x : List UInt8) : x ∈ put l s ↔ x ∈ l ∨ x = s := by
  unfold put
  split
  · rename_i h
    have := List.mem_of_getElem? h
    constructor
    · exact .inl
    · rintro (h | rfl) <;> assumption
  · conv => rhs; rw [← List.take_append_drop (ahead l s) l]
    simp only [List.mem_append, List.mem_cons]
    constructor
    · rintro (h | h | h) <;> simp [h]
    · rintro ((h | h) | h) <;> simp [h]
theorem inc_put {l : List (List UInt8)} (s : List UInt8) (h : Inc l) : Inc (put l s) := by
  unfold put
  split
  · exact h
  · rename_i hne
    have h0 := h
    rw [← List.take_append_drop (ahead l s) l] at h
    obtain ⟨p, q, r⟩ := List.pairwise_append.1 h
    have hlt : ∀ x ∈ l.take (ahead l s), less x s = true := fun x hx => by
      rw [ahead_take] at hx
      exact List.all_eq_true.1 (List.all_takeWhile) x hx
    have hgt : ∀ x ∈ l.drop (ahead l s), less s x = true := fun x hx => by
      cases hd : l.drop (ahead l s) with
      | nil => rw [hd] at hx; cases hx
      | cons b m =>
        have hb : less b s = false := by
          have := hd
          rw [ahead_drop] at this
          have := List.head?_dropWhile_not (fun x => less x s) l
          rw [show (List.dropWhile (fun x => less x s) l) = b :: m by assumption] at this
          simpa using this
        have hbs : b ≠ s := fun e => by
          apply hne
          rw [← List.head?_drop, hd, e]
          rfl
        have hsb : less s b = true := by
          cases h2 : less s b with
          | true => rfl
          | false => exact absurd (less_total hb h2) hbs
        rw [hd] at hx q
        rcases List.mem_cons.1 hx with rfl | hx
        · exact hsb
        · exact less_trans hsb ((List.pairwise_cons.1 q).1 x hx)
    refine List.pairwise_append.2 ⟨p, List.pairwise_cons.2 ⟨hgt, q⟩, fun x hx y hy => ?_⟩
    rcases List.mem_cons.1 hy with rfl | hy
    · exact hlt x hx
    · exact r x hx y hy
theorem mem_puts (zs : List (List UInt8)) : ∀ l x, x ∈ puts l zs ↔ x ∈ l ∨ x ∈ zs := by
  induction zs with
  | nil => intro l x; simp [puts]
  | cons a r ih =>
    intro l x
    show x ∈ puts (put l a) r ↔ _
    rw [ih, mem_put, List.mem_cons]
    constructor
    · rintro ((h | h) | h) <;> simp [h]
    · rintro (h | h | h) <;> simp [h]
theorem inc_puts (zs : List (List UInt8)) : ∀ l, Inc l → Inc (puts l zs) := by
  induction zs with
  | nil => intro l h; exact h
  | cons a r ih => intro l h; exact ih _ (inc_put a h)
theorem puts_append (l a b : List (List UInt8)) : puts l (a ++ b) = puts (puts l a) b := List.foldl_append ..
theorem puts_snoc (l a : List (List UInt8)) (x : List UInt8) : puts l (a ++ [x]) = put (puts l a) x := by rw [puts_append]; rfl

/-! sorted and without repeats -/
/-- neighbours' repeats dropped, behind a word -/
def comp (p : List UInt8) : List (List UInt8) → List (List UInt8)
  | [] => []
  | a :: r => if a = p then comp p r else a :: comp a r
theorem compactUpTo_get (zs : List (List UInt8)) (m : Nat) (h : m < zs.length) : (zs.toArray)[m]! = zs[m] := by
  rw [getElem!_pos _ _ (by simpa using h)]
  simp
abbrev Up (l : List (List UInt8)) : Prop := l.Pairwise fun x y => less y x = false
theorem compact_facts (zs : List (List UInt8)) (hz : Up zs) : ∀ m, m ≤ zs.length → Inc (Lib.compactUpTo zs.toArray m) ∧ (∀ x, x ∈ Lib.compactUpTo zs.toArray m ↔ x ∈ zs.take m) := by
  intro m
  induction m with
  | zero => intro _; exact ⟨by simp [Lib.compactUpTo], by simp [Lib.compactUpTo]⟩
  | succ m ih =>
    intro hm
    obtain ⟨h1, h2⟩ := ih (by omega)
    have hmz : m < zs.length := by omega
    rw [Lib.compactUpTo_succ, List.take_succ_eq_append_getElem hmz, compactUpTo_get zs m hmz]
    by_cases hk : m = 0 ∨ zs[m] ≠ zs[m - 1]'(by omega)
    · have hkeep : Lib.keeps zs.toArray m = true := by
        unfold Lib.keeps
        rw [compactUpTo_get zs m hmz, compactUpTo_get zs (m - 1) (by omega)]
        simpa using hk
      rw [hkeep, if_pos rfl]
      refine ⟨List.pairwise_append.2 ⟨h1, by simp, fun x hx y hy => ?_⟩, fun x => by rw [List.mem_append, List.mem_append, h2]⟩
      obtain rfl : y = zs[m] := by simpa using hy
      have hx' := (h2 x).1 hx
      obtain ⟨i, hi, rfl⟩ := List.mem_iff_getElem.1 hx'
      rw [List.length_take] at hi
      rw [List.getElem_take]
      have him : i < m := by omega
      rcases hk with h0 | hne
      · omega
      · have a1 : less zs[m] (zs[m - 1]'(by omega)) = false := List.pairwise_iff_getElem.1 hz (m - 1) m (by omega) hmz (by omega)
        have a2 : less (zs[m - 1]'(by omega)) zs[m] = true := by
          cases h : less (zs[m - 1]'(by omega)) zs[m] with
          | true => rfl
          | false => exact absurd (less_total a1 h) hne
        by_cases hi1 : i = m - 1
        · subst hi1; exact a2
        · have a3 : less (zs[m - 1]'(by omega)) (zs[i]'(by omega)) = false := List.pairwise_iff_getElem.1 hz i (m - 1) (by omega) (by omega) (by omega)
          cases h : less (zs[i]'(by omega)) zs[m] with
          | true => rfl
          | false =>
            have a4 : less (zs[i]'(by omega)) (zs[m - 1]'(by omega)) = false := by
              cases h' : less (zs[i]'(by omega)) (zs[m - 1]'(by omega)) with
              | false => rfl
              | true => rw [less_trans h' a2] at h; cases h
            rw [less_total a4 a3] at h
            rw [h] at a2
            cases a2
    · have hm0 : m ≠ 0 := fun e => hk (.inl e)
      have heq : zs[m] = zs[m - 1]'(by omega) := Decidable.byContradiction fun e => hk (.inr e)
      have hkeep : Lib.keeps zs.toArray m = false := by
        unfold Lib.keeps
        rw [compactUpTo_get zs m hmz, compactUpTo_get zs (m - 1) (by omega)]
        simp [hm0, heq]
      rw [hkeep]
      refine ⟨by simpa using h1, fun x => ?_⟩
      have hin : zs[m] ∈ zs.take m := by
        rw [heq]
        exact List.mem_iff_getElem.2 ⟨m - 1, by rw [List.length_take]; omega, by rw [List.getElem_take]⟩
      simp only [Bool.false_eq_true, if_false, List.append_nil, List.mem_append, List.mem_singleton]
      rw [h2]
      constructor
      · exact .inl
      · rintro (h | rfl)
        · exact h
        · exact hin

/-- sorting and dropping repeats gives what putting one by one gives -/
theorem compact_sorted (zs : List (List UInt8)) : Lib.compact (zs.mergeSort fun x y => !(ltOf cw) y x) = puts [] zs := by
  have hp := List.mergeSort_perm zs fun x y => !(ltOf cw) y x
  have hs : Up (zs.mergeSort fun x y => !(ltOf cw) y x) := by
    have := List.pairwise_mergeSort (le := fun x y => !(ltOf cw) y x) (fun a b c h1 h2 => by
      simp only [Bool.not_eq_true'] at *
      exact swo_cw.ntrans c b a h2 h1) (fun a b => by
      cases h : ltOf cw b a with
      | false => simp
      | true => simp [swo_cw.asymmA h]) zs
    exact this.imp fun h => by simpa [ltOf_cw] using h
  generalize zs.mergeSort _ = ys at hp hs
  obtain ⟨h1, h2⟩ := compact_facts ys hs ys.length (Nat.le_refl _)
  refine inc_unique h1 (inc_puts zs [] List.Pairwise.nil) fun x => ?_
  rw [mem_puts]
  show x ∈ Lib.compactUpTo ys.toArray ys.length ↔ _
  rw [h2, List.take_length, hp.mem_iff]
  simp

end Go.Proofs.YthhiegcdocjfkaaDoor.W
