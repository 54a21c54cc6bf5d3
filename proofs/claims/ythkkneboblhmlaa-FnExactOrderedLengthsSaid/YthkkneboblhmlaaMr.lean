/-
  WHAT THIS FILE PROVES: plain facts on merging: the two or three least numbers are taken away and their sum is put in, by sorting each time or by putting into an ordered list; no program in sight.
-/
import Derived.Test.YthkkneboblhmlaaBe
namespace Go.Proofs.Ythkkneboblhmlaa.W

theorem getD_ltM (z : List Int) (i : Nat) (h : i < z.length) : z.getD i 0 = z[i] := by rw [List.getD_eq_getElem?_getD, List.getElem?_eq_getElem h]; rfl
/-- in order -/
abbrev leI (x y : Int) : Bool := decide (x ≤ y)
def sortI (z : List Int) : List Int := z.mergeSort leI
def UpI (z : List Int) : Prop := z.Pairwise fun a b => leI a b = true
theorem sortI_perm (z : List Int) : (sortI z).Perm z := List.mergeSort_perm z leI
theorem sortI_up (z : List Int) : UpI (sortI z) := List.pairwise_mergeSort (le := leI) (fun a b c h1 h2 => by
  simp only [leI, decide_eq_true_eq] at h1 h2 ⊢
  omega) (fun a b => by
  simp only [leI, Bool.or_eq_true, decide_eq_true_eq]
  omega) z
theorem sortI_length (z : List Int) : (sortI z).length = z.length := List.length_mergeSort z
theorem up_eq {a b : List Int} (ha : UpI a) (hb : UpI b) (hp : a.Perm b) : a = b := List.Perm.eq_of_pairwise (fun x y _ _ h1 h2 => by
  simp only [leI, decide_eq_true_eq] at h1 h2
  omega) ha hb hp
theorem up_drop {z : List Int} (h : UpI z) (k : Nat) : UpI (z.drop k) := List.Pairwise.sublist (List.drop_sublist k z) h
/-- put into an ordered list, behind those that are no greater -/
def putI : List Int → Int → List Int
  | [], x => [x]
  | y :: l, x => if y ≤ x then y :: putI l x else x :: y :: l
theorem putI_length (l : List Int) (x : Int) : (putI l x).length = l.length + 1 := by
  induction l with
  | nil => rfl
  | cons y l ih =>
    unfold putI
    split
    · simp [ih]
    · simp
theorem putI_at (l : List Int) (x : Int) : ∀ k, k ≤ l.length → (∀ j (hj : j < l.length), j < k → l[j] ≤ x) → (∀ hk : k < l.length, ¬ l[k] ≤ x) → putI l x = l.take k ++ x :: l.drop k := by
  induction l with
  | nil =>
    intro k hk _ _
    obtain rfl : k = 0 := by simpa using hk
    rfl
  | cons y l ih =>
    intro k hk h1 h2
    unfold putI
    cases k with
    | zero =>
      have : ¬ y ≤ x := h2 (by simp)
      rw [if_neg this]
      rfl
    | succ k =>
      have : y ≤ x := h1 0 (by simp) (by omega)
      rw [if_pos this, ih k (by simpa using hk) (fun j hj hjk => by have := h1 (j + 1) (by simpa using hj) (by omega); simpa using this) (fun hk' => by have := h2 (by simpa using hk'); simpa using this)]
      rfl
theorem putI_perm (l : List Int) (x : Int) : (putI l x).Perm (x :: l) := by
  induction l with
  | nil => exact List.Perm.refl _
  | cons y l ih =>
    unfold putI
    split
    · exact (List.Perm.cons y ih).trans (List.Perm.swap x y l)
    · exact List.Perm.refl _
theorem putI_up {l : List Int} (h : UpI l) (x : Int) : UpI (putI l x) := by
  induction l with
  | nil => exact List.pairwise_singleton _ _
  | cons y l ih =>
    have h1 := List.pairwise_cons.1 h
    unfold putI
    split
    · rename_i hy
      refine List.pairwise_cons.2 ⟨fun a ha => ?_, ih h1.2⟩
      rcases List.mem_cons.1 ((putI_perm l x).mem_iff.1 ha) with rfl | ha
      · simpa [leI] using hy
      · exact h1.1 a ha
    · rename_i hy
      refine List.pairwise_cons.2 ⟨fun a ha => ?_, h⟩
      simp only [leI, decide_eq_true_eq]
      rcases List.mem_cons.1 ha with rfl | ha
      · omega
      · have := h1.1 a ha
        simp only [leI, decide_eq_true_eq] at this
        omega
theorem sortI_snoc {s : List Int} (h : UpI s) (x : Int) : sortI (s ++ [x]) = putI s x :=
  up_eq (sortI_up _) (putI_up h x) ((sortI_perm _).trans ((List.perm_append_comm (l₁ := s) (l₂ := [x])).trans (putI_perm s x).symm))
theorem sortI_nil : sortI [] = [] := List.eq_nil_of_length_eq_zero (by rw [sortI_length]; rfl)
theorem sortI_take_succ (z : List Int) (k : Nat) (h : k < z.length) : sortI (z.take (k + 1)) = putI (sortI (z.take k)) z[k] := by
  rw [← sortI_snoc (sortI_up _), List.take_succ_eq_append_getElem h]
  exact up_eq (sortI_up _) (sortI_up _) ((sortI_perm _).trans ((List.Perm.append_right _ (sortI_perm _).symm).trans (sortI_perm _).symm))
theorem sortI_of_up {s : List Int} (h : UpI s) : sortI s = s := up_eq (sortI_up _) h (sortI_perm _)

/-- how many are taken away first -/
def mgT (L n : Nat) : Nat := if L = 3 ∧ n % 2 = 0 then 2 else L
/-- so many may be taken of n numbers -/
def mgOk (L t n : Nat) : Prop := (L = 2 ∧ t = 2) ∨ (L = 3 ∧ ((t = 3 ∧ n % 2 = 1) ∨ (t = 2 ∧ n % 2 = 0)))
theorem mgOk_first {L : Nat} (h2 : 2 ≤ L) (h3 : L ≤ 3) (n : Nat) : mgOk L (mgT L n) n := by
  unfold mgOk mgT
  split <;> omega
theorem mgOk_le {L t n : Nat} (h : mgOk L t n) (hn : 1 < n) : 2 ≤ t ∧ t ≤ n ∧ t ≤ 3 := by
  unfold mgOk at h
  omega
theorem mgOk_next {L t n : Nat} (h : mgOk L t n) (_hn : 1 < n) : mgOk L L (n - t + 1) := by
  unfold mgOk at h ⊢
  omega
/-- what is left after numbers are merged -/
def mgN (t : Nat) (z : List Int) : List Int := (sortI z).drop t ++ [((sortI z).take t).sum]
/-- the sums that are put in -/
def mgR (L : Nat) : Nat → Nat → List Int → List Int
  | 0, _, _ => []
  | f + 1, t, z => if 1 < z.length then ((sortI z).take t).sum :: mgR L f L (mgN t z) else []
theorem mgN_length (t : Nat) (z : List Int) : (mgN t z).length = z.length - t + 1 := by
  unfold mgN
  rw [List.length_append, List.length_drop, sortI_length]
  rfl
theorem mgR_end (L f t : Nat) (z : List Int) (h : ¬ 1 < z.length) : mgR L f t z = [] := by
  cases f with
  | zero => rfl
  | succ f => unfold mgR; rw [if_neg h]
theorem mgR_step (L f t : Nat) (z : List Int) (h : 1 < z.length) : mgR L (f + 1) t z = ((sortI z).take t).sum :: mgR L f L (mgN t z) := by
  conv => lhs; unfold mgR
  rw [if_pos h]
theorem mgN_sort (t : Nat) (z : List Int) : mgN t (sortI z) = mgN t z := by
  unfold mgN
  rw [sortI_of_up (sortI_up z)]
theorem mgR_sort (L f t : Nat) (z : List Int) : mgR L f t (sortI z) = mgR L f t z := by
  cases f with
  | zero => rfl
  | succ f =>
    by_cases hz : 1 < z.length
    · rw [mgR_step L f t z hz, mgR_step L f t (sortI z) (by rw [sortI_length]; exact hz), mgN_sort, sortI_of_up (sortI_up z)]
    · rw [mgR_end L _ t z hz, mgR_end L _ t (sortI z) (by rw [sortI_length]; exact hz)]
/-- a step of an ordered list -/
theorem mgR_put (L f t : Nat) {s : List Int} (hs : UpI s) (h : 1 < s.length) : mgR L (f + 1) t s = (s.take t).sum :: mgR L f L (putI (s.drop t) (s.take t).sum) := by
  rw [mgR_step L f t s h, sortI_of_up hs, ← mgR_sort L f L (mgN t s)]
  have : sortI (mgN t s) = putI (s.drop t) (s.take t).sum := by
    unfold mgN
    rw [sortI_of_up hs, sortI_snoc (up_drop hs t)]
  rw [this]
/-- numbers from 0 whose sum is at most S -/
def Sm (S : Int) (z : List Int) : Prop := (∀ x ∈ z, 0 ≤ x) ∧ z.sum ≤ S
theorem sum_nonneg {z : List Int} (h : ∀ x ∈ z, 0 ≤ x) : 0 ≤ z.sum := by
  induction z with
  | nil => exact Int.le_refl _
  | cons a z ih =>
    rw [List.sum_cons]
    have := h a (List.mem_cons_self ..)
    have := ih fun x hx => h x (List.mem_cons_of_mem _ hx)
    omega
theorem sum_perm {a b : List Int} (h : a.Perm b) : a.sum = b.sum := by
  induction h with
  | nil => rfl
  | cons x _ ih => rw [List.sum_cons, List.sum_cons, ih]
  | swap x y l => simp only [List.sum_cons]; omega
  | trans _ _ h1 h2 => exact h1.trans h2
theorem Sm.perm {S : Int} {a b : List Int} (h : Sm S a) (hp : a.Perm b) : Sm S b := ⟨fun x hx => h.1 x (hp.mem_iff.2 hx), by rw [← sum_perm hp]; exact h.2⟩
theorem Sm.take {S : Int} {z : List Int} (h : Sm S z) (k : Nat) : Sm S (z.take k) := by
  refine ⟨fun x hx => h.1 x (List.mem_of_mem_take hx), ?_⟩
  have h1 : z.sum = (z.take k).sum + (z.drop k).sum := by conv => lhs; rw [← List.take_append_drop k z]
                                                          rw [List.sum_append]
  have h2 := sum_nonneg (z := z.drop k) fun x hx => h.1 x (List.mem_of_mem_drop hx)
  have := h.2
  omega
theorem Sm.at {S : Int} {z : List Int} (h : Sm S z) (k : Nat) (hk : k < z.length) : 0 ≤ z[k] ∧ z[k] ≤ S := by
  refine ⟨h.1 _ (List.getElem_mem hk), ?_⟩
  have h1 : z.sum = (z.take k).sum + (z.drop k).sum := by conv => lhs; rw [← List.take_append_drop k z]
                                                          rw [List.sum_append]
  rw [List.drop_eq_getElem_cons hk, List.sum_cons] at h1
  have h2 := sum_nonneg (z := z.take k) fun x hx => h.1 x (List.mem_of_mem_take hx)
  have h3 := sum_nonneg (z := z.drop (k + 1)) fun x hx => h.1 x (List.mem_of_mem_drop hx)
  have := h.2
  omega
theorem Sm.total {S : Int} {z : List Int} (h : Sm S z) : 0 ≤ z.sum ∧ z.sum ≤ S := ⟨sum_nonneg h.1, h.2⟩
theorem Sm.next {S : Int} {z : List Int} (h : Sm S z) (t : Nat) : Sm S (mgN t z) := by
  have hs := h.perm (sortI_perm z).symm
  refine ⟨fun x hx => ?_, ?_⟩
  · rcases List.mem_append.1 hx with hx | hx
    · exact hs.1 x (List.mem_of_mem_drop hx)
    · obtain rfl := List.mem_singleton.1 hx
      exact (hs.take t).total.1
  · unfold mgN
    have h1 : (sortI z).sum = ((sortI z).take t).sum + ((sortI z).drop t).sum := by conv => lhs; rw [← List.take_append_drop t (sortI z)]
                                                                                    rw [List.sum_append]
    rw [List.sum_append, List.sum_cons, List.sum_nil]
    have := hs.2
    omega
theorem Sm.put {S : Int} {s : List Int} (h : Sm S s) (hs : UpI s) (t : Nat) : Sm S (putI (s.drop t) (s.take t).sum) := by
  have h1 := (h.next t).perm (sortI_perm (mgN t s)).symm
  have : sortI (mgN t s) = putI (s.drop t) (s.take t).sum := by
    unfold mgN
    rw [sortI_of_up hs, sortI_snoc (up_drop hs t)]
  rwa [this] at h1
theorem mgR_small {S : Int} (L : Nat) : ∀ (f t : Nat) (z : List Int), Sm S z → ∀ x ∈ mgR L f t z, 0 ≤ x ∧ x ≤ S
  | 0, _, _, _, x, hx => by cases hx
  | f + 1, t, z, h, x, hx => by
    by_cases hz : 1 < z.length
    · rw [mgR_step L f t z hz] at hx
      rcases List.mem_cons.1 hx with rfl | hx
      · exact ((h.perm (sortI_perm z).symm).take t).total
      · exact mgR_small L f L _ (h.next t) x hx
    · rw [mgR_end L (f + 1) t z hz] at hx
      cases hx
theorem mgR_length (L : Nat) : ∀ (f t : Nat) (z : List Int), (mgR L f t z).length ≤ f
  | 0, _, _ => Nat.le_refl _
  | f + 1, t, z => by
    by_cases hz : 1 < z.length
    · rw [mgR_step L f t z hz]
      have := mgR_length L f L (mgN t z)
      simp
      omega
    · rw [mgR_end L (f + 1) t z hz]
      exact Nat.zero_le _
theorem beN_small {z : List Int} (h : beN 100 z = true) : Sm 1200 z := by
  refine ⟨fun x hx => by have := beN_mem h hx; omega, ?_⟩
  have key : ∀ l : List Int, (∀ x ∈ l, x ≤ 100) → l.sum ≤ l.length * 100 := by
    intro l
    induction l with
    | nil => intro _; exact Int.le_refl _
    | cons a l ih =>
      intro hl
      have h1 := hl a (List.mem_cons_self ..)
      have h2 := ih fun x hx => hl x (List.mem_cons_of_mem _ hx)
      rw [List.sum_cons, List.length_cons]
      omega
  have h1 := key z fun x hx => (beN_mem h hx).2
  have h2 := (beN_parts h).1.2
  omega
/-- the sums of all weights -/
def mgAll (L : Nat) (z : List Int) : List Int := mgR L 12 (mgT L z.length) z
def mrOk (z : List Int) (L : Int) : Bool := beN 100 z && krLet L
/-- what MergeRun tells -/
def mrOf (z : List Int) (L : Int) : List Int := if mrOk z L then mgAll L.toNat z else []
theorem mrOf_no {z : List Int} {L : Int} (h : mrOk z L = false) : mrOf z L = [] := by unfold mrOf; rw [h]; rfl
theorem mrOf_yes {z : List Int} {L : Nat} (h : mrOk z L = true) : mrOf z L = mgAll L z := by unfold mrOf; rw [h, Int.toNat_natCast]; rfl
theorem mrOf_len (z : List Int) (L : Int) : (mrOf z L).length ≤ 12 := by
  cases h : mrOk z L
  · rw [mrOf_no h]; exact Nat.zero_le _
  · unfold mrOf
    rw [h]
    exact mgR_length _ _ _ _
/-- the cost of best lengths -/
def bcI (L : Nat) (z : List Int) : Int := if z.length = 1 then z.getD 0 0 else (mgAll L z).sum
/-- what BestCost tells -/
def bcOf (z : List Int) (L : Int) : Int := if mrOk z L then bcI L.toNat z else 0
theorem bcOf_no {z : List Int} {L : Int} (h : mrOk z L = false) : bcOf z L = 0 := by unfold bcOf; rw [h]; rfl
theorem bcOf_yes {z : List Int} {L : Nat} (h : mrOk z L = true) : bcOf z L = bcI L z := by unfold bcOf; rw [h, Int.toNat_natCast]; rfl
theorem mrOk_parts {z : List Int} {L : Int} (h : mrOk z L = true) : beN 100 z = true ∧ krLet L = true := by
  unfold mrOk at h
  rwa [Bool.and_eq_true] at h
/-- sums of numbers in bounds -/
theorem sum_take_succ (z : List Int) (k : Nat) (h : k < z.length) : (z.take (k + 1)).sum = (z.take k).sum + z[k] := by
  rw [List.take_succ_eq_append_getElem h, List.sum_append, List.sum_cons, List.sum_nil]
  omega
theorem sum_take_le {B : Int} {z : List Int} (hB : 0 ≤ B) (h : ∀ x ∈ z, 0 ≤ x ∧ x ≤ B) : ∀ k, k ≤ z.length → 0 ≤ (z.take k).sum ∧ (z.take k).sum ≤ k * B
  | 0, _ => by rw [List.take_zero]; simp
  | k + 1, hk => by
    have ih := sum_take_le hB h k (by omega)
    have h1 := h z[k] (List.getElem_mem (by omega))
    rw [sum_take_succ z k (by omega)]
    have e : ((k + 1 : Nat) : Int) * B = (k : Int) * B + B := by rw [Int.natCast_add, Int.add_mul]; simp
    omega
/-- what AreBest tells -/
def abOk (ws ls : List Int) (L : Int) : Bool := coOk ws ls && krLet L
def abOf (ws ls : List Int) (L : Int) : Bool := abOk ws ls L && (fitD L.toNat ls && (costI ws ls == bcI L.toNat ws))
theorem ab_no {ws ls : List Int} {L : Int} (h : (coOk ws ls && krLet L) = false) : abOf ws ls L = false ∧ abOk ws ls L = false := by
  have : abOk ws ls L = false := h
  exact ⟨by unfold abOf; rw [this]; rfl, this⟩
theorem ab_yes {ws ls : List Int} {L : Nat} (h : (coOk ws ls && krLet L) = true) : abOf ws ls L = (fitD L ls && (costI ws ls == bcI L ws)) ∧ abOk ws ls L = true := by
  have : abOk ws ls L = true := h
  exact ⟨by unfold abOf; rw [this, Int.toNat_natCast]; rfl, this⟩
theorem coOk_parts {ws ls : List Int} (h : coOk ws ls = true) : beN 100 ws = true ∧ beN 11 ls = true ∧ ws.length = ls.length := by
  unfold coOk at h
  simpa only [Bool.and_eq_true, decide_eq_true_eq] using h
end Go.Proofs.Ythkkneboblhmlaa.W
