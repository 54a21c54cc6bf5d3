/-
  WHAT THIS FILE PROVES: plain facts on walks in a finite graph: what is reached in n steps is reached in n and P steps more, too, for one P that is not great, so that the lists of what is reached in 0, 1, 2 .. steps repeat soon; no program in sight.
-/
namespace Go.Proofs.YtjopbmhldpcpdaaGreatDoor.G

section
variable {α : Type}

theorem nodup_le [DecidableEq α] : ∀ (l S : List α), l.Nodup → (∀ x ∈ l, x ∈ S) → l.length ≤ S.length
  | [], _, _, _ => Nat.zero_le _
  | a :: r, S, hn, hs => by
    have ha : a ∈ S := hs a (List.mem_cons_self ..)
    rw [List.nodup_cons] at hn
    have := nodup_le r (S.erase a) hn.2 (fun x hx => (List.mem_erase_of_ne (fun e => by subst e; exact hn.1 hx)).2 (hs x (List.mem_cons_of_mem _ hx)))
    rw [List.length_erase_of_mem ha] at this
    have hpos : 0 < S.length := List.length_pos_of_mem ha
    simp only [List.length_cons]
    omega

theorem nodup_range (p : Nat → α) (n : Nat) (h : ∀ i j, i < j → j < n → p i ≠ p j) : ((List.range n).map p).Nodup := by
  rw [List.Nodup, List.pairwise_map]
  refine List.Pairwise.imp_of_mem (fun {a b} ha hb hab => ?_) List.pairwise_lt_range
  exact h a b hab (by simpa using hb)

theorem repeats [DecidableEq α] (S : List α) (p : Nat → α) (h : ∀ i, i ≤ S.length → p i ∈ S) : ∃ j, j ≤ S.length ∧ ∃ i, i < j ∧ p i = p j := by
  apply Classical.byContradiction
  intro hno
  have hn : ((List.range (S.length + 1)).map p).Nodup := nodup_range p _ (fun i j hij hj e => hno ⟨j, by omega, i, hij, e⟩)
  have := nodup_le _ S hn (fun x hx => by
    obtain ⟨i, hi, rfl⟩ := List.mem_map.1 hx
    exact h i (by have := List.mem_range.1 hi; omega))
  simp at this
  omega

theorem least_repeat (p : Nat → α) : ∀ j, (∃ i, i < j ∧ p i = p j) → ∃ i j', i < j' ∧ j' ≤ j ∧ p i = p j' ∧ ∀ a b, a < b → b < j' → p a ≠ p b := by
  intro j
  induction j using Nat.strongRecOn with
  | ind j ih =>
    intro ⟨i, hi, e⟩
    by_cases h : ∃ b, b < j ∧ ∃ a, a < b ∧ p a = p b
    · obtain ⟨b, hb, a, hab, e2⟩ := h
      obtain ⟨i', j', h1, h2, h3, h4⟩ := ih b hb ⟨a, hab, e2⟩
      exact ⟨i', j', h1, by omega, h3, h4⟩
    · exact ⟨i, j, hi, Nat.le_refl _, e, fun a b hab hb e2 => h ⟨b, hb, a, hab, e2⟩⟩

variable (E : α → α → Prop) (I : α → Prop)
/-- reached in n steps -/
def reach : Nat → α → Prop
  | 0, x => I x
  | n + 1, x => ∃ y, reach n y ∧ E y x
/-- led to in n steps -/
def path : Nat → α → α → Prop
  | 0, a, b => a = b
  | n + 1, a, b => ∃ z, path n a z ∧ E z b
variable {E I}
theorem path_trans {m : Nat} : ∀ {k : Nat} {a b c : α}, path E m a b → path E k b c → path E (m + k) a c
  | 0, _, _, _, h, e => by subst e; exact h
  | k + 1, _, _, _, h, ⟨z, hz, he⟩ => ⟨z, path_trans h hz, he⟩
theorem reach_path {n : Nat} : ∀ {k : Nat} {x y : α}, reach E I n x → path E k x y → reach E I (n + k) y
  | 0, _, _, h, e => by subst e; exact h
  | k + 1, _, _, h, ⟨z, hz, he⟩ => ⟨z, reach_path h hz, he⟩
theorem path_times {l : Nat} {y : α} (h : path E l y y) : ∀ t, path E (t * l) y y
  | 0 => by rw [Nat.zero_mul]; rfl
  | t + 1 => by rw [Nat.succ_mul]; exact path_trans (path_times h t) h
theorem walk_of_reach : ∀ {n : Nat} {x : α}, reach E I n x → ∃ p : Nat → α, I (p 0) ∧ (∀ i, i < n → E (p i) (p (i + 1))) ∧ p n = x
  | 0, x, h => ⟨fun _ => x, h, fun i hi => absurd hi (Nat.not_lt_zero _), rfl⟩
  | n + 1, x, ⟨y, hy, he⟩ => by
    obtain ⟨p, h0, h1, h2⟩ := walk_of_reach hy
    refine ⟨fun i => if i ≤ n then p i else x, ?_, fun i hi => ?_, ?_⟩
    · simpa using h0
    · by_cases h : i < n
      · have a : i ≤ n := by omega
        have b : i + 1 ≤ n := by omega
        simp only [a, b, if_true]
        exact h1 i h
      · have e : i = n := by omega
        subst e
        have b : ¬ i + 1 ≤ i := by omega
        simp only [Nat.le_refl, if_true, b, if_false, h2]
        exact he
    · have b : ¬ n + 1 ≤ n := by omega
      simp only [b, if_false]
theorem reach_of_walk {n : Nat} {p : Nat → α} (h0 : I (p 0)) (h1 : ∀ i, i < n → E (p i) (p (i + 1))) : ∀ k, k ≤ n → reach E I k (p k)
  | 0, _ => h0
  | k + 1, h => ⟨p k, reach_of_walk h0 h1 k (by omega), h1 k (by omega)⟩
theorem path_of_walk {n : Nat} {p : Nat → α} (h1 : ∀ i, i < n → E (p i) (p (i + 1))) (k : Nat) : ∀ m, k + m ≤ n → path E m (p k) (p (k + m))
  | 0, _ => rfl
  | m + 1, h => ⟨p (k + m), path_of_walk h1 k m (by omega), h1 (k + m) (by omega)⟩

/-- the nodes of a closed walk -/
def Cyc (E : α → α → Prop) (c : List α) : Prop := ∃ (q : Nat → α) (l : Nat), 1 ≤ l ∧ c = (List.range l).map q ∧ q l = q 0 ∧ ∀ i, i < l → E (q i) (q (i + 1))
theorem cyc_path {c : List α} (h : Cyc E c) {y : α} (hy : y ∈ c) : path E c.length y y := by
  obtain ⟨q, l, hl, rfl, hq, hE⟩ := h
  obtain ⟨i, hi, rfl⟩ := List.mem_map.1 hy
  have hi' : i < l := List.mem_range.1 hi
  rw [List.length_map, List.length_range]
  have a := path_of_walk hE i (l - i) (by omega)
  have b := path_of_walk hE 0 i (by omega)
  rw [show i + (l - i) = l by omega, hq] at a
  rw [Nat.zero_add] at b
  have := path_trans a b
  rwa [show l - i + i = l by omega] at this

variable {S : List α}
theorem reach_in (h0 : ∀ x, I x → x ∈ S) (h1 : ∀ x y, x ∈ S → E x y → y ∈ S) : ∀ {n : Nat} {x : α}, reach E I n x → x ∈ S
  | 0, x, h => h0 x h
  | _ + 1, x, ⟨y, hy, he⟩ => h1 y x (reach_in h0 h1 hy) he
/-- a long walk goes through all nodes of a closed one without repeats -/
theorem has_cycle [DecidableEq α] (h0 : ∀ x, I x → x ∈ S) (h1 : ∀ x y, x ∈ S → E x y → y ∈ S) {n : Nat} {x : α} (hn : S.length ≤ n) (hr : reach E I n x) :
    ∃ c, Cyc E c ∧ c.Nodup ∧ ∀ y ∈ c, y ∈ S ∧ ∃ k, k ≤ n ∧ reach E I k y ∧ path E (n - k) y x := by
  obtain ⟨p, p0, pE, rfl⟩ := walk_of_reach hr
  have hp : ∀ i, i ≤ n → p i ∈ S := fun i hi => reach_in h0 h1 (reach_of_walk p0 pE i hi)
  obtain ⟨j0, hj0, hrep⟩ := repeats S p (fun i hi => hp i (by omega))
  obtain ⟨i, j, hij, hj, he, hmin⟩ := least_repeat p j0 hrep
  refine ⟨(List.range (j - i)).map fun t => p (i + t), ⟨fun t => p (i + t), j - i, by omega, rfl, ?_, fun t ht => ?_⟩, ?_, fun y hy => ?_⟩
  · show p (i + (j - i)) = p (i + 0)
    rw [show i + (j - i) = j by omega]
    exact he.symm
  · exact pE (i + t) (by omega)
  · exact nodup_range (fun t => p (i + t)) _ (fun a b hab hb => hmin (i + a) (i + b) (by omega) (by omega))
  · obtain ⟨t, ht, rfl⟩ := List.mem_map.1 hy
    have ht' := List.mem_range.1 ht
    refine ⟨hp _ (by omega), i + t, by omega, reach_of_walk p0 pE _ (by omega), ?_⟩
    have := path_of_walk pE (i + t) (n - (i + t)) (by omega)
    rwa [show i + t + (n - (i + t)) = n by omega] at this

/-- closed walks that meet nowhere -/
def Fam (E : α → α → Prop) (S : List α) (F : List (List α)) : Prop := (∀ c ∈ F, Cyc E c) ∧ F.flatten.Nodup ∧ ∀ y ∈ F.flatten, y ∈ S
theorem fam_le [DecidableEq α] {F : List (List α)} (h : Fam E S F) : F.flatten.length ≤ S.length := nodup_le _ _ h.2.1 h.2.2
theorem max_fam [DecidableEq α] : ∀ (d : Nat) (F : List (List α)), Fam E S F → S.length - F.flatten.length = d → ∃ F', Fam E S F' ∧ ∀ F'', Fam E S F'' → F''.flatten.length ≤ F'.flatten.length := by
  intro d
  induction d using Nat.strongRecOn with
  | ind d ih =>
    intro F hF hd
    by_cases h : ∀ F'', Fam E S F'' → F''.flatten.length ≤ F.flatten.length
    · exact ⟨F, hF, h⟩
    · obtain ⟨F2, h2⟩ := Classical.not_forall.1 h
      obtain ⟨h2, h3⟩ := Classical.not_imp.1 h2
      have := fam_le h2
      exact ih (S.length - F2.flatten.length) (by omega) F2 h2 rfl
theorem fam_nil : Fam E S ([] : List (List α)) := ⟨fun c h => absurd h (by simp), by simp, fun y h => absurd h (by simp)⟩
theorem meets {F : List (List α)} (hF : Fam E S F) (hmax : ∀ F'', Fam E S F'' → F''.flatten.length ≤ F.flatten.length) {c : List α} (hc : Cyc E c) (hn : c.Nodup) (hs : ∀ y ∈ c, y ∈ S) : ∃ y, y ∈ c ∧ y ∈ F.flatten := by
  apply Classical.byContradiction
  intro hno
  have hlen : 1 ≤ c.length := by
    obtain ⟨q, l, hl, rfl, _⟩ := hc
    rw [List.length_map, List.length_range]
    exact hl
  have := hmax (c :: F) ⟨fun d hd => by
      rcases List.mem_cons.1 hd with rfl | hd
      · exact hc
      · exact hF.1 d hd, by
      rw [List.flatten_cons, List.nodup_append]
      exact ⟨hn, hF.2.1, fun a ha b hb e => hno ⟨a, ha, e ▸ hb⟩⟩, fun y hy => by
      rw [List.flatten_cons, List.mem_append] at hy
      rcases hy with hy | hy
      · exact hs y hy
      · exact hF.2.2 y hy⟩
  rw [List.flatten_cons, List.length_append] at this
  omega
end

/-- the product, and the sum, of the different numbers of a list up to m -/
def prodTo (ls : List Nat) : Nat → Nat
  | 0 => 1
  | m + 1 => if m + 1 ∈ ls then (m + 1) * prodTo ls m else prodTo ls m
def sumTo (ls : List Nat) : Nat → Nat
  | 0 => 0
  | m + 1 => if m + 1 ∈ ls then m + 1 + sumTo ls m else sumTo ls m
theorem prodTo_pos (ls : List Nat) : ∀ m, 1 ≤ prodTo ls m
  | 0 => Nat.le_refl _
  | m + 1 => by
    have := prodTo_pos ls m
    unfold prodTo
    split
    · exact Nat.mul_pos (by omega) this
    · exact this
theorem dvd_prodTo {ls : List Nat} {d : Nat} (h : d ∈ ls) (h1 : 1 ≤ d) : ∀ m, d ≤ m → d ∣ prodTo ls m
  | 0, h2 => by omega
  | m + 1, h2 => by
    unfold prodTo
    by_cases e : d = m + 1
    · subst e
      rw [if_pos h]
      exact Nat.dvd_mul_right _ _
    · have := dvd_prodTo h h1 m (by omega)
      split
      · exact Nat.dvd_trans this (Nat.dvd_mul_left _ _)
      · exact this
theorem sum_filter_succ (m : Nat) : ∀ ls : List Nat, (ls.filter (· ≤ m)).sum + (if m + 1 ∈ ls then m + 1 else 0) ≤ (ls.filter (· ≤ m + 1)).sum
  | [] => by simp
  | a :: r => by
    have ih := sum_filter_succ m r
    by_cases h1 : a ≤ m
    · have h2 : a ≤ m + 1 := by omega
      have h3 : ¬ m + 1 = a := by omega
      simp only [List.filter_cons, h1, h2, decide_true, if_true, List.sum_cons, List.mem_cons, h3, false_or]
      omega
    · by_cases h2 : a = m + 1
      · subst h2
        have h4 : ¬ m + 1 ≤ m := by omega
        simp only [List.filter_cons, h4, decide_false, Bool.false_eq_true, if_false, Nat.le_refl, decide_true, if_true, List.sum_cons, List.mem_cons, true_or]
        split at ih <;> omega
      · have h3 : ¬ a ≤ m + 1 := by omega
        have h4 : ¬ m + 1 = a := fun e => h2 e.symm
        simp only [List.filter_cons, h1, h3, decide_false, Bool.false_eq_true, if_false, List.mem_cons, h4, false_or]
        exact ih
theorem sumTo_filter (ls : List Nat) : ∀ m, sumTo ls m ≤ (ls.filter (· ≤ m)).sum
  | 0 => Nat.zero_le _
  | m + 1 => by
    have ih := sumTo_filter ls m
    have := sum_filter_succ m ls
    unfold sumTo
    split
    · rename_i h
      rw [if_pos h] at this
      omega
    · rename_i h
      rw [if_neg h] at this
      omega
theorem sum_filter_le (m : Nat) : ∀ ls : List Nat, (ls.filter (· ≤ m)).sum ≤ ls.sum
  | [] => Nat.le_refl _
  | a :: r => by
    have ih := sum_filter_le m r
    rw [List.filter_cons]
    split <;> simp only [List.sum_cons] <;> omega
theorem sumTo_le (ls : List Nat) (m : Nat) : sumTo ls m ≤ ls.sum := Nat.le_trans (sumTo_filter ls m) (sum_filter_le m ls)

/-- the greatest products of different numbers up to m with a sum of at most 0, 1, .. 84 -/
def row : Nat → List Nat
  | 0 => List.replicate 85 1
  | m + 1 => let r := row m; (List.range 85).map fun s => Nat.max (r.getD s 0) (if m + 1 ≤ s then (m + 1) * r.getD (s - (m + 1)) 0 else 0)
theorem row_zero (s : Nat) (h : s ≤ 84) : (row 0).getD s 0 = 1 := by
  unfold row
  rw [List.getD_eq_getElem?_getD, List.getElem?_replicate, if_pos (by omega)]
  rfl
theorem row_succ (m s : Nat) (h : s ≤ 84) : (row (m + 1)).getD s 0 = Nat.max ((row m).getD s 0) (if m + 1 ≤ s then (m + 1) * (row m).getD (s - (m + 1)) 0 else 0) := by
  rw [row, List.getD_eq_getElem?_getD, List.getElem?_map, List.getElem?_range (by omega)]
  rfl
theorem prod_row (ls : List Nat) : ∀ m, sumTo ls m ≤ 84 → prodTo ls m ≤ (row m).getD (sumTo ls m) 0
  | 0, h => by rw [row_zero _ h]; exact Nat.le_refl _
  | m + 1, h => by
    rw [row_succ m _ h]
    unfold prodTo sumTo at *
    by_cases hm : m + 1 ∈ ls
    · rw [if_pos hm] at h ⊢
      rw [if_pos hm, if_pos (by omega), show m + 1 + sumTo ls m - (m + 1) = sumTo ls m by omega]
      exact Nat.le_trans (Nat.mul_le_mul_left _ (prod_row ls m (by omega))) (Nat.le_max_right _ _)
    · rw [if_neg hm] at h ⊢
      rw [if_neg hm]
      exact Nat.le_trans (prod_row ls m h) (Nat.le_max_left _ _)
theorem row_bound : ∀ s, s < 85 → (row 84).getD s 0 ≤ 4000000000 := by decide +kernel
theorem prod_bound (ls : List Nat) (h : ls.sum ≤ 84) : prodTo ls 84 ≤ 4000000000 := by
  have h1 := sumTo_le ls 84
  exact Nat.le_trans (prod_row ls 84 (by omega)) (row_bound _ (by omega))

section
variable {α : Type} {E : α → α → Prop} {I : α → Prop} {S : List α}
theorem flatten_length (F : List (List α)) : F.flatten.length = (F.map List.length).sum := List.length_flatten
/-- what is reached in many steps is reached in P more, too -/
theorem pump [DecidableEq α] (hS : S.length ≤ 84) (h0 : ∀ x, I x → x ∈ S) (h1 : ∀ x y, x ∈ S → E x y → y ∈ S) : ∃ P, 1 ≤ P ∧ P ≤ 4000000000 ∧ ∀ n x, S.length ≤ n → reach E I n x → reach E I (n + P) x := by
  obtain ⟨F, hF, hmax⟩ := max_fam (E := E) (S := S) _ [] fam_nil rfl
  have hfl := fam_le hF
  rw [flatten_length] at hfl
  refine ⟨prodTo (F.map List.length) 84, prodTo_pos _ _, prod_bound _ (by omega), fun n x hn hr => ?_⟩
  obtain ⟨c, hc, hcn, hall⟩ := has_cycle h0 h1 hn hr
  obtain ⟨y, hy, hyF⟩ := meets hF hmax hc hcn (fun y hy => (hall y hy).1)
  obtain ⟨_, k, hk, hrk, hpk⟩ := hall y hy
  obtain ⟨d, hd, hyd⟩ := List.mem_flatten.1 hyF
  have hdp := cyc_path (hF.1 d hd) hyd
  have hdl : d.length ∈ F.map List.length := List.mem_map.2 ⟨d, hd, rfl⟩
  have hd1 : 1 ≤ d.length := by
    obtain ⟨q, l, hl, rfl, _⟩ := hF.1 d hd
    rw [List.length_map, List.length_range]
    exact hl
  have hd84 : d.length ≤ 84 := by
    have : d.length ≤ F.flatten.length := by
      refine nodup_le d _ ?_ (fun z hz => List.mem_flatten.2 ⟨d, hd, hz⟩)
      exact List.Nodup.sublist (List.sublist_flatten_of_mem hd) hF.2.1
    rw [flatten_length] at this
    omega
  obtain ⟨t, ht⟩ := dvd_prodTo hdl hd1 84 hd84
  have := reach_path (reach_path hrk (path_times hdp t)) hpk
  rw [ht]
  rwa [show k + t * d.length + (n - k) = n + d.length * t by rw [Nat.mul_comm]; omega] at this

/-- the lists of what is reached in 0, 1, 2 .. steps repeat soon -/
theorem lists_repeat [DecidableEq α] (hS : S.length ≤ 84) (h0 : ∀ x, I x → x ∈ S) (h1 : ∀ x y, x ∈ S → E x y → y ∈ S) (L : Nat → List α) (hL : ∀ n x, x ∈ L n ↔ reach E I n x) :
    ∃ m n, m < n ∧ n ≤ 400000000000 ∧ ∀ x, x ∈ L m ↔ x ∈ L n := by
  obtain ⟨P, hP1, hP2, hpump⟩ := pump hS h0 h1
  apply Classical.byContradiction
  intro hno
  have hbig : ∀ j, j ≤ S.length + 1 → j * P ≤ 85 * 4000000000 := fun j hj => Nat.mul_le_mul (by omega) hP2
  have hsub : ∀ j x, x ∈ L (S.length + j * P) → x ∈ L (S.length + (j + 1) * P) := fun j x hx => by
    rw [hL] at hx ⊢
    have := hpump _ x (Nat.le_add_right _ _) hx
    rwa [Nat.add_assoc, ← Nat.succ_mul] at this
  have hgrow : ∀ j, j ≤ S.length + 1 → j ≤ (S.filter fun x => decide (x ∈ L (S.length + j * P))).length := by
    intro j
    induction j with
    | zero => intro _; exact Nat.zero_le _
    | succ j ih =>
      intro hj
      have ih := ih (by omega)
      have hb := hbig (j + 1) hj
      have hsm : (j + 1) * P = j * P + P := Nat.succ_mul _ _
      obtain ⟨z, hz⟩ : ∃ z, ¬ (z ∈ L (S.length + j * P) ↔ z ∈ L (S.length + (j + 1) * P)) := by
        apply Classical.byContradiction
        intro hall
        exact hno ⟨S.length + j * P, S.length + (j + 1) * P, by omega, by omega, fun x => Classical.byContradiction fun hx => hall ⟨x, hx⟩⟩
      have hz1 : z ∉ L (S.length + j * P) := fun h => hz ⟨fun _ => hsub j z h, fun _ => h⟩
      have hz2 : z ∈ L (S.length + (j + 1) * P) := Classical.byContradiction fun h => hz ⟨fun h' => absurd h' hz1, fun h' => absurd h' h⟩
      have hzS : z ∈ S := reach_in h0 h1 ((hL _ z).1 hz2)
      have key : ∀ T : List α, z ∈ T → (T.filter fun x => decide (x ∈ L (S.length + j * P))).length + 1 ≤ (T.filter fun x => decide (x ∈ L (S.length + (j + 1) * P))).length := by
        have mono : ∀ T : List α, (T.filter fun x => decide (x ∈ L (S.length + j * P))).length ≤ (T.filter fun x => decide (x ∈ L (S.length + (j + 1) * P))).length := by
          intro T
          induction T with
          | nil => exact Nat.le_refl _
          | cons a r ihr =>
            by_cases ha : a ∈ L (S.length + j * P)
            · have hb := hsub j a ha
              simp only [List.filter_cons, ha, hb, decide_true, if_true, List.length_cons]
              omega
            · simp only [List.filter_cons, ha, decide_false, Bool.false_eq_true, if_false]
              split
              · simp only [List.length_cons]; omega
              · exact ihr
        intro T hT
        induction T with
        | nil => simp at hT
        | cons a r ihr =>
          by_cases e : a = z
          · subst e
            simp only [List.filter_cons, hz1, hz2, decide_false, decide_true, Bool.false_eq_true, if_false, if_true, List.length_cons]
            have := mono r
            omega
          · have hr : z ∈ r := by
              rcases List.mem_cons.1 hT with h | h
              · exact absurd h.symm e
              · exact h
            have := ihr hr
            by_cases ha : a ∈ L (S.length + j * P)
            · have hb := hsub j a ha
              simp only [List.filter_cons, ha, hb, decide_true, if_true, List.length_cons]
              omega
            · simp only [List.filter_cons, ha, decide_false, Bool.false_eq_true, if_false]
              split
              · simp only [List.length_cons]; omega
              · exact this
      have := key S hzS
      omega
  have := hgrow (S.length + 1) (Nat.le_refl _)
  have h2 := List.length_filter_le (fun x => decide (x ∈ L (S.length + (S.length + 1) * P))) S
  omega
end

end Go.Proofs.YtjopbmhldpcpdaaGreatDoor.G
