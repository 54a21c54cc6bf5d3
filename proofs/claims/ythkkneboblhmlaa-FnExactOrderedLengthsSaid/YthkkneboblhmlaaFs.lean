/-
  WHAT THIS FILE PROVES: plain facts on a search of lists of numbers in lexicographic order that leaves out those whose beginnings are not of a kind: what is found from a list on; the first ordered lengths of least cost are found so; no program in sight.
-/
import Derived.Test.YthkkneboblhmlaaOf
namespace Go.Proofs.Ythkkneboblhmlaa.W

/-- the first of r values from l on for which there is something -/
def fsO (g : Nat → Option (List Nat)) : Nat → Nat → Option (List Nat)
  | 0, _ => none
  | r + 1, l => match g l with
    | some v => some v
    | none => fsO g r (l + 1)
/-- what is found behind a list that has f numbers to go -/
def dS (M : List Nat → Bool) : Nat → List Nat → Option (List Nat)
  | 0, q => some q
  | f + 1, q => fsO (fun y => if M (q ++ [y]) then dS M f (q ++ [y]) else none) 11 1
def tS (M : List Nat → Bool) (f : Nat) (q : List Nat) : Option (List Nat) := if M q then dS M f q else none
/-- what is found behind a list (its last number is x, those before it rp, from the last on) -/
def rS (M : List Nat → Bool) (n : Nat) : List Nat → Nat → Option (List Nat)
  | [], x => fsO (fun y => tS M (n - 1) [y]) (11 - x) (x + 1)
  | x' :: rp, x => match fsO (fun y => tS M (n - (rp.length + 2)) ((x' :: rp).reverse ++ [y])) (11 - x) (x + 1) with
    | some v => some v
    | none => rS M n rp x'
theorem rS_nil (M : List Nat → Bool) (n x : Nat) : rS M n [] x = fsO (fun y => tS M (n - 1) [y]) (11 - x) (x + 1) := rfl
theorem rS_cons (M : List Nat → Bool) (n : Nat) (x' : Nat) (rp : List Nat) (x : Nat) : rS M n (x' :: rp) x = (match fsO (fun y => tS M (n - (rp.length + 2)) ((x' :: rp).reverse ++ [y])) (11 - x) (x + 1) with
    | some v => some v
    | none => rS M n rp x') := rfl
theorem fsO_step (g : Nat → Option (List Nat)) {x : Nat} (h : x < 11) : fsO g (11 - x) (x + 1) = (match g (x + 1) with
    | some v => some v
    | none => fsO g (11 - (x + 1)) (x + 1 + 1)) := by
  rw [show 11 - x = (11 - (x + 1)) + 1 by omega]
  rfl
theorem rev_cons (x : Nat) (rp : List Nat) : (x :: rp).reverse = rp.reverse ++ [x] := List.reverse_cons ..
theorem rS_skip {M : List Nat → Bool} {n : Nat} {rp : List Nat} {x : Nat} (hx : x < 11) (h : M ((x + 1) :: rp).reverse = false) : rS M n rp x = rS M n rp (x + 1) := by
  rw [rev_cons] at h
  cases rp with
  | nil =>
    rw [rS_nil, rS_nil, fsO_step _ hx]
    have : tS M (n - 1) [x + 1] = none := by
      unfold tS
      rw [show ([x + 1] : List Nat) = [].reverse ++ [x + 1] from rfl, h]
      rfl
    rw [this]
  | cons x' rp =>
    rw [rS_cons, rS_cons, fsO_step _ hx]
    have : tS M (n - (rp.length + 2)) ((x' :: rp).reverse ++ [x + 1]) = none := by
      unfold tS
      rw [h]
      rfl
    rw [this]
theorem tS_yes {M : List Nat → Bool} {f : Nat} {q : List Nat} (h : M q = true) : tS M f q = dS M f q := by unfold tS; rw [if_pos h]
theorem rS_found {M : List Nat → Bool} {n : Nat} {rp : List Nat} {x : Nat} (hx : x < 11) (h : M ((x + 1) :: rp).reverse = true) (hn : rp.length + 1 = n) : rS M n rp x = some ((x + 1) :: rp).reverse := by
  rw [rev_cons] at h ⊢
  subst hn
  cases rp with
  | nil =>
    rw [rS_nil, fsO_step _ hx]
    have : tS M (([] : List Nat).length + 1 - 1) [x + 1] = some [x + 1] := by
      rw [tS_yes (q := [x + 1]) h]
      rfl
    rw [this]
    rfl
  | cons x' rp =>
    rw [rS_cons, fsO_step _ hx]
    have : tS M ((x' :: rp).length + 1 - (rp.length + 2)) ((x' :: rp).reverse ++ [x + 1]) = some ((x' :: rp).reverse ++ [x + 1]) := by
      rw [tS_yes h, show (x' :: rp).length + 1 - (rp.length + 2) = 0 by rw [List.length_cons]; omega]
      rfl
    rw [this]
theorem rS_push {M : List Nat → Bool} {n : Nat} {rp : List Nat} {x : Nat} (hx : x < 11) (h : M ((x + 1) :: rp).reverse = true) (hn : rp.length + 1 < n) : rS M n rp x = rS M n ((x + 1) :: rp) 0 := by
  rw [rev_cons] at h
  rw [rS_cons M n (x + 1) rp 0, rev_cons]
  obtain ⟨f, hf⟩ : ∃ f, n - (rp.length + 1) = f + 1 := ⟨n - (rp.length + 2), by omega⟩
  have hf2 : n - (rp.length + 2) = f := by omega
  have hd : dS M (f + 1) (rp.reverse ++ [x + 1]) = fsO (fun y => tS M f (rp.reverse ++ [x + 1] ++ [y])) 11 1 := rfl
  rw [hf2]
  cases rp with
  | nil =>
    rw [rS_nil, rS_nil, fsO_step _ hx]
    have e : n - 1 = f + 1 := hf
    rw [e, tS_yes (q := [x + 1]) h]
    have hd2 : dS M (f + 1) [x + 1] = fsO (fun y => tS M f (([] : List Nat).reverse ++ [x + 1] ++ [y])) 11 1 := hd
    rw [hd2]
  | cons x' rp =>
    rw [rS_cons, rS_cons, fsO_step _ hx]
    have e : n - (rp.length + 2) = f + 1 := hf
    rw [e, tS_yes h, hd]
    rw [show 11 - 0 = 11 from rfl, show 0 + 1 = 1 from rfl]
    generalize fsO (fun y => tS M f ((x' :: rp).reverse ++ [x + 1] ++ [y])) 11 1 = K
    cases K <;> rfl
theorem rS_pop (M : List Nat → Bool) (n : Nat) (x' : Nat) (rp : List Nat) : rS M n (x' :: rp) 11 = rS M n rp x' := rfl
theorem rS_end (M : List Nat → Bool) (n : Nat) : rS M n [] 11 = none := rfl
theorem rS_start (M : List Nat → Bool) (n : Nat) (h : 1 ≤ n) : rS M n [] 0 = dS M n [] := by
  obtain ⟨m, rfl⟩ : ∃ m, n = m + 1 := ⟨n - 1, by omega⟩
  rfl
/-- the measure of a search: less for each list that comes later -/
def muS (n : Nat) : List Nat → Nat
  | [] => 0
  | x :: rp => (12 - x) * 13 ^ (n - rp.length) + muS n rp
theorem mu_incr {n : Nat} {rp : List Nat} {x : Nat} (hx : x < 11) : muS n ((x + 1) :: rp) < muS n (x :: rp) := by
  show (12 - (x + 1)) * 13 ^ (n - rp.length) + muS n rp < (12 - x) * 13 ^ (n - rp.length) + muS n rp
  have hp : 0 < 13 ^ (n - rp.length) := Nat.pow_pos (by omega)
  have h1 : (12 - (x + 1)) * 13 ^ (n - rp.length) < (12 - x) * 13 ^ (n - rp.length) := Nat.mul_lt_mul_of_pos_right (by omega) hp
  omega
theorem mu_pop {n : Nat} {rp : List Nat} : muS n rp < muS n (11 :: rp) := by
  show muS n rp < (12 - 11) * 13 ^ (n - rp.length) + muS n rp
  have hp : 0 < 13 ^ (n - rp.length) := Nat.pow_pos (by omega)
  omega
theorem mu_push {n : Nat} {rp : List Nat} {x y : Nat} (hxy : x < y) (hy : y ≤ 11) (hn : rp.length + 1 ≤ n) : muS n (0 :: y :: rp) < muS n (x :: rp) := by
  show (12 - 0) * 13 ^ (n - (y :: rp).length) + ((12 - y) * 13 ^ (n - rp.length) + muS n rp) < (12 - x) * 13 ^ (n - rp.length) + muS n rp
  have e : 13 ^ (n - rp.length) = 13 * 13 ^ (n - (y :: rp).length) := by
    rw [List.length_cons, Nat.mul_comm, ← Nat.pow_succ]
    congr 1
    omega
  rw [e]
  have hp : 0 < 13 ^ (n - (y :: rp).length) := Nat.pow_pos (by omega)
  generalize 13 ^ (n - (y :: rp).length) = B at hp
  have h1 : (12 - y + 1) * (13 * B) ≤ (12 - x) * (13 * B) := Nat.mul_le_mul_right _ (by omega)
  rw [Nat.add_mul, Nat.one_mul] at h1
  omega

/-- what is found from a list on (its numbers from the last on) -/
def rst (M : List Nat → Bool) (n : Nat) : List Nat → Option (List Nat)
  | [] => none
  | x :: rp => rS M n rp x
theorem rst_pop (M : List Nat → Bool) (n : Nat) (rp : List Nat) : rS M n rp 11 = rst M n rp := by
  cases rp with
  | nil => exact rS_end M n
  | cons x' rp => exact rS_pop M n x' rp

/-- numbers as they lie in memory -/
def toI (l : List Nat) : List Int := l.map fun (x : Nat) => (x : Int)
theorem toI_len (l : List Nat) : (toI l).length = l.length := by simp [toI]
theorem toI_snoc (l : List Nat) (x : Nat) : toI (l ++ [x]) = toI l ++ [(x : Int)] := by simp [toI]
theorem toI_set (rp : List Nat) (x y : Nat) : (toI (x :: rp).reverse).set rp.length (y : Int) = toI (y :: rp).reverse := by
  rw [rev_cons, rev_cons, toI_snoc, toI_snoc, List.set_append_right _ _ (by rw [toI_len, List.length_reverse]; exact Nat.le_refl _), toI_len, List.length_reverse, Nat.sub_self]
  rfl
theorem toI_last (rp : List Nat) (x : Nat) : (toI (x :: rp).reverse)[rp.length]? = some (x : Int) := by
  rw [rev_cons, toI_snoc, List.getElem?_append_right (by rw [toI_len, List.length_reverse]; exact Nat.le_refl _), toI_len, List.length_reverse, Nat.sub_self]
  rfl
theorem toI_take (rp : List Nat) (x : Nat) : (toI (x :: rp).reverse).take rp.length = toI rp.reverse := by
  rw [rev_cons, toI_snoc, List.take_left' (by rw [toI_len, List.length_reverse])]
/-- lengths may begin so, of a least cost -/
def mbB (z : List Int) (C : Int) (l : List Nat) : Bool := decide (costI z (toI l) + (z.drop l.length).sum ≤ C) && isOl (toI l)
theorem fst_none {g : Nat → List Int} : ∀ r l, (∀ y, l ≤ y → y < l + r → (g y) = []) → fstFrom g r l = []
  | 0, _, _ => rfl
  | r + 1, l, h => by
    unfold fstFrom
    rw [h l (Nat.le_refl _) (by omega), if_pos (show ([] : List Int).length = 0 from rfl)]
    exact fst_none r (l + 1) (fun y h1 h2 => h y (by omega) (by omega))
theorem fst_eq {g : Nat → List Int} {k : Nat → Option (List Nat)} : ∀ r l, (∀ y, l ≤ y → y < l + r → g y = toI ((k y).getD []) ∧ ∀ v, k y = some v → v.length ≠ 0) → fstFrom g r l = toI ((fsO k r l).getD [])
  | 0, _, _ => rfl
  | r + 1, l, h => by
    obtain ⟨h1, h2⟩ := h l (Nat.le_refl _) (by omega)
    have ih := fst_eq (g := g) (k := k) r (l + 1) (fun y h3 h4 => h y (by omega) (by omega))
    unfold fstFrom fsO
    cases hk : k l with
    | none =>
      rw [hk] at h1
      rw [if_pos (by rw [h1]; rfl)]
      exact ih
    | some v =>
      rw [hk] at h1
      rw [if_neg (by rw [h1, toI_len]; exact h2 v hk), h1]
theorem drop_sum {z : List Int} {k : Nat} (h : k < z.length) : (z.drop k).sum = z.getD k 0 + (z.drop (k + 1)).sum := by
  rw [List.drop_eq_getElem_cons h, List.sum_cons, List.getD_eq_getElem?_getD, List.getElem?_eq_getElem h]
  rfl
theorem foS_dear {z : List Int} (hz : ∀ k, k < z.length → 1 ≤ z.getD k 0) : ∀ f xs C, xs.length + f = z.length → C < (z.drop xs.length).sum → foS z f xs C = []
  | 0, xs, C, hl, hC => by
    rw [show xs.length = z.length by omega, List.drop_length] at hC
    exact foS_bad (by unfold foBad; rw [decide_eq_true (show C < 0 from hC)]; rfl) 0
  | f + 1, xs, C, hl, hC => by
    cases hb : foBad xs C with
    | true => exact foS_bad hb _
    | false =>
      rw [foS_go hb]
      refine fst_none _ _ (fun y h1 h2 => ?_)
      refine foS_dear hz f _ _ (by rw [List.length_append, List.length_singleton]; omega) ?_
      rw [List.length_append, List.length_singleton]
      rw [drop_sum (by omega)] at hC
      have hw := hz xs.length (by omega)
      have hm : z.getD xs.length 0 ≤ (y : Int) * z.getD xs.length 0 := by
        have := Int.mul_le_mul_of_nonneg_right (show (1 : Int) ≤ (y : Int) by omega) (show 0 ≤ z.getD xs.length 0 by omega)
        omega
      omega
theorem dS_len (M : List Nat → Bool) : ∀ f q v, dS M f q = some v → v.length = q.length + f
  | 0, q, v, h => by
    have : some q = some v := h
    injection this with this
    rw [this]; rfl
  | f + 1, q, v, h => by
    have key : ∀ r l, fsO (fun y => if M (q ++ [y]) then dS M f (q ++ [y]) else none) r l = some v → v.length = q.length + (f + 1) := by
      intro r
      induction r with
      | zero => intro l h; cases h
      | succ r ih =>
        intro l h
        unfold fsO at h
        split at h
        · rename_i u hu
          injection h with h
          subst h
          split at hu
          · have := dS_len M f _ _ hu
            rw [List.length_append, List.length_singleton] at this
            omega
          · cases hu
        · exact ih _ h
    exact key 11 1 h
theorem beN_snoc {q : List Nat} (h : ∀ x ∈ q, 1 ≤ x ∧ x ≤ 11) (h1 : 1 ≤ q.length) (h2 : q.length ≤ 12) : beN 11 (toI q) = true := by
  unfold beN
  rw [toI_len, decide_eq_true ⟨h1, h2⟩, Bool.true_and, List.all_eq_true]
  intro x hx
  unfold toI at hx
  obtain ⟨y, hy, rfl⟩ := List.mem_map.1 hx
  have := h y hy
  rw [decide_eq_true_eq]
  omega
/-- trying in order with a sum left over, and leaving out what costs too much: the same -/
theorem foS_tS {z : List Int} (hz : beN 100 z = true) (h12 : z.length ≤ 12) : ∀ (f : Nat) (q : List Nat), (∀ x ∈ q, 1 ≤ x ∧ x ≤ 11) → 1 ≤ q.length → q.length + f = z.length →
    foS z f (toI q) (ocI z - costI z (toI q)) = toI ((tS (mbB z (ocI z)) f q).getD [])
  | f, q, hq, h1, hl => by
    have hzp : ∀ k, k < z.length → 1 ≤ z.getD k 0 := fun k hk => by
      have := all_at (beN_parts hz).2 k hk
      rw [List.getD_eq_getElem?_getD, List.getElem?_eq_getElem hk]
      exact this.1
    by_cases hM : mbB z (ocI z) q = true
    · rw [tS_yes hM]
      unfold mbB at hM
      rw [Bool.and_eq_true, decide_eq_true_eq] at hM
      obtain ⟨hc, ho⟩ := hM
      have hrest : 0 ≤ (z.drop q.length).sum := by
        have key : ∀ (l : List Int), (∀ x ∈ l, 0 ≤ x) → 0 ≤ l.sum := by
          intro l
          induction l with
          | nil => intro _; exact Int.le_refl 0
          | cons a l ih =>
            intro h
            rw [List.sum_cons]
            have := h a List.mem_cons_self
            have := ih (fun x hx => h x (List.mem_cons_of_mem _ hx))
            omega
        refine key _ (fun x hx => ?_)
        obtain ⟨i, hi, rfl⟩ := List.getElem_of_mem (List.mem_of_mem_drop hx)
        have := all_at (beN_parts hz).2 i hi
        omega
      have hb : foBad (toI q) (ocI z - costI z (toI q)) = false := by
        unfold foBad
        rw [decide_eq_false (by omega), ho]
        simp
      cases f with
      | zero =>
        rw [foS_end hb]
        have hle := ol_least hz (beN_snoc hq h1 (by omega)) (by rw [toI_len]; omega) ho
        rw [if_pos (by omega)]
        rfl
      | succ f =>
        rw [foS_go hb]
        have hd : dS (mbB z (ocI z)) (f + 1) q = fsO (fun y => tS (mbB z (ocI z)) f (q ++ [y])) 11 1 := rfl
        rw [hd]
        refine fst_eq _ _ (fun y hy1 hy2 => ⟨?_, fun v hv => ?_⟩)
        · have hk : (toI q).length < z.length := by rw [toI_len]; omega
          have hcs := costI_snoc z (toI q) (y : Int) hk
          rw [← toI_snoc] at hcs ⊢
          have hg : z.getD (toI q).length 0 = z[(toI q).length] := by rw [List.getD_eq_getElem?_getD, List.getElem?_eq_getElem hk]; rfl
          have e : ocI z - costI z (toI q) - (y : Int) * z.getD (toI q).length 0 = ocI z - costI z (toI (q ++ [y])) := by
            rw [hcs, hg, Int.mul_comm]
            omega
          rw [e]
          exact foS_tS hz h12 f (q ++ [y]) (fun x hx => by
            rcases List.mem_append.1 hx with hx | hx
            · exact hq x hx
            · rw [List.mem_singleton] at hx
              subst hx
              omega) (by rw [List.length_append, List.length_singleton]; omega) (by rw [List.length_append, List.length_singleton]; omega)
        · unfold tS at hv
          split at hv
          · have := dS_len _ _ _ _ hv
            rw [List.length_append, List.length_singleton] at this
            omega
          · cases hv
    · have hM2 : mbB z (ocI z) q = false := by simpa using hM
      have ht : tS (mbB z (ocI z)) f q = none := by unfold tS; rw [hM2]; rfl
      rw [ht]
      unfold mbB at hM2
      rw [Bool.and_eq_false_iff, decide_eq_false_iff_not] at hM2
      rcases hM2 with hc | ho
      · exact foS_dear hzp f _ _ (by rw [toI_len]; omega) (by rw [toI_len]; omega)
      · refine foS_bad ?_ f
        unfold foBad
        rw [ho, decide_eq_true (show 0 < (toI q).length by rw [toI_len]; omega)]
        simp
theorem foS_dS {z : List Int} (hz : beN 100 z = true) (h12 : z.length ≤ 12) (h0 : 0 ≤ ocI z) : foS z z.length [] (ocI z) = toI ((dS (mbB z (ocI z)) z.length []).getD []) := by
  obtain ⟨m, hm⟩ : ∃ m, z.length = m + 1 := ⟨z.length - 1, by have := (beN_parts hz).1.1; omega⟩
  rw [hm]
  have hb : foBad [] (ocI z) = false := by unfold foBad; rw [decide_eq_false (by omega)]; rfl
  rw [foS_go hb]
  have hd : dS (mbB z (ocI z)) (m + 1) [] = fsO (fun y => tS (mbB z (ocI z)) m ([] ++ [y])) 11 1 := rfl
  rw [hd]
  refine fst_eq _ _ (fun y hy1 hy2 => ⟨?_, fun v hv => ?_⟩)
  · have hcs := costI_snoc z [] (y : Int) (show ([] : List Int).length < z.length by rw [hm]; exact Nat.succ_pos m)
    have hg : z.getD ([] : List Int).length 0 = z[([] : List Int).length]'(by rw [hm]; exact Nat.succ_pos m) := by rw [List.getD_eq_getElem?_getD, List.getElem?_eq_getElem (by rw [hm]; exact Nat.succ_pos m)]; rfl
    have e : ocI z - (y : Int) * z.getD ([] : List Int).length 0 = ocI z - costI z (toI [y]) := by
      show _ = ocI z - costI z ([] ++ [(y : Int)])
      rw [hcs, costI_nil, hg, Int.mul_comm]
      omega
    rw [e]
    exact foS_tS hz h12 m [y] (fun x hx => by
      rw [List.mem_singleton] at hx
      subst hx
      omega) (Nat.le_refl _) (by rw [hm]; show 1 + m = m + 1; omega)
  · unfold tS at hv
    split at hv
    · have := dS_len _ _ _ _ hv
      have e : ([] ++ [y] : List Nat).length = 1 := rfl
      omega
    · cases hv
end Go.Proofs.Ythkkneboblhmlaa.W
