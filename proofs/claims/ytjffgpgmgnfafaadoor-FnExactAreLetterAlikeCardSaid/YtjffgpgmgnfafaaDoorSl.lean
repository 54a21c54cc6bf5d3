/-
  WHAT THIS FILE PROVES: plain facts on letters in order and on lists that hold the same, each as often; no program in sight.
-/
import Derived.Test.YtjffgpgmgnfafaaDoorLets
import Derived.Test.YtjffgpgmgnfafaaDoorSets
namespace Go.Proofs.YtjffgpgmgnfafaaDoor.W

/-- in order -/
def UpB (l : List UInt8) : Prop := l.Pairwise fun x y => x.toNat ≤ y.toNat
/-- the letters in order -/
def srt (l : List UInt8) : List UInt8 := l.mergeSort fun x y => decide (x.toNat ≤ y.toNat)
theorem srt_perm (l : List UInt8) : (srt l).Perm l := List.mergeSort_perm ..
theorem srt_up (l : List UInt8) : UpB (srt l) := by
  have h := List.pairwise_mergeSort (le := fun (x y : UInt8) => decide (x.toNat ≤ y.toNat)) (fun a b c h1 h2 => by
    rw [decide_eq_true_eq] at h1 h2 ⊢
    omega) (fun a b => by
    rw [Bool.or_eq_true, decide_eq_true_eq, decide_eq_true_eq]
    omega) l
  exact h.imp fun h => of_decide_eq_true h
theorem srt_uniq {l p : List UInt8} (hp : p.Perm l) (hu : UpB p) : p = srt l :=
  List.Perm.eq_of_pairwise (le := fun x y : UInt8 => x.toNat ≤ y.toNat) (fun _ _ _ _ h1 h2 => UInt8.toNat_inj.1 (Nat.le_antisymm h1 h2)) hu (srt_up l) (hp.trans (srt_perm l).symm)
theorem srt_eq {l m : List UInt8} : srt l = srt m ↔ l.Perm m := by
  constructor
  · intro h
    exact (srt_perm l).symm.trans (h ▸ srt_perm m)
  · intro h
    exact srt_uniq ((srt_perm l).trans h) (srt_up l)
/-- a letter put among letters in order -/
theorem ins_up {p : List UInt8} {x : UInt8} {j : Nat} (hp : UpB p) (h1 : ∀ y ∈ p.take j, y.toNat ≤ x.toNat) (h2 : ∀ y ∈ p.drop j, x.toNat ≤ y.toNat) : UpB (p.take j ++ x :: p.drop j) := by
  have h0 : UpB (p.take j ++ p.drop j) := by rw [List.take_append_drop]; exact hp
  unfold UpB at h0 ⊢
  rw [List.pairwise_append] at h0 ⊢
  refine ⟨h0.1, List.pairwise_cons.2 ⟨h2, h0.2.1⟩, fun a ha b hb => ?_⟩
  rcases List.mem_cons.1 hb with rfl | hb
  · exact h1 a ha
  · exact h0.2.2 a ha b hb
theorem up_before {p : List UInt8} {x : UInt8} {j : Nat} (hp : UpB p) (hj : j < p.length) (hx : p[j].toNat ≤ x.toNat) : ∀ y ∈ p.take (j + 1), y.toNat ≤ x.toNat := fun y hy => by
  obtain ⟨i, hi, rfl⟩ := List.getElem_of_mem hy
  rw [List.length_take] at hi
  rw [List.getElem_take]
  by_cases e : i = j
  · subst e; exact hx
  · have := List.pairwise_iff_getElem.1 hp i j (by omega) hj (by omega)
    omega
theorem ins_perm (p : List UInt8) (x : UInt8) (j : Nat) : (p.take j ++ x :: p.drop j).Perm (p ++ [x]) := by
  have h1 : (p.take j ++ x :: p.drop j).Perm (x :: (p.take j ++ p.drop j)) := List.perm_middle
  rw [List.take_append_drop] at h1
  exact h1.trans (List.perm_append_singleton x p).symm
/-- how the letters lie while one of them goes down -/
def mid (p : List UInt8) (x : UInt8) (j : Nat) (r : List UInt8) : List UInt8 := p.take j ++ (x :: p.drop j) ++ r
theorem mid_len (p : List UInt8) (x : UInt8) (j : Nat) (r : List UInt8) : (mid p x j r).length = p.length + 1 + r.length := by
  unfold mid
  rw [List.length_append, List.length_append, List.length_cons, List.length_take, List.length_drop]
  omega
theorem mid_at (p : List UInt8) (x : UInt8) (j : Nat) (r : List UInt8) (h : j ≤ p.length) : (mid p x j r)[j]? = some x := by
  unfold mid
  have hl : (p.take j).length = j := by rw [List.length_take]; omega
  rw [List.append_assoc, List.getElem?_append_right (by omega), hl, Nat.sub_self]
  rfl
theorem mid_split (p : List UInt8) (x : UInt8) (j : Nat) (r : List UInt8) (h : j < p.length) : mid p x (j + 1) r = p.take j ++ (p[j] :: x :: (p.drop (j + 1) ++ r)) := by
  unfold mid
  rw [List.take_succ_eq_append_getElem h, List.append_assoc, List.append_assoc]
  rfl
theorem mid_before (p : List UInt8) (x : UInt8) (j : Nat) (r : List UInt8) (h : j < p.length) : (mid p x (j + 1) r)[j]? = some p[j] := by
  have hl : (p.take j).length = j := by rw [List.length_take]; omega
  rw [mid_split p x j r h, List.getElem?_append_right (by omega), hl, Nat.sub_self]
  rfl
theorem mid_step (p : List UInt8) (x : UInt8) (j : Nat) (r : List UInt8) (h : j < p.length) : ((mid p x (j + 1) r).set (j + 1) p[j]).set j x = mid p x j r := by
  have hl : (p.take j).length = j := by rw [List.length_take]; omega
  rw [mid_split p x j r h, List.set_append_right _ _ (by omega), hl, List.set_append_right _ _ (by omega), hl]
  have e1 : j + 1 - j = 1 := by omega
  rw [e1, Nat.sub_self]
  show p.take j ++ (x :: p[j] :: (p.drop (j + 1) ++ r)) = _
  unfold mid
  rw [List.drop_eq_getElem_cons h, List.append_assoc]
  rfl
theorem mid_all (p : List UInt8) (x : UInt8) (r : List UInt8) : mid p x p.length r = p ++ x :: r := by
  unfold mid
  rw [List.take_length, List.drop_length]
  simp

/-- two lists hold the same, each as often, if they are as long and the one's members stand as often in both -/
theorem perm_of_counts {α : Type} [BEq α] [LawfulBEq α] : ∀ (A B : List α), A.length = B.length → (∀ x ∈ A, A.count x ≤ B.count x) → A.Perm B
  | [], B, h, _ => by rw [List.length_nil] at h; rw [List.eq_nil_of_length_eq_zero h.symm]
  | a :: A, B, h, hc => by
    have ha : a ∈ B := by
      have h1 := hc a List.mem_cons_self
      rw [List.count_cons_self] at h1
      exact List.count_pos_iff.1 (by omega)
    have hl : (B.erase a).length + 1 = B.length := by
      have := List.length_erase_of_mem ha
      have := List.length_pos_of_mem ha
      omega
    have ih := perm_of_counts A (B.erase a) (by rw [List.length_cons] at h; omega) (fun x hx => by
      have h1 := hc x (List.mem_cons_of_mem _ hx)
      by_cases e : x = a
      · subst e
        rw [List.count_cons_self] at h1
        rw [List.count_erase_self]
        omega
      · rw [List.count_cons_of_ne (fun e' => e e'.symm)] at h1
        rw [List.count_erase_of_ne e]
        exact h1)
    exact (ih.cons a).trans (List.perm_cons_erase ha).symm
theorem counts_of_perm {α : Type} [BEq α] [LawfulBEq α] {A B : List α} (h : A.Perm B) (x : α) : A.count x = B.count x := h.count_eq x
end Go.Proofs.YtjffgpgmgnfafaaDoor.W
