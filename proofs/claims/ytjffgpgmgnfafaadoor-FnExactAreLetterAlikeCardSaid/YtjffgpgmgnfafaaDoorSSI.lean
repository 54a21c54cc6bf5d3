/-
  WHAT THIS FILE PROVES: what the checks' own functions over slices of slices of ints do: equal ones are told equal, marks are laid and found again; asked: rows that lie in memory, lengths that an int holds.
-/
import Derived.Test.YtjffgpgmgnfafaaDoorMemI
import Derived.Test.YtjffgpgmgnfafaaDoorSSMem
import Derived.Deep.RegionHeld3
namespace Go.Proofs.YtjffgpgmgnfafaaDoor
open Go.RowKit

def intss (xss : List (List Int)) : List (List Value) := xss.map ints
theorem intss_length (xss : List (List Int)) : (intss xss).length = xss.length := by simp [intss]
theorem intss_at (xss : List (List Int)) (k : Nat) (h : k < xss.length) : (intss xss)[k]? = some (ints xss[k]) := by
  unfold intss
  rw [List.getElem?_map, List.getElem?_eq_getElem h]
  rfl
theorem intss_snoc (xss : List (List Int)) (xs : List Int) : intss (xss ++ [xs]) = intss xss ++ [ints xs] := by simp [intss]
theorem intss_set (xss : List (List Int)) (j : Nat) (xs : List Int) : (intss xss).set j (ints xs) = intss (xss.set j xs) := by
  unfold intss
  rw [List.map_set]

/-- how many elements the first j of them have -/
def offI (xss : List (List Int)) (j : Nat) : Nat := ((xss.take j).map List.length).sum
theorem offI_zero (xss : List (List Int)) : offI xss 0 = 0 := rfl
theorem offI_succ (xss : List (List Int)) (j : Nat) (h : j < xss.length) : offI xss (j + 1) = offI xss j + (xss[j]).length := by
  unfold offI
  rw [List.take_succ_eq_append_getElem h, List.map_append, List.sum_append]
  simp
theorem offI_le (xss : List (List Int)) : ∀ j, j ≤ xss.length → offI xss j ≤ offI xss xss.length := by
  intro j hj
  have e : offI xss xss.length = offI xss j + ((xss.drop j).map List.length).sum := by
    unfold offI
    rw [List.take_length, ← List.sum_append, ← List.map_append, List.take_append_drop]
  omega
/-- the marks that are laid: the same numbers of them, one after the other -/
def markss (k : Int) (xss : List (List Int)) : List (List Int) := xss.zipIdx.map fun p => marks (k + (offI xss p.2 : Nat)) p.1.length
theorem markss_length (k : Int) (xss : List (List Int)) : (markss k xss).length = xss.length := by simp [markss]
theorem markss_at (k : Int) (xss : List (List Int)) (j : Nat) (h : j < xss.length) : (markss k xss)[j]'(by rw [markss_length]; exact h) = marks (k + (offI xss j : Nat)) (xss[j]).length := by simp [markss]
/-- the first j of the one, then what is left of the other -/
def mixI (ys xs : List (List Int)) (j : Nat) : List (List Int) := ys.take j ++ xs.drop j
theorem mixI_length (ys xs : List (List Int)) (j : Nat) (h : ys.length = xs.length) : (mixI ys xs j).length = xs.length := by
  unfold mixI
  rw [List.length_append, List.length_take, List.length_drop]
  omega
theorem mixI_zero (ys xs : List (List Int)) : mixI ys xs 0 = xs := by simp [mixI]
theorem mixI_all (ys xs : List (List Int)) (h : ys.length = xs.length) : mixI ys xs xs.length = ys := by
  unfold mixI
  rw [List.drop_length, List.append_nil, ← h, List.take_length]
theorem mixI_at (ys xs : List (List Int)) (j : Nat) (h : ys.length = xs.length) (hj : j < xs.length) : (mixI ys xs j)[j]? = some xs[j] := by
  unfold mixI
  have hl : (ys.take j).length = j := by rw [List.length_take]; omega
  rw [List.getElem?_append_right (by omega), hl, Nat.sub_self, List.getElem?_drop, Nat.add_zero, List.getElem?_eq_getElem hj]
theorem mixI_set (ys xs : List (List Int)) (j : Nat) (h : ys.length = xs.length) (hj : j < ys.length) : (mixI ys xs j).set j ys[j] = mixI ys xs (j + 1) := by
  unfold mixI
  have hl : (ys.take j).length = j := by rw [List.length_take]; omega
  rw [List.set_append_right _ _ (by rw [hl]; exact Nat.le_refl _), hl, Nat.sub_self, List.take_succ_eq_append_getElem hj, List.drop_eq_getElem_cons (show j < xs.length by omega), List.set_cons_zero, List.append_assoc]
  rfl

/-- the call hands back a slice of slices of its own that reads as xss, and whether it is told; nothing that was there has turned -/
def OkIntss (w0 : World) (xss : List (List Int)) (ok : Bool) (e : Ending) (w' : World) : Prop :=
  ∃ A c, e = .returned (.tuple #[.slice A xss.length c, .bool ok]) ∧ OwnSS w' w0.heap.size 28 3 (.slice A xss.length c) (intss xss) ∧ Below w0.heap.size w0 w'
theorem okIntss_of {w0 w' : World} {xss : List (List Int)} {ok : Bool} {e : Ending} (h : OkSS 28 3 w0 (intss xss) ok e w') : OkIntss w0 xss ok e w' := by
  obtain ⟨A, c, he, ho, hB⟩ := h
  rw [intss_length] at he ho
  exact ⟨A, c, he, ho, hB⟩
theorem offI_bd (xss : List (List Int)) (b : Nat) (h : ∀ xs ∈ xss, xs.length ≤ b) : ∀ j, j ≤ xss.length → offI xss j ≤ j * b
  | 0, _ => Nat.zero_le _
  | j + 1, hj => by
    rw [offI_succ xss j (by omega), Nat.succ_mul]
    have h1 := offI_bd xss b h j (by omega)
    have h2 := h _ (List.getElem_mem (show j < xss.length by omega))
    omega

/-- nothing but draws -/
def Drawn (w wr : World) : Prop := ∃ q, wr = w.drewN q
theorem drawn_refl (w : World) : Drawn w w := ⟨0, rfl⟩
theorem Drawn.below {w wr : World} (h : Drawn w wr) : Below w.heap.size w wr := by
  obtain ⟨q, rfl⟩ := h
  exact below_drewN (Below.refl _ _) _
theorem Drawn.more {w wr : World} (h : Drawn w wr) (n : Nat) : Drawn w (wr.drewN n) := by
  obtain ⟨q, rfl⟩ := h
  exact ⟨q + n, by rw [World.drewN_drewN]⟩




end Go.Proofs.YtjffgpgmgnfafaaDoor
