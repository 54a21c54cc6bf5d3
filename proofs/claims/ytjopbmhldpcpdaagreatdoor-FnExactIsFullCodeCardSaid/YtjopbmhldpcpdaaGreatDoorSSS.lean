/-
  WHAT THIS FILE PROVES: what the checks' own functions over slices of slices of strs do: equal ones are told equal, mts are laid and found again; asked: rows that lie in memory, lengths that an int holds.
-/
import Derived.Test.YtjopbmhldpcpdaaGreatDoorMemS
import Derived.Test.YtjopbmhldpcpdaaGreatDoorSSMem
import Derived.Deep.RegionHeld3
namespace Go.Proofs.YtjopbmhldpcpdaaGreatDoor
open Go.RowKit

def strss (xss : List (List ByteArray)) : List (List Value) := xss.map strs
theorem strss_length (xss : List (List ByteArray)) : (strss xss).length = xss.length := by simp [strss]
theorem strss_at (xss : List (List ByteArray)) (k : Nat) (h : k < xss.length) : (strss xss)[k]? = some (strs xss[k]) := by
  unfold strss
  rw [List.getElem?_map, List.getElem?_eq_getElem h]
  rfl
theorem strss_snoc (xss : List (List ByteArray)) (xs : List ByteArray) : strss (xss ++ [xs]) = strss xss ++ [strs xs] := by simp [strss]
theorem strss_set (xss : List (List ByteArray)) (j : Nat) (xs : List ByteArray) : (strss xss).set j (strs xs) = strss (xss.set j xs) := by
  unfold strss
  rw [List.map_set]

/-- how many elements the first j of them have -/
def offS (xss : List (List ByteArray)) (j : Nat) : Nat := ((xss.take j).map List.length).sum
theorem offS_zero (xss : List (List ByteArray)) : offS xss 0 = 0 := rfl
theorem offS_succ (xss : List (List ByteArray)) (j : Nat) (h : j < xss.length) : offS xss (j + 1) = offS xss j + (xss[j]).length := by
  unfold offS
  rw [List.take_succ_eq_append_getElem h, List.map_append, List.sum_append]
  simp
theorem offS_le (xss : List (List ByteArray)) : ∀ j, j ≤ xss.length → offS xss j ≤ offS xss xss.length := by
  intro j hj
  have e : offS xss xss.length = offS xss j + ((xss.drop j).map List.length).sum := by
    unfold offS
    rw [List.take_length, ← List.sum_append, ← List.map_append, List.take_append_drop]
  omega
/-- the mts that are laid: the same numbers of them, one after the other -/
def mtss (k : Int) (xss : List (List ByteArray)) : List (List ByteArray) := xss.zipIdx.map fun p => mts (k + (offS xss p.2 : Nat)) p.1.length
theorem mtss_length (k : Int) (xss : List (List ByteArray)) : (mtss k xss).length = xss.length := by simp [mtss]
theorem mtss_at (k : Int) (xss : List (List ByteArray)) (j : Nat) (h : j < xss.length) : (mtss k xss)[j]'(by rw [mtss_length]; exact h) = mts (k + (offS xss j : Nat)) (xss[j]).length := by simp [mtss]
/-- the first j of the one, then what is left of the other -/
def mixS (ys xs : List (List ByteArray)) (j : Nat) : List (List ByteArray) := ys.take j ++ xs.drop j
theorem mixS_length (ys xs : List (List ByteArray)) (j : Nat) (h : ys.length = xs.length) : (mixS ys xs j).length = xs.length := by
  unfold mixS
  rw [List.length_append, List.length_take, List.length_drop]
  omega
theorem mixS_zero (ys xs : List (List ByteArray)) : mixS ys xs 0 = xs := by simp [mixS]
theorem mixS_all (ys xs : List (List ByteArray)) (h : ys.length = xs.length) : mixS ys xs xs.length = ys := by
  unfold mixS
  rw [List.drop_length, List.append_nil, ← h, List.take_length]
theorem mixS_at (ys xs : List (List ByteArray)) (j : Nat) (h : ys.length = xs.length) (hj : j < xs.length) : (mixS ys xs j)[j]? = some xs[j] := by
  unfold mixS
  have hl : (ys.take j).length = j := by rw [List.length_take]; omega
  rw [List.getElem?_append_right (by omega), hl, Nat.sub_self, List.getElem?_drop, Nat.add_zero, List.getElem?_eq_getElem hj]
theorem mixS_set (ys xs : List (List ByteArray)) (j : Nat) (h : ys.length = xs.length) (hj : j < ys.length) : (mixS ys xs j).set j ys[j] = mixS ys xs (j + 1) := by
  unfold mixS
  have hl : (ys.take j).length = j := by rw [List.length_take]; omega
  rw [List.set_append_right _ _ (by rw [hl]; exact Nat.le_refl _), hl, Nat.sub_self, List.take_succ_eq_append_getElem hj, List.drop_eq_getElem_cons (show j < xs.length by omega), List.set_cons_zero, List.append_assoc]
  rfl

/-- the call hands back a slice of slices of its own that reads as xss, and whether it is told; nothing that was there has turned -/
def OkStrss (w0 : World) (xss : List (List ByteArray)) (ok : Bool) (e : Ending) (w' : World) : Prop :=
  ∃ A c, e = .returned (.tuple #[.slice A xss.length c, .bool ok]) ∧ OwnSS w' w0.heap.size 22 9 (.slice A xss.length c) (strss xss) ∧ Below w0.heap.size w0 w'
theorem okStrss_of {w0 w' : World} {xss : List (List ByteArray)} {ok : Bool} {e : Ending} (h : OkSS 22 9 w0 (strss xss) ok e w') : OkStrss w0 xss ok e w' := by
  obtain ⟨A, c, he, ho, hB⟩ := h
  rw [strss_length] at he ho
  exact ⟨A, c, he, ho, hB⟩
theorem offS_bd (xss : List (List ByteArray)) (b : Nat) (h : ∀ xs ∈ xss, xs.length ≤ b) : ∀ j, j ≤ xss.length → offS xss j ≤ j * b
  | 0, _ => Nat.zero_le _
  | j + 1, hj => by
    rw [offS_succ xss j (by omega), Nat.succ_mul]
    have h1 := offS_bd xss b h j (by omega)
    have h2 := h _ (List.getElem_mem (show j < xss.length by omega))
    omega

/-- nothing but draws -/
def DrawnS (w wr : World) : Prop := ∃ q, wr = w.drewN q
theorem drawnS_refl (w : World) : DrawnS w w := ⟨0, rfl⟩
theorem DrawnS.below {w wr : World} (h : DrawnS w wr) : Below w.heap.size w wr := by
  obtain ⟨q, rfl⟩ := h
  exact below_drewN (Below.refl _ _) _
theorem DrawnS.more {w wr : World} (h : DrawnS w wr) (n : Nat) : DrawnS w (wr.drewN n) := by
  obtain ⟨q, rfl⟩ := h
  exact ⟨q + n, by rw [World.drewN_drewN]⟩




end Go.Proofs.YtjopbmhldpcpdaaGreatDoor
