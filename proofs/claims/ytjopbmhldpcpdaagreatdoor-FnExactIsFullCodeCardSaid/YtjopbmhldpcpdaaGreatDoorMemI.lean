/-
  WHAT THIS FILE PROVES: what the checks' own functions over slices of ints do: equal ones are told equal, marks are laid and found again; asked: rows that lie in memory, lengths that an int holds.
-/
import Derived.Test.YtjopbmhldpcpdaaGreatDoorMem
namespace Go.Proofs.YtjopbmhldpcpdaaGreatDoor
open Go.RowKit

def ints (xs : List Int) : List Value := xs.map (Value.int .i64)
theorem ints_length (xs : List Int) : (ints xs).length = xs.length := by simp [ints]
theorem ints_at (xs : List Int) (k : Nat) (h : k < xs.length) : (ints xs)[k]? = some (.int .i64 xs[k]) := by
  unfold ints
  rw [List.getElem?_map, List.getElem?_eq_getElem h]
  rfl


/-- the marks k, k + 1, .. -/
def marks (k : Int) (n : Nat) : List Int := (List.range n).map fun (i : Nat) => k + (i : Int)
theorem marks_length (k : Int) (n : Nat) : (marks k n).length = n := by simp [marks]
theorem marks_at (k : Int) (n j : Nat) (h : j < n) : (marks k n)[j]'(by rw [marks_length]; exact h) = k + j := by simp [marks]
theorem marks_succ (k : Int) (j : Nat) : marks k (j + 1) = marks k j ++ [k + (j : Int)] := by simp [marks, List.range_succ]
theorem marks_set (k : Int) (xs : List Int) (j : Nat) (h : j < xs.length) : (marks k j ++ xs.drop j).set j (k + j) = marks k (j + 1) ++ xs.drop (j + 1) := by
  rw [List.set_append_right _ _ (by rw [marks_length]; exact Nat.le_refl _), marks_length, Nat.sub_self, marks_succ, List.drop_eq_getElem_cons h, List.set_cons_zero, List.append_assoc]
  rfl
theorem ints_set (xs : List Int) (j : Nat) (x : Int) : (ints xs).set j (.int .i64 x) = ints (xs.set j x) := by
  unfold ints
  rw [List.map_set]
theorem marked_length (k : Int) (xs : List Int) (j : Nat) (h : j ≤ xs.length) : (marks k j ++ xs.drop j).length = xs.length := by
  rw [List.length_append, marks_length, List.length_drop]
  omega



theorem marks_own {w : World} {base e c : Nat} {A : Option Addr} {n : Nat} {k : Int} (h : w.ownsRow base e 1 (.slice A n c) n (ints (marks k n))) : w.ownsRow base e 1 (.slice A n c) n (ints (marks k n)) := h
/-- the call hands back a slice of its own that reads as xs, and whether it is told; nothing that was there has turned -/
def OkInts (w0 : World) (xs : List Int) (ok : Bool) (e : Ending) (w' : World) : Prop :=
  ∃ A c, e = .returned (.tuple #[.slice A xs.length c, .bool ok]) ∧ w'.ownsRow w0.heap.size 3 1 (.slice A xs.length c) xs.length (ints xs) ∧ Below w0.heap.size w0 w'

theorem okInts_of {w0 w' : World} {xs : List Int} {ok : Bool} {v : Value} {base : Nat} (ho : w'.ownsRow base 3 1 v xs.length (ints xs)) (hb : w0.heap.size = base) (hB : Below w0.heap.size w0 w') : OkInts w0 xs ok (.returned (.tuple #[v, .bool ok])) w' := by
  subst hb
  obtain ⟨A, c, rfl⟩ := own_slice ho
  exact ⟨A, c, rfl, ho, hB⟩
theorem okInts_nil (w0 w' : World) (ok : Bool) (hB : Below w0.heap.size w0 w') : OkInts w0 [] ok (.returned (.tuple #[.slice none 0 0, .bool ok])) w' :=
  ⟨none, 0, rfl, World.ownsRow_nil _ _ _ _, hB⟩

/-- the call hands back a slice of its own that reads as xs; nothing that was there has turned -/
def GivesInts (w0 : World) (xs : List Int) (e : Ending) (w' : World) : Prop :=
  ∃ A c, e = .returned (.slice A xs.length c) ∧ w'.ownsRow w0.heap.size 3 1 (.slice A xs.length c) xs.length (ints xs) ∧ Below w0.heap.size w0 w'
theorem givesInts_of {w0 w' : World} {xs : List Int} {v : Value} {base : Nat} (ho : w'.ownsRow base 3 1 v xs.length (ints xs)) (hb : w0.heap.size = base) (hB : Below w0.heap.size w0 w') : GivesInts w0 xs (.returned v) w' := by
  subst hb
  obtain ⟨A, c, rfl⟩ := own_slice ho
  exact ⟨A, c, rfl, ho, hB⟩
theorem ints_snoc (xs : List Int) (x : Int) : ints (xs ++ [x]) = ints xs ++ [.int .i64 x] := by simp [ints]
theorem one_cell (x : Int) : ∀ u ∈ [Value.int .i64 x], u.oneCell' = true := fun u hu => by
  simp only [List.mem_cons, List.mem_nil_iff, or_false] at hu
  subst hu
  rfl

theorem infoInt : (Tryz.prog.info? 3).map (fun i => (i.zero, i.size, i.bytes)) = some (some (.int .i64 0), 1, 8) := by kernel_rfl

end Go.Proofs.YtjopbmhldpcpdaaGreatDoor
