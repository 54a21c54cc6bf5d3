/-
  WHAT THIS FILE PROVES: what the checks' own functions over slices of texts do: their sizes are told, they are copied, equal ones are told equal, marks are laid and found again; asked: rows that lie in memory, lengths that an int holds.
-/
import Derived.Test.YthkkneboblhmlaaMem
import Derived.Deep.OwnRows
import Derived.Laws.IdiomStrings
import Derived.Deep.RegionHeld3
namespace Go.Proofs.Ythkkneboblhmlaa
open Go.RowKit

def strs (ss : List ByteArray) : List Value := ss.map Value.string
theorem strs_length (ss : List ByteArray) : (strs ss).length = ss.length := by simp [strs]
theorem strs_at (ss : List ByteArray) (k : Nat) (h : k < ss.length) : (strs ss)[k]? = some (.string ss[k]) := by
  unfold strs
  rw [List.getElem?_map, List.getElem?_eq_getElem h]
  rfl
theorem strs_set (ss : List ByteArray) (j : Nat) (x : ByteArray) : (strs ss).set j (.string x) = strs (ss.set j x) := by
  unfold strs
  rw [List.map_set]
/-- the first j of the one list, then what is left of the other -/
def mix {α : Type} (ys xs : List α) (j : Nat) : List α := ys.take j ++ xs.drop j
theorem mix_length {α : Type} (ys xs : List α) (j : Nat) (h : ys.length = xs.length) : (mix ys xs j).length = xs.length := by
  unfold mix
  rw [List.length_append, List.length_take, List.length_drop]
  omega
theorem mix_zero {α : Type} (ys xs : List α) : mix ys xs 0 = xs := by simp [mix]
theorem mix_all {α : Type} (ys xs : List α) (h : ys.length = xs.length) : mix ys xs ys.length = ys := by
  unfold mix
  rw [List.take_length, h, List.drop_length, List.append_nil]
theorem mix_set {α : Type} (ys xs : List α) (j : Nat) (h : ys.length = xs.length) (hj : j < ys.length) : (mix ys xs j).set j ys[j] = mix ys xs (j + 1) := by
  unfold mix
  have hl : (ys.take j).length = j := by rw [List.length_take]; omega
  rw [List.set_append_right _ _ (by rw [hl]; exact Nat.le_refl _), hl, Nat.sub_self, List.take_succ_eq_append_getElem hj, List.drop_eq_getElem_cons (show j < xs.length by omega), List.set_cons_zero, List.append_assoc]
  rfl

theorem infoStr : (Try.prog.info? 9).map (fun i => (i.zero, i.size, i.bytes)) = some (some (.string ByteArray.empty), 1, 16) := by kernel_rfl


/-- the call hands back a slice of its own that reads as ss; nothing that was there has turned -/
def GivesStrs (w0 : World) (ss : List ByteArray) (e : Ending) (w' : World) : Prop :=
  ∃ A c, e = .returned (.slice A ss.length c) ∧ w'.ownsRow w0.heap.size 9 1 (.slice A ss.length c) ss.length (strs ss) ∧ Below w0.heap.size w0 w'

/-- the digits of k ahead of o -/
def digs (k : Nat) (o : ByteArray) : ByteArray := if k = 0 then o else digs (k / 10) (⟨#[48 + UInt8.ofNat (k % 10)]⟩ ++ o)
termination_by k
decreasing_by omega
/-- the text of a mark -/
def mt (k : Int) : ByteArray := ⟨#[109]⟩ ++ digs k.toNat ByteArray.empty

/-- the texts of n marks from k on -/
def mts (k : Int) (n : Nat) : List ByteArray := (List.range n).map fun (i : Nat) => mt (k + (i : Int))
theorem mts_length (k : Int) (n : Nat) : (mts k n).length = n := by simp [mts]
theorem mts_at (k : Int) (n j : Nat) (h : j < n) : (mts k n)[j]'(by rw [mts_length]; exact h) = mt (k + j) := by simp [mts]


/-- the call hands back a slice of its own that reads as ss, and whether it is told; nothing that was there has turned -/
def OkStrs (w0 : World) (ss : List ByteArray) (ok : Bool) (e : Ending) (w' : World) : Prop :=
  ∃ A c, e = .returned (.tuple #[.slice A ss.length c, .bool ok]) ∧ w'.ownsRow w0.heap.size 9 1 (.slice A ss.length c) ss.length (strs ss) ∧ Below w0.heap.size w0 w'
theorem okStrs_of {w0 w' : World} {ss : List ByteArray} {ok : Bool} {v : Value} {base : Nat} (ho : w'.ownsRow base 9 1 v ss.length (strs ss)) (hb : w0.heap.size = base) (hB : Below w0.heap.size w0 w') : OkStrs w0 ss ok (.returned (.tuple #[v, .bool ok])) w' := by
  subst hb
  obtain ⟨A, c, rfl⟩ := own_slice ho
  exact ⟨A, c, rfl, ho, hB⟩
theorem okStrs_nil (w0 w' : World) (ok : Bool) (hB : Below w0.heap.size w0 w') : OkStrs w0 [] ok (.returned (.tuple #[.slice none 0 0, .bool ok])) w' :=
  ⟨none, 0, rfl, World.ownsRow_nil _ _ _ _, hB⟩
theorem givesStrs_of {w0 w' : World} {ss : List ByteArray} {v : Value} {base : Nat} (ho : w'.ownsRow base 9 1 v ss.length (strs ss)) (hb : w0.heap.size = base) (hB : Below w0.heap.size w0 w') : GivesStrs w0 ss (.returned v) w' := by
  subst hb
  obtain ⟨A, c, rfl⟩ := own_slice ho
  exact ⟨A, c, rfl, ho, hB⟩
theorem strs_snoc (ss : List ByteArray) (x : ByteArray) : strs (ss ++ [x]) = strs ss ++ [.string x] := by simp [strs]
theorem one_text (x : ByteArray) : ∀ u ∈ [Value.string x], u.oneCell' = true := fun u hu => by
  simp only [List.mem_cons, List.mem_nil_iff, or_false] at hu
  subst hu
  rfl

end Go.Proofs.Ythkkneboblhmlaa
