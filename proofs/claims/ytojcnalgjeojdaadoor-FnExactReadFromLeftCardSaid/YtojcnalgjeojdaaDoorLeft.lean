/-
  WHAT THIS FILE PROVES: plain facts on reading a word from the left by words of a prefix set; no program in sight.
-/
import Derived.Test.YtojcnalgjeojdaaDoorIdx
import Derived.Test.YtojcnalgjeojdaaDoorPart
import Derived.Test.YtojcnalgjeojdaaDoorMemI
namespace Go.Proofs.YtojcnalgjeojdaaDoor
open Go.RowKit

/-- the index of the word with which a text begins, or a negative number -/
def beg (ss : List ByteArray) (s : ByteArray) : Int := firstAt (fun t => bgs t s) ss
/-- one word is read, if there is one -/
def lfNext (ss : List ByteArray) (p : List Int × ByteArray) : List Int × ByteArray :=
  if beg ss p.2 < 0 then p else (p.1 ++ [beg ss p.2], p.2.extract (W.nth ss (beg ss p.2).toNat).size p.2.size)
/-- so many words are read -/
def lfs (ss : List ByteArray) (s : ByteArray) : Nat → List Int × ByteArray
  | 0 => ([], s)
  | k + 1 => lfNext ss (lfs ss s k)
theorem beg_cases (ss : List ByteArray) (s : ByteArray) : beg ss s = -1 ∨ ∃ i : Nat, beg ss s = i ∧ i < ss.length ∧ bgs (W.nth ss i) s = true := by
  unfold beg firstAt
  cases h : ss.findIdx? (fun t => bgs t s) with
  | none => exact .inl rfl
  | some i =>
    rw [List.findIdx?_eq_some_iff_getElem] at h
    obtain ⟨hi, hp, _⟩ := h
    exact .inr ⟨i, rfl, hi, by rw [W.nth_lt ss i hi]; exact hp⟩
theorem beg_none {ss : List ByteArray} {s : ByteArray} (h : ∀ j, j < ss.length → bgs (W.nth ss j) s = false) : beg ss s = -1 := firstAt_none _ ss h
/-- of a prefix set just one word begins a text -/
theorem beg_one {ss : List ByteArray} (hq : W.isSet ss = true) (hp : pfxB ss = true) {s : ByteArray} {i : Nat} (hi : i < ss.length) (h : bgs (W.nth ss i) s = true) : beg ss s = i := by
  refine firstAt_hit _ ss i hi (fun j hj => ?_) h
  cases hb : bgs (W.nth ss j) s with
  | false => rfl
  | true =>
    exfalso
    have hj2 : j < ss.length := by omega
    have m1 : W.nth ss i ∈ ss := by rw [W.nth_lt ss i hi]; exact List.getElem_mem hi
    have m2 : W.nth ss j ∈ ss := by rw [W.nth_lt ss j hj2]; exact List.getElem_mem hj2
    have p1 : (W.nth ss i).data.toList <+: s.data.toList := List.isPrefixOf_iff_prefix.1 h
    have p2 : (W.nth ss j).data.toList <+: s.data.toList := List.isPrefixOf_iff_prefix.1 hb
    have hle := (set_size_le hq hj hi).1
    have p3 : (W.nth ss j).data.toList <+: (W.nth ss i).data.toList := List.prefix_of_prefix_length_le p2 p1 (by rw [← Lib.size_eq, ← Lib.size_eq]; exact hle)
    have h3 : bgs (W.nth ss j) (W.nth ss i) = true := List.isPrefixOf_iff_prefix.2 p3
    have h4 := (pfxB_iff ss).1 hp _ m2 _ m1
    have h5 : ¬ (W.nth ss j).size < (W.nth ss i).size := fun e => h4 ⟨h3, e⟩
    exact (set_size_le hq hj hi).2 (bgs_same h3 (by omega))
theorem lfs_stop {ss : List ByteArray} {s : ByteArray} {k : Nat} (h : beg ss (lfs ss s k).2 < 0) : ∀ n, lfs ss s (k + n) = lfs ss s k
  | 0 => rfl
  | n + 1 => by
    show lfNext ss (lfs ss s (k + n)) = _
    rw [lfs_stop h n]
    unfold lfNext
    rw [if_pos h]
/-- what is read, of a prefix set and a word -/
def rlAsk (ss : List ByteArray) (s : ByteArray) : Bool := W.isSet ss && (pfxB ss && W.good s.data.toList)
def rlOf (ss : List ByteArray) (s : ByteArray) : List Int := if rlAsk ss s then (lfs ss s s.size).1 else []
def rlTx (ss : List ByteArray) (s : ByteArray) : ByteArray := if rlAsk ss s then (lfs ss s s.size).2 else ⟨#[]⟩
theorem rl_no {ss : List ByteArray} {s : ByteArray} (h : rlAsk ss s = false) : rlOf ss s = [] ∧ rlTx ss s = ⟨#[]⟩ := by unfold rlOf rlTx; rw [h]; exact ⟨rfl, rfl⟩
theorem rl_yes {ss : List ByteArray} {s : ByteArray} (h : rlAsk ss s = true) : rlOf ss s = (lfs ss s s.size).1 ∧ rlTx ss s = (lfs ss s s.size).2 := by unfold rlOf rlTx; rw [h]; exact ⟨rfl, rfl⟩
theorem lfs_len (ss : List ByteArray) (s : ByteArray) : ∀ k, (lfs ss s k).1.length ≤ k
  | 0 => Nat.le_refl _
  | k + 1 => by
    have := lfs_len ss s k
    show (lfNext ss (lfs ss s k)).1.length ≤ _
    unfold lfNext
    split
    · omega
    · rw [List.length_append]
      simp
      omega
theorem rlOf_len (ss : List ByteArray) (s : ByteArray) : (rlOf ss s).length ≤ 1048576 := by
  cases h : rlAsk ss s
  · rw [(rl_no h).1]; simp
  · rw [(rl_yes h).1]
    have h1 := lfs_len ss s s.size
    unfold rlAsk at h
    simp only [Bool.and_eq_true] at h
    have h2 := h.2.2
    unfold W.good at h2
    simp only [Bool.and_eq_true, decide_eq_true_eq] at h2
    have h3 := h2.1
    rw [← Lib.size_eq] at h3
    omega
/-- a state of the search: k words are read, acc are their indices, left is what is left -/
structure LfAt (ss : List ByteArray) (s : ByteArray) (k : Nat) (acc : List Int) (left : ByteArray) : Prop where
  st : lfs ss s k = (acc, left)
  sz : k + left.size ≤ s.size
  len : acc.length = k
theorem lfAt_zero (ss : List ByteArray) (s : ByteArray) : LfAt ss s 0 [] s := ⟨rfl, by omega, rfl⟩
theorem LfAt.next {ss : List ByteArray} {s : ByteArray} {k : Nat} {acc : List Int} {left : ByteArray} (h : LfAt ss s k acc left) (hq : W.isSet ss = true) {i : Nat} (hi : beg ss left = i) (hlt : i < ss.length) (hb : bgs (W.nth ss i) left = true) :
    LfAt ss s (k + 1) (acc ++ [(i : Int)]) (left.extract (W.nth ss i).size left.size) := by
  have h1 := (W.short_size _ (W.isSet_short ss hq i hlt)).1
  have h2 := bgs_size hb
  have h3 := h.sz
  refine ⟨?_, ?_, by rw [List.length_append, h.len]; rfl⟩
  · show lfNext ss (lfs ss s k) = _
    rw [h.st]
    unfold lfNext
    show (if beg ss left < 0 then _ else _) = _
    rw [hi, if_neg (by omega)]
    rfl
  · rw [ByteArray.size_extract]
    omega
theorem LfAt.done {ss : List ByteArray} {s : ByteArray} {k : Nat} {acc : List Int} {left : ByteArray} (h : LfAt ss s k acc left) (hn : beg ss left = -1) : lfs ss s s.size = (acc, left) := by
  have h1 := lfs_stop (k := k) (ss := ss) (s := s) (by rw [h.st]; show beg ss left < 0; omega) (s.size - k)
  have h3 := h.sz
  rw [show k + (s.size - k) = s.size by omega] at h1
  rw [h1, h.st]

/-- the call hands back a slice of its own that reads as xs, a text, and whether it is told; nothing that was there has turned -/
def OkIntsT (w0 : World) (xs : List Int) (t : ByteArray) (ok : Bool) (e : Ending) (w' : World) : Prop :=
  ∃ A c, e = .returned (.tuple #[.slice A xs.length c, .string t, .bool ok]) ∧ w'.ownsRow w0.heap.size 3 1 (.slice A xs.length c) xs.length (ints xs) ∧ Below w0.heap.size w0 w'
theorem okIntsT_nil (w0 w' : World) (hB : Below w0.heap.size w0 w') (ok : Bool) : OkIntsT w0 [] ⟨#[]⟩ ok (.returned (.tuple #[.slice none 0 0, .string ⟨#[]⟩, .bool ok])) w' :=
  ⟨none, 0, rfl, World.ownsRow_nil _ _ _ _, hB⟩
theorem okIntsT_of {w0 w' : World} {xs : List Int} {t : ByteArray} {ok : Bool} {v : Value} {base : Nat} (ho : w'.ownsRow base 3 1 v xs.length (ints xs)) (hb : w0.heap.size = base) (hB : Below w0.heap.size w0 w') : OkIntsT w0 xs t ok (.returned (.tuple #[v, .string t, .bool ok])) w' := by
  subst hb
  obtain ⟨A, c, rfl⟩ := own_slice ho
  exact ⟨A, c, rfl, ho, hB⟩
/-- the size of a text -/
def sizeV : Value → Nat
  | .string s => s.size
  | _ => 0
end Go.Proofs.YtojcnalgjeojdaaDoor
