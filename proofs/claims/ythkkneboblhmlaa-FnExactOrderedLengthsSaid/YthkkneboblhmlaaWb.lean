/-
  WHAT THIS FILE PROVES: the word whose letters are the digits of a number of parts: the program's function gives the plain one; asked: numbers that an int holds.
-/
import Derived.Test.YthkkneboblhmlaaArith
import Derived.Test.YthkkneboblhmlaaKrT
import Derived.Test.YthkkneboblhmlaaShelf
import Derived.Test.YthkkneboblhmlaaAppend
import Derived.OwnWalk
import Derived.BigQuiet
import Derived.Maps.AppendAt
import Derived.Lib.AtoiErrMem
import Derived.Laws.IdiomStrings
namespace Go.Proofs.Ythkkneboblhmlaa
open Go.RowKit Go.Shelf

/-- a digit of what has been taken is one of the number -/
theorem digit_eqD (L T : Nat) (l : Int) (k : Nat) (h1 : 1 ≤ l) (h8 : l ≤ 11) (hk : k < l.toNat) : T / W.partD L ((k : Int) + 1) % L = (T / W.partD L l) / L ^ (l.toNat - 1 - k) % L := by
  unfold W.partD
  rw [Nat.div_div_eq_div_mul, ← Nat.pow_add]
  congr 3
  omega
/-- bytes as cells -/
def bys (l : List UInt8) : List Value := l.map fun b => .int .u8 (b.toNat : Int)
theorem bys_snoc (l : List UInt8) (b : UInt8) : bys (l ++ [b]) = bys l ++ [.int .u8 (b.toNat : Int)] := by simp [bys]
theorem one_byte (x : Int) : ∀ u ∈ [Value.int .u8 x], u.oneCell' = true := fun u hu => by
  simp only [List.mem_cons, List.mem_nil_iff, or_false] at hu
  subst hu
  rfl
end Go.Proofs.Ythkkneboblhmlaa
