/-
  WHAT THIS FILE PROVES: the bounds of a number that an argument may be.
-/
import Derived.Test.YthkkneboblhmlaaProg
import Derived.WalkKit
import Derived.OpenShut
namespace Go.Proofs.Ythkkneboblhmlaa

theorem int_bounds {n : Int} (h : (Lit.int .i64 n).wf = true) : -9223372036854775808 ≤ n ∧ n ≤ 9223372036854775807 := by
  simp only [Lit.wf, Bool.and_eq_true, decide_eq_true_eq] at h
  have h1 : IntKind.min .i64 = -9223372036854775808 := by decide
  have h2 : IntKind.max .i64 = 9223372036854775807 := by decide
  omega

end Go.Proofs.Ythkkneboblhmlaa
