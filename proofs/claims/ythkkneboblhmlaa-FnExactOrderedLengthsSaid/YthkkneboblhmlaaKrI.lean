/-
  WHAT THIS FILE PROVES: the program's tests of lengths: they give what the plain ones say; asked: slices in memory, lengths that an int holds.
-/
import Derived.Test.YthkkneboblhmlaaArith
import Derived.Test.YthkkneboblhmlaaIn
import Derived.Test.YthkkneboblhmlaaShelf
import Derived.OwnWalk
namespace Go.Proofs.Ythkkneboblhmlaa
open Go.RowKit Go.Shelf

theorem impl_areLetters (L : Int) (w : World) :
    Calls Try.prog 24 #[.int .i64 L] w fun e w' => e = .returned (.bool (W.krLet L)) ∧ w = w' := by
  unfold W.krLet
  by_cases h1 : 2 ≤ L
  · by_cases h2 : L ≤ 3
    · rw [decide_eq_true ⟨h1, h2⟩]
      go_enter Try.func24, Try.ntmps24
      go_wp2
      go_ret
      exact ⟨rfl, rfl⟩
    · rw [decide_eq_false (fun h => h2 h.2)]
      go_enter Try.func24, Try.ntmps24
      go_wp2
      go_ret
      exact ⟨rfl, rfl⟩
  · rw [decide_eq_false (fun h => h1 h.1)]
    go_enter Try.func24, Try.ntmps24
    go_wp2
    go_ret
    exact ⟨rfl, rfl⟩
/-- lengths, whatever the letters -/
def lensOk (z : List Int) : Bool := decide (z.length ≤ 12) && (W.lenAll z && W.upTo z z.length)
theorem krList_def (z : List Int) (L : Int) : W.krList z L = (W.krLet L && lensOk z) := rfl
end Go.Proofs.Ythkkneboblhmlaa
