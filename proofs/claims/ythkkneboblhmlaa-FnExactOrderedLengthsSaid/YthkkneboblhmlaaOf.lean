/-
  WHAT THIS FILE PROVES: plain facts on the first ordered lengths that cost a given sum, tried in order; no program in sight.
-/
import Derived.Test.YthkkneboblhmlaaOc
namespace Go.Proofs.Ythkkneboblhmlaa.W

/-- the first of r values from l on that is not empty -/
def fstFrom (g : Nat → List Int) : Nat → Nat → List Int
  | 0, _ => []
  | r + 1, l => if (g l).length = 0 then fstFrom g r (l + 1) else g l
theorem fstFrom_len {g : Nat → List Int} {n : Nat} (h : ∀ l, (g l).length ≤ n) : ∀ r l, (fstFrom g r l).length ≤ n
  | 0, _ => Nat.zero_le _
  | r + 1, l => by
    unfold fstFrom
    split
    · exact fstFrom_len h r _
    · exact h l
/-- no lengths begin so -/
def foBad (xs : List Int) (C : Int) : Bool := decide (C < 0) || (decide (0 < xs.length) && !isOl xs)
/-- the first ordered lengths that go on some, with what is left of the cost -/
def foS (z : List Int) : Nat → List Int → Int → List Int
  | 0, xs, C => if foBad xs C then [] else if C = 0 then xs else []
  | f + 1, xs, C => if foBad xs C then [] else fstFrom (fun l => foS z f (xs ++ [(l : Int)]) (C - (l : Int) * z.getD xs.length 0)) 11 1
theorem foS_len (z : List Int) : ∀ f xs C, (foS z f xs C).length ≤ xs.length + f
  | 0, xs, C => by
    unfold foS
    split
    · exact Nat.zero_le _
    · split
      · omega
      · exact Nat.zero_le _
  | f + 1, xs, C => by
    unfold foS
    split
    · exact Nat.zero_le _
    · refine fstFrom_len (fun l => ?_) _ _
      have := foS_len z f (xs ++ [(l : Int)]) (C - (l : Int) * z.getD xs.length 0)
      rw [List.length_append, List.length_singleton] at this
      omega
theorem foS_bad {z : List Int} {xs : List Int} {C : Int} (h : foBad xs C = true) : ∀ f, foS z f xs C = []
  | 0 => by unfold foS; rw [if_pos h]
  | f + 1 => by unfold foS; rw [if_pos h]
theorem foS_end {z : List Int} {xs : List Int} {C : Int} (h : foBad xs C = false) : foS z 0 xs C = if C = 0 then xs else [] := by
  unfold foS
  rw [if_neg (by rw [h]; exact Bool.false_ne_true)]
theorem foS_go {z : List Int} {xs : List Int} {C : Int} (h : foBad xs C = false) (f : Nat) : foS z (f + 1) xs C = fstFrom (fun l => foS z f (xs ++ [(l : Int)]) (C - (l : Int) * z.getD xs.length 0)) 11 1 := by
  conv => lhs; unfold foS
  rw [if_neg (by rw [h]; exact Bool.false_ne_true)]
end Go.Proofs.Ythkkneboblhmlaa.W
