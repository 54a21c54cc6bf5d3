/-
  WHAT THIS FILE PROVES: plain facts on words that are within two others, one behind the other; no program in sight.
-/
import Derived.Test.YtdmbfmpagcjdpaaPfx
import Derived.Lib.IndexBytes
namespace Go.Proofs.Ytdmbfmpagcjdpaa

/-- the first of what f gives at 0 .. n - 1 -/
def fstS {β : Type} (f : Nat → Option β) : Nat → Option β
  | 0 => none
  | n + 1 => match fstS f n with
    | some x => some x
    | none => f n
theorem fstS_next {β : Type} {f : Nat → Option β} {n : Nat} (h : fstS f n = none) : fstS f (n + 1) = f n := by
  show (match fstS f n with | some x => some x | none => f n) = _
  rw [h]
theorem fstS_hit {β : Type} {f : Nat → Option β} {k : Nat} {x : β} (h : fstS f k = some x) : ∀ d, fstS f (k + d) = some x
  | 0 => h
  | d + 1 => by
    show (match fstS f (k + d) with | some x => some x | none => f (k + d)) = _
    rw [fstS_hit h d]
theorem fstS_at {β : Type} {f : Nat → Option β} {k n : Nat} {x : β} (h : fstS f k = none) (hx : f k = some x) (hk : k < n) : fstS f n = some x := by
  have := fstS_hit (show fstS f (k + 1) = some x from (fstS_next h).trans hx) (n - (k + 1))
  rwa [show k + 1 + (n - (k + 1)) = n by omega] at this
theorem fstS_rest {β : Type} {f : Nat → Option β} {k : Nat} (h : fstS f k = none) : ∀ d, (∀ m, k ≤ m → m < k + d → f m = none) → fstS f (k + d) = none
  | 0, _ => h
  | d + 1, hr => by
    have := fstS_next (fstS_rest h d (fun m h1 h2 => hr m h1 (by omega)))
    rw [show k + (d + 1) = k + d + 1 by omega, this]
    exact hr _ (by omega) (by omega)

/-- the word k may stand at p within the words i and j -/
def ownP (n i j k p : Nat) : Bool := decide (p = 0 ∧ k = i) || decide (p = n ∧ k = j)
/-- the seven ways to tell that -/
theorem own_ways (n i j k p : Nat) :
    (ownP n i j k p = true ∧ ((((p : Int) == 0) = true ∧ ((k : Int) == (i : Int)) = true) ∨ (((p : Int) == 0) = false ∧ ((p : Int) == (n : Int)) = true ∧ ((k : Int) == (j : Int)) = true) ∨ (((p : Int) == 0) = true ∧ ((k : Int) == (i : Int)) = false ∧ ((p : Int) == (n : Int)) = true ∧ ((k : Int) == (j : Int)) = true))) ∨
    (ownP n i j k p = false ∧ ((((p : Int) == 0) = false ∧ ((p : Int) == (n : Int)) = false) ∨ (((p : Int) == 0) = false ∧ ((p : Int) == (n : Int)) = true ∧ ((k : Int) == (j : Int)) = false) ∨ (((p : Int) == 0) = true ∧ ((k : Int) == (i : Int)) = false ∧ ((p : Int) == (n : Int)) = false) ∨ (((p : Int) == 0) = true ∧ ((k : Int) == (i : Int)) = false ∧ ((p : Int) == (n : Int)) = true ∧ ((k : Int) == (j : Int)) = false))) := by
  have e : ∀ a b : Nat, ((a : Int) == (b : Int)) = decide (a = b) := fun a b => by
    by_cases h : a = b
    · subst h; simp
    · rw [decide_eq_false h]; exact beq_eq_false_iff_ne.2 (by omega)
  have e0 : ((p : Int) == 0) = decide (p = 0) := e p 0
  rw [e0, e, e, e]
  unfold ownP
  rw [Bool.decide_and, Bool.decide_and]
  generalize decide (p = 0) = b1
  generalize decide (k = i) = b2
  generalize decide (p = n) = b3
  generalize decide (k = j) = b4
  cases b1 <;> cases b2 <;> cases b3 <;> cases b4 <;> simp
/-- the word k is at the place p within the words i and j, and may not be there -/
def plc (ss : List ByteArray) (i j k p : Nat) : Bool := !(ownP (W.nth ss i).size i j k p) && Lib.hasPrefix ((W.nth ss i ++ W.nth ss j).data.toList.drop p) (W.nth ss k).data.toList
/-- the first such place -/
def plF (ss : List ByteArray) (i j k : Nat) : Option Nat := fstS (fun p => if plc ss i j k p then some p else none) ((W.nth ss i).size + (W.nth ss j).size)
def inK (ss : List ByteArray) (i j k : Nat) : Option (List Int) := (plF ss i j k).map fun p => [(i : Int), (j : Int), (k : Int), (p : Int)]
def inJ (ss : List ByteArray) (i j : Nat) : Option (List Int) := fstS (inK ss i j) ss.length
def inI (ss : List ByteArray) (i : Nat) : Option (List Int) := fstS (inJ ss i) ss.length
/-- the first word that is within two others where it may not be -/
def inS (ss : List ByteArray) : Option (List Int) := fstS (inI ss) ss.length
theorem plc_far {ss : List ByteArray} {i j k p : Nat} (h1 : 1 ≤ (W.nth ss k).size) (h : (W.nth ss i).size + (W.nth ss j).size < p + (W.nth ss k).size) : plc ss i j k p = false := by
  unfold plc
  have : Lib.hasPrefix ((W.nth ss i ++ W.nth ss j).data.toList.drop p) (W.nth ss k).data.toList = false := by
    cases hq : Lib.hasPrefix ((W.nth ss i ++ W.nth ss j).data.toList.drop p) (W.nth ss k).data.toList with
    | false => rfl
    | true =>
      exfalso
      have h2 := (List.isPrefixOf_iff_prefix.1 hq).length_le
      rw [List.length_drop, ← Lib.size_eq, ← Lib.size_eq, ByteArray.size_append] at h2
      omega
  rw [this, Bool.and_false]
def gives (o : Option (List Int)) : List Int := o.getD []
def infOf (ss : List ByteArray) : List Int := if W.isSet ss then gives (inS ss) else []
def infOk (ss : List ByteArray) : Bool := W.isSet ss && (inS ss).isSome
/-- what IsCommaFree tells -/
def cfOf (ss : List ByteArray) : Bool := W.isSet ss && !(inS ss).isSome
theorem fstS_all {β : Type} {P : β → Prop} {f : Nat → Option β} (h : ∀ k x, f k = some x → P x) : ∀ n x, fstS f n = some x → P x
  | 0, _, e => by cases e
  | n + 1, x, e => by
    cases hq : fstS f n with
    | none => rw [fstS_next hq] at e; exact h n x e
    | some y =>
      have : fstS f (n + 1) = some y := by
        show (match fstS f n with | some x => some x | none => f n) = _
        rw [hq]
      rw [this] at e
      injection e with e
      subst e
      exact fstS_all h n y hq
theorem inS_len (ss : List ByteArray) : (gives (inS ss)).length ≤ 4 := by
  cases h : inS ss with
  | none => exact Nat.zero_le _
  | some x =>
    have hk : ∀ i j k x, inK ss i j k = some x → x.length = 4 := fun i j k x hx => by
      unfold inK at hx
      cases hp : plF ss i j k with
      | none => rw [hp] at hx; cases hx
      | some p => rw [hp] at hx; injection hx with hx; subst hx; rfl
    have hj : ∀ i j x, inJ ss i j = some x → x.length = 4 := fun i j x hx => fstS_all (hk i j) _ x hx
    have hi : ∀ i x, inI ss i = some x → x.length = 4 := fun i x hx => fstS_all (hj i) _ x hx
    have := fstS_all hi _ x h
    show x.length ≤ 4
    omega
theorem infOf_no {ss : List ByteArray} (h : W.isSet ss = false) : infOf ss = [] ∧ infOk ss = false ∧ cfOf ss = false := by
  unfold infOf infOk cfOf
  rw [h]
  exact ⟨rfl, rfl, rfl⟩
theorem infOf_yes {ss : List ByteArray} (h : W.isSet ss = true) : infOf ss = gives (inS ss) ∧ infOk ss = (inS ss).isSome ∧ cfOf ss = !(inS ss).isSome := by
  unfold infOf infOk cfOf
  rw [h]
  exact ⟨rfl, rfl, rfl⟩
theorem infOf_len (ss : List ByteArray) : (infOf ss).length ≤ 1048576 := by
  cases h : W.isSet ss
  · rw [(infOf_no h).1]; simp
  · rw [(infOf_yes h).1]; have := inS_len ss; omega
end Go.Proofs.Ytdmbfmpagcjdpaa
