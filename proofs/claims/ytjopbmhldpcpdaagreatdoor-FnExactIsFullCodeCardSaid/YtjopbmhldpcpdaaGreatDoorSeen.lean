/-
  WHAT THIS FILE PROVES: a map from texts to truth values that the call itself has made: what it tells of a text, and that a store turns this for one text alone; asked: texts of lengths that are allowed.
-/
import Derived.Test.YtjopbmhldpcpdaaGreatDoorMem
import Derived.Maps.OwnSet
import Derived.StringKeys
namespace Go.Proofs.YtjopbmhldpcpdaaGreatDoor
open Go.RowKit Go.ChangeMaps

/-- block b is a map of at most n entries that tells f s of a text s -/
def SeenAt (w : World) (b n : Nat) (f : List UInt8 → Bool) : Prop :=
  ∃ D : DataW Unit, w.ownsMap Tryz.prog 9 (plainElem Tryz.prog 4) b n D ∧ Maps.IsMap D ∧ ∀ s : List UInt8, D.atKey (.string s) (.lit (.bool false)) = .lit (.bool (f s))
theorem seen_made (w : World) : SeenAt (w.alloc (.map #[] 0)) w.heap.size 0 (fun _ => false) := ⟨.map [], World.ownsMap_made _ _ _ _, ⟨[], rfl⟩, fun _ => rfl⟩
theorem SeenAt.lt {w : World} {b n : Nat} {f : List UInt8 → Bool} (h : SeenAt w b n f) : b < w.heap.size := by
  obtain ⟨D, h1, _⟩ := h
  exact h1.lt
theorem SeenAt.kept {w w' : World} {b n : Nat} {f : List UInt8 → Bool} {row : Option Nat} (h : SeenAt w b n f) (hg : w.grownBy w' row) (hne : some b ≠ row) : SeenAt w' b n f := by
  obtain ⟨D, h1, h2, h3⟩ := h
  exact ⟨D, h1.kept hg hne, h2, h3⟩
theorem SeenAt.below {w w' : World} {b n : Nat} {f : List UInt8 → Bool} (h : SeenAt w b n f) (hB : Below w.heap.size w w') : SeenAt w' b n f :=
  h.kept (row := none) ⟨hB.os, hB.tape, hB.output, hB.size, fun k hk _ => hB.block k hk⟩ (by simp)
/-- a row of cells is no map -/
theorem SeenAt.ne {w : World} {b n base e m : Nat} {f : List UInt8 → Bool} {v : Value} {vs : List Value} (h : SeenAt w b n f) (ho : w.ownsRow base e 1 v m vs) : some b ≠ v.ownBlock := by
  obtain ⟨D, ⟨es, clock, hb, _⟩, _⟩ := h
  rcases ho.2 with ⟨rfl, _⟩ | ⟨g, cap, cur, rfl, _, hh, _⟩
  · simp [Value.ownBlock]
  · intro e
    simp only [Value.ownBlock, Option.some.injEq] at e
    subst e
    rw [hb] at hh
    cases hh
theorem plain_bool_inv {P : Program} {e : TypeId} (he : P.underlying e = some .bool) {v : Value} {z : DataW Unit × List MemPlace} (h : plainElem P e v = some z) : ∃ c, v = .bool c ∧ z.1 = .lit (.bool c) := by
  unfold plainElem at h
  rw [he] at h
  cases v <;> simp at h
  subst h
  exact ⟨_, rfl, rfl⟩
theorem zero_bool (w : World) : (zeroValue 4).run Tryz.prog w = .ok (.bool false) w := by kernel_rfl
theorem seen_look {w : World} {b n : Nat} {f : List UInt8 → Bool} (h : SeenAt w b n f) (s : ByteArray) (hs : s.size ≤ maxLen) : (Instr.lookup 69 (.map (some b)) (.string s) false).run Tryz.prog w = .ok (.bool (f s.data.toList)) w := by
  obtain ⟨D, h1, h2, h3⟩ := h
  obtain ⟨v, ps, hrun, hv⟩ := h1.lookup (t := 69) (Maps.string_keyed Tryz.underlying9) Tryz.underlying69 (zero_bool w) (plainElem_bool Tryz.underlying4 false) (WideMaps.keyOf_string_mk Tryz.underlying9 hs)
  obtain ⟨c, rfl, hc⟩ := plain_bool_inv Tryz.underlying4 hv
  have e : (DataW.lit (.bool (f s.data.toList)) : DataW Unit) = .lit (.bool c) := (h3 _).symm.trans hc
  have e2 : f s.data.toList = c := Lit.bool.inj (DataW.lit.inj e)
  rw [hrun, e2]
/-- a text is marked -/
theorem SeenAt.put {w' : World} {b n : Nat} {f : List UInt8 → Bool} {D : DataW Unit} (h2 : Maps.IsMap D) (h3 : ∀ s : List UInt8, D.atKey (.string s) (.lit (.bool false)) = .lit (.bool (f s))) (s : List UInt8)
    (ho : w'.ownsMap Tryz.prog 9 (plainElem Tryz.prog 4) b n (D.put (.string s) (.lit (.bool true)))) : SeenAt w' b n (fun x => decide (x = s) || f x) := by
  refine ⟨_, ho, ?_, fun x => ?_⟩
  · obtain ⟨es, rfl⟩ := h2
    exact ⟨_, rfl⟩
  · by_cases e : x = s
    · subst e
      rw [Maps.atKey_put_same h2 (by trivial)]
      simp
    · rw [Maps.atKey_put_other (fun e2 => e (by injection e2)), h3]
      show DataW.lit (.bool (f x)) = DataW.lit (.bool (decide (x = s) || f x))
      rw [decide_eq_false e, Bool.false_or]

end Go.Proofs.YtjopbmhldpcpdaaGreatDoor
