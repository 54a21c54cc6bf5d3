/-
  WHAT THIS FILE PROVES: small facts on slices of slices that own their rows, and on those that read as lists of lists; each asks what its premises name.
-/
import Derived.Test.YthkkneboblhmlaaMem
namespace Go.Proofs.Ythkkneboblhmlaa
open Go.RowKit

/-- two rows of different elements lie in different blocks -/
theorem own_apart {w : World} {base base' e e' n n' : Nat} {v v' : Value} {vs vs' : List Value} (h : w.ownsRow base e 1 v n vs) (h' : w.ownsRow base' e' 1 v' n' vs') (ne : e ≠ e') : v.ownBlock = none ∨ v.ownBlock ≠ v'.ownBlock := by
  rcases h.2 with ⟨rfl, _⟩ | ⟨g, cap, cur, rfl, _, hh, _⟩
  · exact .inl rfl
  · right
    rcases h'.2 with ⟨rfl, _⟩ | ⟨g', cap', cur', rfl, _, hh', _⟩
    · simp [Value.ownBlock]
    · intro hb
      simp only [Value.ownBlock, Option.some.injEq] at hb
      subst hb
      rw [hh] at hh'
      simp only [Option.some.injEq, Obj.cells.injEq] at hh'
      exact ne hh'.2.1

/-- a cell of another block is written -/
theorem own_setCell {w : World} {base e n : Nat} {v : Value} {vs : List Value} (h : w.ownsRow base e 1 v n vs) (a : Addr) (u : Value) (hne : v.ownBlock ≠ some a.block) : (w.setCell a u).ownsRow base e 1 v n vs :=
  h.kept (row := some a.block) ⟨rfl, rfl, rfl, by simp, fun k _ hk => Below.heap_setCell w a u k (fun e => hk (by rw [e]))⟩ (.inr hne)

/-- v is a slice of slices vs of its own: each owns its row, all rows apart, and reads as a list of xss -/
structure OwnAt (w : World) (base : Nat) (E e : TypeId) (v : Value) (vs : List Value) (xss : List (List Value)) : Prop where
  own : w.ownsRow base E 1 v xss.length vs
  inner : ∀ (i : Nat) (xs : List Value), xss[i]? = some xs → ∃ (A : Option Addr) (c : Nat), vs[i]? = some (.slice A xs.length c) ∧ w.ownsRow base e 1 (.slice A xs.length c) xs.length xs
  sep : ∀ (i j : Nat) (u u' : Value), i ≠ j → vs[i]? = some u → vs[j]? = some u' → u.ownBlock = none ∨ u.ownBlock ≠ u'.ownBlock

section
variable {w w' : World} {base : Nat} {E e : TypeId} {v : Value} {vs : List Value} {xss : List (List Value)}

theorem OwnAt.len (h : OwnAt w base E e v vs xss) : vs.length = xss.length := by have := h.own.1; omega
theorem OwnAt.lt (h : OwnAt w base E e v vs xss) : ∀ u ∈ vs, ∀ g, u.ownBlock = some g → base ≤ g ∧ g < w.heap.size := fun u hu g hg => by
  obtain ⟨i, hi, rfl⟩ := List.getElem_of_mem hu
  have hl := h.len
  obtain ⟨A, c, h1, h2⟩ := h.inner i (xss[i]'(by omega)) (List.getElem?_eq_getElem (by omega))
  rw [List.getElem?_eq_getElem hi] at h1
  injection h1 with h1
  rw [h1] at hg
  exact h2.lt g hg
theorem OwnAt.ne (h : OwnAt w base E e v vs xss) (hne : e ≠ E) : ∀ u ∈ vs, u.ownBlock = none ∨ u.ownBlock ≠ v.ownBlock := fun u hu => by
  obtain ⟨i, hi, rfl⟩ := List.getElem_of_mem hu
  have hl := h.len
  obtain ⟨A, c, h1, h2⟩ := h.inner i (xss[i]'(by omega)) (List.getElem?_eq_getElem (by omega))
  rw [List.getElem?_eq_getElem hi] at h1
  injection h1 with h1
  rw [h1]
  exact own_apart h2 h.own hne
theorem OwnAt.kept {row : Option Nat} (h : OwnAt w base E e v vs xss) (hg : w.grownBy w' row) (hv : v.ownBlock = none ∨ v.ownBlock ≠ row) (hi : ∀ u ∈ vs, u.ownBlock = none ∨ u.ownBlock ≠ row) : OwnAt w' base E e v vs xss :=
  ⟨h.own.kept hg hv, fun i xs hx => by
    obtain ⟨A, c, h1, h2⟩ := h.inner i xs hx
    exact ⟨A, c, h1, h2.kept hg (hi _ (List.mem_of_getElem? h1))⟩, h.sep⟩
theorem OwnAt.below (h : OwnAt w base E e v vs xss) (hB : Below w.heap.size w w') : OwnAt w' base E e v vs xss :=
  h.kept (row := none) ⟨hB.os, hB.tape, hB.output, hB.size, fun k hk _ => hB.block k hk⟩ (by cases v.ownBlock <;> simp) (fun u _ => by cases u.ownBlock <;> simp)
theorem OwnAt.lower {base' : Nat} (h : OwnAt w base E e v vs xss) (hb : base' ≤ base) : OwnAt w base' E e v vs xss :=
  ⟨own_base h.own hb, fun i xs hx => by
    obtain ⟨A, c, h1, h2⟩ := h.inner i xs hx
    exact ⟨A, c, h1, own_base h2 hb⟩, h.sep⟩
/-- one row is written over -/
theorem OwnAt.set (hne : e ≠ E) (h : OwnAt w base E e v vs xss) {i : Nat} {xs ys : List Value} {A : Option Addr} {c : Nat} (hi : xss[i]? = some xs) (hv : vs[i]? = some (.slice A xs.length c)) (hl : ys.length = xs.length)
    (hy : w'.ownsRow base e 1 (.slice A xs.length c) xs.length ys) (hg : w.grownBy w' (Value.slice A xs.length c).ownBlock) : OwnAt w' base E e v vs (xss.set i ys) := by
  have hmem := List.mem_of_getElem? hv
  refine ⟨?_, fun j zs hz => ?_, h.sep⟩
  · rw [List.length_set]
    refine h.own.kept hg ?_
    have := h.ne hne _ hmem
    cases h1 : v.ownBlock with
    | none => exact .inl rfl
    | some g =>
      rw [h1] at this
      right
      rcases this with h2 | h2
      · rw [h2]; simp
      · exact fun e => h2 e.symm
  · by_cases e : j = i
    · subst e
      have hj : j < xss.length := (List.getElem?_eq_some_iff.1 hi).1
      rw [List.getElem?_set_self hj] at hz
      injection hz with hz
      subst hz
      rw [hl]
      exact ⟨A, c, hv, hy⟩
    · rw [List.getElem?_set_ne (fun e' => e e'.symm)] at hz
      obtain ⟨A', c', h1, h2⟩ := h.inner j zs hz
      exact ⟨A', c', h1, h2.kept hg (h.sep j i _ _ e h1 hv)⟩
/-- a row is put behind -/
theorem OwnAt.push (hne : e ≠ E) (h : OwnAt w base E e v vs xss) {v' : Value} {xs : List Value} {A : Option Addr} {c : Nat} (hx : w.ownsRow base e 1 (.slice A xs.length c) xs.length xs)
    (hsep : ∀ u ∈ vs, u.ownBlock = none ∨ u.ownBlock ≠ (Value.slice A xs.length c).ownBlock) (ho : w'.ownsRow base E 1 v' (xss.length + 1) (vs ++ [.slice A xs.length c])) (hg : w.grownBy w' v.ownBlock) :
    OwnAt w' base E e v' (vs ++ [.slice A xs.length c]) (xss ++ [xs]) := by
  have hlen := h.len
  refine ⟨by rw [List.length_append]; exact ho, fun i zs hz => ?_, fun i j u u' hij hu hu' => ?_⟩
  · by_cases hi : i < xss.length
    · rw [List.getElem?_append_left hi] at hz
      obtain ⟨A', c', h1, h2⟩ := h.inner i zs hz
      exact ⟨A', c', by rw [List.getElem?_append_left (by omega)]; exact h1, h2.kept hg (h.ne hne _ (List.mem_of_getElem? h1))⟩
    · have hlt := (List.getElem?_eq_some_iff.1 hz).1
      rw [List.length_append, List.length_singleton] at hlt
      obtain rfl : i = xss.length := by omega
      rw [List.getElem?_append_right (Nat.le_refl _), Nat.sub_self] at hz
      simp only [List.getElem?_cons_zero, Option.some.injEq] at hz
      subst hz
      refine ⟨A, c, ?_, hx.kept hg (own_apart hx h.own hne)⟩
      rw [List.getElem?_append_right (by omega), hlen, Nat.sub_self]
      rfl
  · by_cases hi : i < vs.length
    · rw [List.getElem?_append_left hi] at hu
      by_cases hj : j < vs.length
      · rw [List.getElem?_append_left hj] at hu'
        exact h.sep i j u u' hij hu hu'
      · rw [List.getElem?_append_right (by omega)] at hu'
        have : j - vs.length = 0 := by have := (List.getElem?_eq_some_iff.1 hu').1; simp at this; omega
        rw [this] at hu'
        simp only [List.getElem?_cons_zero, Option.some.injEq] at hu'
        subst hu'
        exact hsep u (List.mem_of_getElem? hu)
    · rw [List.getElem?_append_right (by omega)] at hu
      have : i - vs.length = 0 := by have := (List.getElem?_eq_some_iff.1 hu).1; simp at this; omega
      rw [this] at hu
      simp only [List.getElem?_cons_zero, Option.some.injEq] at hu
      subst hu
      have hj : j < vs.length := by
        have := (List.getElem?_eq_some_iff.1 hu').1
        simp at this
        omega
      rw [List.getElem?_append_left hj] at hu'
      have := hsep u' (List.mem_of_getElem? hu')
      cases h1 : (Value.slice A xs.length c).ownBlock with
      | none => exact .inl rfl
      | some g =>
        rw [h1] at this
        right
        rcases this with h2 | h2
        · rw [h2]; simp
        · exact fun e => h2 e.symm
end

theorem ownAt_nil (w : World) (base : Nat) (E e : TypeId) : OwnAt w base E e (.slice none 0 0) [] [] :=
  ⟨World.ownsRow_nil _ _ _ _, fun i xs h => by simp at h, fun i j u u' _ h => by simp at h⟩
/-- the same, its slices not named -/
def OwnSS (w : World) (base : Nat) (E e : TypeId) (v : Value) (xss : List (List Value)) : Prop := ∃ vs, OwnAt w base E e v vs xss
theorem ownSS_below {w w' : World} {base : Nat} {E e : TypeId} {v : Value} {xss : List (List Value)} (h : OwnSS w base E e v xss) (hB : Below w.heap.size w w') : OwnSS w' base E e v xss := by
  obtain ⟨vs, h⟩ := h
  exact ⟨vs, h.below hB⟩
theorem ownSS_lower {w : World} {base base' : Nat} {E e : TypeId} {v : Value} {xss : List (List Value)} (h : OwnSS w base E e v xss) (hb : base' ≤ base) : OwnSS w base' E e v xss := by
  obtain ⟨vs, h⟩ := h
  exact ⟨vs, h.lower hb⟩
/-- what is written elsewhere, above the row's base -/
theorem OwnSS.lt {w : World} {base : Nat} {E e : TypeId} {v : Value} {xss : List (List Value)} (h : OwnSS w base E e v xss) : ∀ k, v.ownBlock = some k → base ≤ k ∧ k < w.heap.size := by
  obtain ⟨vs, h⟩ := h
  exact h.own.lt
/-- a row below the base is written over -/
theorem OwnSS.kept {w w' : World} {base : Nat} {E e : TypeId} {v : Value} {xss : List (List Value)} {row : Option Nat} (h : OwnSS w base E e v xss) (hg : w.grownBy w' row) (hr : ∀ g, row = some g → g < base) : OwnSS w' base E e v xss := by
  obtain ⟨vs, h⟩ := h
  refine ⟨vs, h.kept hg (own_ne h.own hr) (fun u hu => ?_)⟩
  cases hb : u.ownBlock with
  | none => exact .inl rfl
  | some g =>
    refine .inr fun e => ?_
    have h1 := (h.lt u hu g hb).1
    have h2 := hr g e.symm
    omega
theorem ownSS_slice {w : World} {base : Nat} {E e : TypeId} {v : Value} {xss : List (List Value)} (h : OwnSS w base E e v xss) : ∃ A c, v = .slice A xss.length c := by
  obtain ⟨vs, h⟩ := h
  exact own_slice h.own

/-- what is put behind one slice of slices turns nothing of another one -/
theorem OwnSS.kept_other {w w' : World} {base base' n : Nat} {E e : TypeId} {v v' : Value} {vs : List Value} {xss : List (List Value)} (hne : e ≠ E) (h : OwnSS w base E e v xss) (hv : w.ownsRow base' E 1 v' n vs) (hb : v.ownBlock = none ∨ v.ownBlock ≠ v'.ownBlock) (hg : w.grownBy w' v'.ownBlock) : OwnSS w' base E e v xss := by
  obtain ⟨us, h⟩ := h
  refine ⟨us, h.kept hg hb (fun u hu => ?_)⟩
  obtain ⟨i, hi, rfl⟩ := List.getElem_of_mem hu
  have hl := h.len
  obtain ⟨A, c, h1, h2⟩ := h.inner i (xss[i]'(by omega)) (List.getElem?_eq_getElem (by omega))
  rw [List.getElem?_eq_getElem hi] at h1
  injection h1 with h1
  rw [h1]
  exact own_apart h2 hv hne

/-- a slice of slices reads as a list of lists, all of it below block B -/
def RowSS (w : World) (B : Nat) (A : Option Addr) (xss : List (List Value)) : Prop :=
  ∃ vs : List Value, Row w B A vs ∧ vs.length = xss.length ∧ ∀ (i : Nat) (xs : List Value), xss[i]? = some xs → ∃ (A' : Option Addr) (c : Nat), vs[i]? = some (.slice A' xs.length c) ∧ Row w B A' xs
section
variable {w w' : World} {B B' : Nat} {A : Option Addr} {xss : List (List Value)}
theorem RowSS.below (h : RowSS w B A xss) (hb : Below B w w') : RowSS w' B A xss := by
  obtain ⟨vs, h1, h2, h3⟩ := h
  exact ⟨vs, h1.below hb, h2, fun i xs hx => by obtain ⟨A', c, h4, h5⟩ := h3 i xs hx; exact ⟨A', c, h4, h5.below hb⟩⟩
theorem RowSS.more (h : RowSS w B A xss) (hB : B ≤ B') : RowSS w B' A xss := by
  obtain ⟨vs, h1, h2, h3⟩ := h
  exact ⟨vs, h1.more hB, h2, fun i xs hx => by obtain ⟨A', c, h4, h5⟩ := h3 i xs hx; exact ⟨A', c, h4, h5.more hB⟩⟩
theorem RowSS.kept (h : RowSS w B A xss) {row : Option Nat} (hg : w.grownBy w' row) (hB : B ≤ w.heap.size) (hr : ∀ g, row = some g → B ≤ g) : RowSS w' B A xss := by
  obtain ⟨vs, h1, h2, h3⟩ := h
  exact ⟨vs, h1.kept hg hB hr, h2, fun i xs hx => by obtain ⟨A', c, h4, h5⟩ := h3 i xs hx; exact ⟨A', c, h4, h5.kept hg hB hr⟩⟩
theorem RowSS.of_own {base : Nat} {E e : TypeId} {n c : Nat} (h : OwnSS w base E e (.slice A n c) xss) : RowSS w w.heap.size A xss := by
  obtain ⟨vs, h⟩ := h
  have hn : n = xss.length := by
    obtain ⟨A', c', e⟩ := own_slice h.own
    simp only [Value.slice.injEq] at e
    exact e.2.1
  subst hn
  exact ⟨vs, Row.of_own h.own, h.len, fun i xs hx => by
    obtain ⟨A', c', h1, h2⟩ := h.inner i xs hx
    exact ⟨A', c', h1, Row.of_own h2⟩⟩
end

/-- the call hands back a slice of slices of its own that reads as xss, and whether it is told; nothing that was there has turned -/
def OkSS (E e : TypeId) (w0 : World) (xss : List (List Value)) (ok : Bool) (en : Ending) (w' : World) : Prop :=
  ∃ A c, en = .returned (.tuple #[.slice A xss.length c, .bool ok]) ∧ OwnSS w' w0.heap.size E e (.slice A xss.length c) xss ∧ Below w0.heap.size w0 w'
def GivesSS (E e : TypeId) (w0 : World) (xss : List (List Value)) (en : Ending) (w' : World) : Prop :=
  ∃ A c, en = .returned (.slice A xss.length c) ∧ OwnSS w' w0.heap.size E e (.slice A xss.length c) xss ∧ Below w0.heap.size w0 w'
theorem okSS_of {E e : TypeId} {w0 w' : World} {xss : List (List Value)} {ok : Bool} {v : Value} {base : Nat} (ho : OwnSS w' base E e v xss) (hb : w0.heap.size = base) (hB : Below w0.heap.size w0 w') : OkSS E e w0 xss ok (.returned (.tuple #[v, .bool ok])) w' := by
  subst hb
  obtain ⟨A, c, rfl⟩ := ownSS_slice ho
  exact ⟨A, c, rfl, ho, hB⟩
theorem okSS_nil (E e : TypeId) (w0 w' : World) (ok : Bool) (hB : Below w0.heap.size w0 w') : OkSS E e w0 [] ok (.returned (.tuple #[.slice none 0 0, .bool ok])) w' :=
  ⟨none, 0, rfl, ⟨[], ownAt_nil _ _ _ _⟩, hB⟩
theorem givesSS_of {E e : TypeId} {w0 w' : World} {xss : List (List Value)} {v : Value} {base : Nat} (ho : OwnSS w' base E e v xss) (hb : w0.heap.size = base) (hB : Below w0.heap.size w0 w') : GivesSS E e w0 xss (.returned v) w' := by
  subst hb
  obtain ⟨A, c, rfl⟩ := ownSS_slice ho
  exact ⟨A, c, rfl, ho, hB⟩

end Go.Proofs.Ythkkneboblhmlaa
