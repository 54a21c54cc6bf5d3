/-
  WHAT THIS FILE PROVES: small facts on the memory of a call that puts lists of texts into a boxed slice: what it keeps, and rows of texts under it; each asks what its premises name.
-/
import Derived.Test.YtnbgehaliicbnaaMemS
import Derived.Test.YtnbgehaliicbnaaKidI
import Derived.Test.YtnbgehaliicbnaaCp
namespace Go.Proofs.Ytnbgehaliicbnaa
open Go.RowKit

/-- a slice over vs.length cells at A reads as vs, in a block of texts -/
def RowT (u : World) (A : Option Addr) (vs : List Value) : Prop :=
  0 < vs.length → ∃ b off cs fr, A = some ⟨b, off, none⟩ ∧ u.heap[b]? = some (.cells cs 9 fr) ∧ ∀ i v, vs[i]? = some v → cs[off + i]? = some v
/-- all blocks are kept but those of slices and of slices of slices -/
def Keeps (u u' : World) : Prop := u.heap.size ≤ u'.heap.size ∧ ∀ (k : Nat) (cs : Array Value) (fr : Nat × Nat) (T : TypeId), T ≠ 25 → T ≠ 35 → u.heap[k]? = some (.cells cs T fr) → u'.heap[k]? = some (.cells cs T fr)
theorem heap_lt {u : World} {k : Nat} {o : Obj} (h : u.heap[k]? = some o) : k < u.heap.size := (Array.getElem?_eq_some_iff.1 h).1
theorem RowT.row {u : World} {A : Option Addr} {vs : List Value} (h : RowT u A vs) : Row u u.heap.size A vs := fun hl => by
  obtain ⟨b, off, cs, fr, e, hb, hc⟩ := h hl
  exact ⟨b, off, e, heap_lt hb, fun i v hv => by rw [Lib.cell_of_heap hb]; exact hc i v hv⟩
theorem RowT.of_own {u : World} {base n c : Nat} {A : Option Addr} {vs : List Value} (h : u.ownsRow base 9 1 (.slice A n c) n vs) : RowT u A vs := fun hl => by
  have hrow := Row.of_own h hl
  obtain ⟨b, off, e, hb, hc⟩ := hrow
  rcases h.2 with ⟨hv, hn⟩ | ⟨g, cap, cur, hv, hb', hh, _⟩
  · have := h.1
    omega
  · simp only [Value.slice.injEq] at hv
    obtain ⟨rfl, _, rfl⟩ := hv
    injection e with e
    injection e with e1 e2
    subst e1
    exact ⟨g, off, cur, (0, 0), by rw [← e2], hh, fun i v hv => by have := hc i v hv; rwa [Lib.cell_of_heap hh] at this⟩
theorem Keeps.trans {a b c : World} (h : Keeps a b) (k : Keeps b c) : Keeps a c := ⟨Nat.le_trans h.1 k.1, fun i cs fr T h1 h2 hi => k.2 i cs fr T h1 h2 (h.2 i cs fr T h1 h2 hi)⟩
theorem Keeps.of_below {u u' : World} (h : Below u.heap.size u u') : Keeps u u' := ⟨h.size, fun k cs fr T _ _ hk => by rw [h.block k (heap_lt hk)]; exact hk⟩
theorem Keeps.refl (u : World) : Keeps u u := .of_below (Below.refl _ _)
theorem RowT.keeps {u u' : World} {A : Option Addr} {vs : List Value} (h : RowT u A vs) (k : Keeps u u') : RowT u' A vs := fun hl => by
  obtain ⟨b, off, cs, fr, e, hb, hc⟩ := h hl
  exact ⟨b, off, cs, fr, e, k.2 b cs fr _ (by decide) (by decide) hb, hc⟩
theorem RowT.tail {u : World} {b off : Nat} {v : Value} {vs : List Value} (h : RowT u (some ⟨b, off, none⟩) (v :: vs)) : RowT u (some ⟨b, off + 1, none⟩) vs := fun hl => by
  obtain ⟨b', off', cs, fr, e, hb, hc⟩ := h (by simp)
  injection e with e
  injection e with e1 e2
  subst e1 e2
  exact ⟨b, off + 1, cs, fr, rfl, hb, fun i v hv => by have := hc (i + 1) v (by rw [List.getElem?_cons_succ]; exact hv); rwa [show off + 1 + i = off + (i + 1) by omega]⟩
theorem RowT.nil (u : World) (A : Option Addr) : RowT u A (strs []) := fun h => by simp [strs] at h
/-- what stands in the boxes -/
structure CpMem (u : World) (g P Q N M base n L : Nat) (v : Value) (m : Nat) (vs : List Value) : Prop where
  bP : base ≤ P
  bs : base ≤ u.heap.size
  hN : u.heap[N]? = some (.cells #[.int .i64 (n : Int)] 3 (0, 0))
  hM : u.heap[M]? = some (.cells #[.int .i64 (L : Int)] 3 (0, 0))
  hQ : u.heap[Q]? = some (.cells #[.func (.func g) #[] #[.pointer (some ⟨N, 0, none⟩), .pointer (some ⟨P, 0, none⟩), .pointer (some ⟨Q, 0, none⟩), .pointer (some ⟨M, 0, none⟩)]] 43 (0, 0))
  hP : u.heap[P]? = some (.cells #[v] 25 (0, 0))
  own : u.ownsRow base 35 1 v m vs
theorem boxed {u : World} {k : Nat} {x : Value} {T : TypeId} {fr : Nat × Nat} (h : u.heap[k]? = some (.cells #[x] T fr)) : u.cell? ⟨k, 0, none⟩ = some x := by rw [Lib.cell_of_heap h]; rfl
theorem CpMem.below {u u' : World} {g P Q N M base n L : Nat} {v : Value} {m : Nat} {vs : List Value} (h : CpMem u g P Q N M base n L v m vs) (hB : Below u.heap.size u u') : CpMem u' g P Q N M base n L v m vs :=
  ⟨h.bP, Nat.le_trans h.bs hB.size, by rw [hB.block _ (heap_lt h.hN)]; exact h.hN, by rw [hB.block _ (heap_lt h.hM)]; exact h.hM, by rw [hB.block _ (heap_lt h.hQ)]; exact h.hQ, by rw [hB.block _ (heap_lt h.hP)]; exact h.hP, own_below h.own hB⟩
/-- the row of the list lies in no box -/
theorem CpMem.apart {u : World} {g P Q N M base n L : Nat} {v : Value} {m : Nat} {vs : List Value} (h : CpMem u g P Q N M base n L v m vs) {k : Nat} {cs : Array Value} {T : TypeId} {fr : Nat × Nat} (hk : u.heap[k]? = some (.cells cs T fr)) (hT : T ≠ 35) : v.ownBlock ≠ some k := fun e => by
  rcases h.own.2 with ⟨hv, _⟩ | ⟨g', cap, cur, hv, _, hh, _⟩
  · rw [hv] at e; cases e
  · rw [hv] at e
    have e2 : some g' = some k := e
    injection e2 with e2
    subst e2
    rw [hk] at hh
    injection hh with hh
    injection hh with h1 h2 h3
    exact hT h2
theorem CpMem.drew {u : World} {g P Q N M base n L : Nat} {v : Value} {m : Nat} {vs : List Value} (h : CpMem u g P Q N M base n L v m vs) : CpMem u.drew g P Q N M base n L v m vs := ⟨h.bP, h.bs, h.hN, h.hM, h.hQ, h.hP, h.own⟩
theorem CpMem.box {u w6 : World} {g P Q N M base n L : Nat} {v : Value} {m : Nat} {vs : List Value} (h : CpMem u g P Q N M base n L v m vs) (hg : u.grownBy w6 v.ownBlock) : w6.heap[P]? = some (.cells #[v] 25 (0, 0)) := by
  rw [hg.block P (heap_lt h.hP) (fun e => h.apart h.hP (by decide) e.symm)]
  exact h.hP
/-- a list more, and the box shows it -/
theorem CpMem.put {u w6 : World} {g P Q N M base n L : Nat} {v v1 : Value} {m m1 : Nat} {vs vs1 : List Value} (h : CpMem u g P Q N M base n L v m vs) (hg : u.grownBy w6 v.ownBlock) (ho : w6.ownsRow base 35 1 v1 m1 vs1) :
    CpMem (w6.setCell ⟨P, 0, none⟩ v1) g P Q N M base n L v1 m1 vs1 ∧ Keeps u (w6.setCell ⟨P, 0, none⟩ v1) ∧ Below base u (w6.setCell ⟨P, 0, none⟩ v1) := by
  have hblk : ∀ (k : Nat) (cs : Array Value) (T : TypeId) (fr : Nat × Nat), T ≠ 35 → u.heap[k]? = some (.cells cs T fr) → w6.heap[k]? = some (.cells cs T fr) := fun k cs T fr hT hk => by
    rw [hg.block k (heap_lt hk) (fun e => h.apart hk hT e.symm)]
    exact hk
  have hPP := hblk P _ _ _ (by decide) h.hP
  have hset : ∀ (k : Nat) (cs : Array Value) (T : TypeId) (fr : Nat × Nat), k ≠ P → w6.heap[k]? = some (.cells cs T fr) → (w6.setCell ⟨P, 0, none⟩ v1).heap[k]? = some (.cells cs T fr) := fun k cs T fr hk e => by
    rw [heap_setCell_other w6 ⟨P, 0, none⟩ k v1 hk]
    exact e
  have hne : ∀ (k : Nat) (cs : Array Value) (T : TypeId) (fr : Nat × Nat), T ≠ 25 → u.heap[k]? = some (.cells cs T fr) → k ≠ P := fun k cs T fr hT hk e => by
    subst e
    rw [h.hP] at hk
    injection hk with hk
    injection hk with h1 h2 h3
    exact hT h2.symm
  have hne1 : v1.ownBlock ≠ some P := fun e => by
    rcases ho.2 with ⟨hv, _⟩ | ⟨g', cap, cur, hv, _, hh, _⟩
    · rw [hv] at e; cases e
    · rw [hv] at e
      have e2 : some g' = some P := e
      injection e2 with e2
      subst e2
      rw [hPP] at hh
      injection hh with hh
      injection hh with h1 h2 h3
      exact absurd h2 (by decide)
  have hBb : Below base u w6 := (Below.refl base u).grown hg h.bs (fun k hk => (h.own.lt k hk).1)
  refine ⟨⟨h.bP, ?_, ?_, ?_, ?_, ?_, ?_⟩, ⟨?_, fun k cs fr T h1 h2 hk => ?_⟩, hBb.setCell (p := ⟨P, 0, none⟩) h.bP _⟩
  · have := hBb.size; have := h.bs; simp; omega
  · exact hset _ _ _ _ (hne _ _ _ _ (by decide) h.hN) (hblk _ _ _ _ (by decide) h.hN)
  · exact hset _ _ _ _ (hne _ _ _ _ (by decide) h.hM) (hblk _ _ _ _ (by decide) h.hM)
  · exact hset _ _ _ _ (hne _ _ _ _ (by decide) h.hQ) (hblk _ _ _ _ (by decide) h.hQ)
  · have := heap_setCell_same w6 P 0 #[v] 25 v1 hPP
    exact this
  · refine ho.kept (row := some P) ⟨rfl, rfl, rfl, by simp, fun k _ hk => heap_setCell_other w6 ⟨P, 0, none⟩ k v1 (fun e => hk (by simp [e]))⟩ (Or.inr hne1)
  · have := hBb.size; simp; omega
  · exact hset _ _ _ _ (hne _ _ _ _ h1 hk) (hblk _ _ _ _ h2 hk)
end Go.Proofs.Ytnbgehaliicbnaa
