/-
  WHAT THIS FILE PROVES: a slice of the call's own at whatever place in its block, its elements of one cell each: elements are taken away ahead, one is put behind, it is sorted; each asks what its premises name.
-/
import Derived.Test.YtelfchoeielmhaaMemI
import Derived.Test.YtelfchoeielmhaaMr
import Derived.Test.YtelfchoeielmhaaShelf
import Derived.Deep.MidRow
import Derived.Deep.RegionLawGrows
import Derived.Laws.OwnMore
import Derived.OwnWalk
import Derived.Sort.Grow
namespace Go.Proofs.Ytelfchoeielmhaa
open Go.RowKit Go.Shelf Go.Sort

/-- a slice of n cells, its block the call's own, at whatever place in it -/
def tlAt (w : World) (base : Nat) (v : Value) (n : Nat) (xs : List Value) : Prop :=
  xs.length = n ∧ ∃ g off cap, v = .slice (some ⟨g, off, none⟩) n cap ∧ base ≤ g ∧ n ≤ cap ∧ g < w.heap.size ∧ w.rangeAt g off xs ∧ w.there g off cap
theorem tl_own {w : World} {base e n c g : Nat} {xs : List Value} (h : w.ownsRow base e 1 (.slice (some ⟨g, 0, none⟩) n c) n xs) : tlAt w base (.slice (some ⟨g, 0, none⟩) n c) n xs := by
  refine ⟨by have := h.1; omega, ?_⟩
  rcases h.2 with ⟨hv, _⟩ | ⟨g', cap, cur, hv, hb, hh, hn, _, hs, ht⟩
  · cases hv
  · simp only [Value.slice.injEq, Option.some.injEq, Addr.mk.injEq] at hv
    obtain ⟨⟨rfl, _, _⟩, _, rfl⟩ := hv
    refine ⟨g, 0, c, rfl, hb, hn, (Array.getElem?_eq_some_iff.1 hh).1, fun j v hv => ?_, fun j hj => ?_⟩
    · have hj := (List.getElem?_eq_some_iff.1 hv).1
      rw [h.1] at hj
      rw [Nat.zero_add, h.cellAt j hj]
      exact hv
    · rw [Nat.zero_add, cell_of_row w g j cur e (0, 0) hh, frozen_of_row w g j cur e hh]
      exact ⟨by rw [Array.getElem?_eq_getElem (by omega)]; rfl, rfl⟩
theorem tl_kept {w w' : World} {base n : Nat} {v : Value} {xs : List Value} {row : Option Nat} (h : tlAt w base v n xs) (hg : w.grownBy w' row) (hne : v.ownBlock ≠ row) : tlAt w' base v n xs := by
  obtain ⟨hl, g, off, cap, rfl, hb, hn, hs, hr, ht⟩ := h
  have hk := hg.block g hs hne
  refine ⟨hl, g, off, cap, rfl, hb, hn, Nat.lt_of_lt_of_le hs hg.size, fun j u hu => ?_, fun j hj => ?_⟩
  · rw [World.cell?_of_block (a := ⟨g, off + j, none⟩) hk]
    exact hr j u hu
  · rw [World.cell?_of_block (a := ⟨g, off + j, none⟩) hk, World.frozen?_of_block (a := ⟨g, off + j, none⟩) hk]
    exact ht j hj
theorem tl_alloc {w : World} {base n : Nat} {v : Value} {xs : List Value} (h : tlAt w base v n xs) (o : Obj) : tlAt (w.alloc o) base v n xs := by
  refine tl_kept h (World.grownBy_alloc w o none) ?_
  obtain ⟨_, g, off, cap, rfl, _⟩ := h
  simp [Value.ownBlock]
theorem tl_below {w w' : World} {base n : Nat} {v : Value} {xs : List Value} (h : tlAt w base v n xs) (hB : Below w.heap.size w w') : tlAt w' base v n xs := by
  refine tl_kept h (row := none) ⟨hB.os, hB.tape, hB.output, hB.size, fun k hk _ => hB.block k hk⟩ ?_
  obtain ⟨_, g, off, cap, rfl, _⟩ := h
  simp [Value.ownBlock]
theorem tl_lt {w : World} {base n : Nat} {v : Value} {xs : List Value} (h : tlAt w base v n xs) : ∀ k, v.ownBlock = some k → base ≤ k ∧ k < w.heap.size := by
  obtain ⟨_, g, off, cap, rfl, hb, _, hs, _⟩ := h
  intro k hk
  have e : some g = some k := hk
  injection e with e
  omega
theorem tl_sl {w : World} {base n : Nat} {v : Value} {xs : List Value} (h : tlAt w base v n xs) : ∃ g off cap, v = .slice (some ⟨g, off, none⟩) n cap ∧ base ≤ g ∧ n ≤ cap ∧ g < w.heap.size := by
  obtain ⟨_, g, off, cap, rfl, hb, hn, hs, _⟩ := h
  exact ⟨g, off, cap, rfl, hb, hn, hs⟩
/-- the first k are taken away -/
theorem tl_drop {w : World} {base n g off cap : Nat} {xs : List Value} (k : Nat) (hk : k ≤ n) (h : tlAt w base (.slice (some ⟨g, off, none⟩) n cap) n xs) :
    tlAt w base (.slice (some ⟨g, off + k, none⟩) (n - k) (cap - k)) (n - k) (xs.drop k) := by
  obtain ⟨hl, g', off', cap', hv, hb, hn, hs, hr, ht⟩ := h
  simp only [Value.slice.injEq, Option.some.injEq, Addr.mk.injEq] at hv
  obtain ⟨⟨rfl, rfl, _⟩, _, rfl⟩ := hv
  refine ⟨by rw [List.length_drop, hl], g, off + k, cap - k, rfl, hb, by omega, hs, fun j u hu => ?_, fun j hj => ?_⟩
  · rw [List.getElem?_drop] at hu
    have := hr (k + j) u hu
    rwa [← Nat.add_assoc] at this
  · have := ht (k + j) (by omega)
    rwa [← Nat.add_assoc] at this
/-- what is read of the first k -/
theorem tl_row {w : World} {base n g off cap : Nat} {zs : List Int} (k : Nat) (h : tlAt w base (.slice (some ⟨g, off, none⟩) n cap) n (ints zs)) : Row w w.heap.size (some ⟨g, off, none⟩) (ints (zs.take k)) := by
  obtain ⟨hl, g', off', cap', hv, hb, hn, hs, hr, ht⟩ := h
  simp only [Value.slice.injEq, Option.some.injEq, Addr.mk.injEq] at hv
  obtain ⟨⟨rfl, rfl, _⟩, _, rfl⟩ := hv
  intro _
  refine ⟨g, off, rfl, hs, fun j u hu => hr j u ?_⟩
  unfold ints at hu ⊢
  rw [List.map_take, List.getElem?_take] at hu
  split at hu
  · exact hu
  · cases hu
theorem tl_grown (g : Nat) : ∀ (vs : List Value) (o : Nat) (w : World), w.grownBy (w.setCells g o vs) (some g)
  | [], _, w => ⟨rfl, rfl, rfl, Nat.le_refl _, fun _ _ _ => rfl⟩
  | v :: r, o, w => by
    have ih := tl_grown g r (o + 1) (w.setCell ⟨g, o, none⟩ v)
    refine ⟨ih.os, ih.tape, ih.output, by have := ih.size; rwa [World.size_setCell] at this, fun k hk hne => ?_⟩
    rw [World.setCells, ih.block k (by rw [World.size_setCell]; exact hk) hne, heap_setCell_other _ _ _ _ (fun e => hne (by subst e; rfl))]
theorem tl_size (g : Nat) : ∀ (vs : List Value) (o : Nat) (w : World), (w.setCells g o vs).heap.size = w.heap.size
  | [], _, _ => rfl
  | v :: r, o, w => by rw [World.setCells, tl_size g r, World.size_setCell]
theorem tl_range {w : World} {g o : Nat} {xs ys : List Value} (h1 : w.rangeAt g o xs) (h2 : w.rangeAt g (o + xs.length) ys) : w.rangeAt g o (xs ++ ys) := fun j u hu => by
  by_cases hj : j < xs.length
  · rw [List.getElem?_append_left hj] at hu
    exact h1 j u hu
  · rw [List.getElem?_append_right (by omega)] at hu
    have := h2 (j - xs.length) u hu
    rw [show o + j = o + xs.length + (j - xs.length) by omega]
    exact this
/-- one more is put behind -/
theorem tl_append {P : Program} (w : World) {ops : Array Oper} {rest : List Oper} {o : Oper} {a : Act} {Q : Exit → Act → World → Prop} (hgd : o.guard = none) (s x : Operand) (t : TypeId)
    (ho : o.op = .call { callee := .builtin .append, args := #[s, x], argTypes := #[t, t] })
    (base e : Nat) (i : TypeInfo) (z : Value) (bytes : Nat) (ht : P.underlying t = some (.slice e)) (hi : P.info? e = some i) (hz : i.zero = some z) (hsize : i.size = 1) (hby : i.bytes = bytes) (hzs : z.cells.size = 1)
    (v : Value) (n : Nat) (xs : List Value) (hs : a.eval s = v) (hown : tlAt w base v n xs) (ad : Addr) (c : Nat) (news : List Value) (hx : a.eval x = .slice (some ad) 1 c) (hl : news.length = 1)
    (hnews : ∀ j u, news[j]? = some u → w.cell? (ad.add j) = some u) (h1 : ∀ u ∈ news, u.oneCell' = true) (h63 : n + 1 ≤ maxLen) (hbytes : (n + 1) * bytes ≤ 140737488355328) (hbase : base ≤ w.heap.size)
    (h : ∀ v' w', tlAt w' base v' (n + 1) (xs ++ news) → w.grownBy w' v.ownBlock → (v'.ownBlock = v.ownBlock ∨ ∀ k, v'.ownBlock = some k → w.heap.size ≤ k) → wpList P ops Q rest (a.put o.dst v') w') :
    wpList P ops Q (o :: rest) a w := by
  refine wpList_plain hgd fun K hK => ?_
  have key : if Region.wanted o (yielded ops a.tmps) = true then Oper.wp P o a w K Q else True := by
    obtain ⟨hl2, g, off, cap, rfl, hb, hn, hgs, hr, hth⟩ := hown
    by_cases hroom : n + 1 ≤ cap
    · have hsp : w.there g (off + n * 1) 1 := fun j hj => by
        have := hth (n * 1 + j) (by omega)
        rw [show off + n * 1 + j = off + (n * 1 + j) by omega]
        exact this
      refine step_append_room hgd s x t ho e i 1 ht hi hsize g off n cap hs ad 1 c news hx (by rw [hl]) hnews h1 hroom (fun j hj => hsp j (by omega)) (hK _ _ ?_)
      refine h _ _ ⟨by rw [List.length_append, hl2, hl], g, off, cap, rfl, hb, hroom, by rw [tl_size]; exact hgs, tl_range (World.rangeAt_setCells_apart hr _ _ _ (.inr (.inl (by omega)))) ?_, World.there_setCells hth _ _ _⟩ (tl_grown _ _ _ _) (.inl rfl)
      rw [hl2, show off + n = off + n * 1 by omega]
      exact World.rangeAt_setCells_same _ _ _ _ (by rw [hl]; exact hsp)
    · refine step_append_grows hgd s x t ho e i z 1 bytes ht hi hz hsize hby hzs (by decide) (some ⟨g, off, none⟩) n cap xs hs (fun e => by cases e) (by omega) (fun b hb j u hu => by
        injection hb with hb
        subst hb
        rw [Addr.add_mid]
        exact hr j u hu) ad 1 c news hx (by rw [hl]) hnews h1 (by omega) h63 hbytes (fun v' w' ho' hg' => hK _ _ ?_)
      obtain ⟨A', c', rfl⟩ := own_slice ho'
      obtain ⟨g', rfl, hg1, hg2⟩ := own_form ho' (by omega)
      have ht' := tl_own ho'
      refine h _ _ ?_ ⟨hg'.os, hg'.tape, hg'.output, hg'.size, fun k hk _ => hg'.block k hk (by simp)⟩ (.inr fun k hk => by
        have e : some g' = some k := hk
        injection e with e
        omega)
      obtain ⟨q1, g2, off2, cap2, q2, q3, q4⟩ := ht'
      exact ⟨q1, g2, off2, cap2, q2, Nat.le_trans hbase q3, q4⟩
  have hw : Region.wanted o (yielded ops a.tmps) = true := by simp [Region.wanted, hgd]
  rw [if_pos hw] at key
  exact key
/-- what the sort asks -/
theorem tl_holds {w : World} {base g off cap : Nat} {zs : List Int} (h : tlAt w base (.slice (some ⟨g, off, none⟩) zs.length cap) zs.length (ints zs)) : Holds (Value.int .i64) w g off zs.toArray := by
  obtain ⟨hl, g', off', cap', hv, hb, hn, hs, hr, ht⟩ := h
  simp only [Value.slice.injEq, Option.some.injEq, Addr.mk.injEq] at hv
  obtain ⟨⟨rfl, rfl, _⟩, _, rfl⟩ := hv
  intro j hj
  have hj' : j < zs.length := by simpa using hj
  refine ⟨?_, (ht j (by omega)).2⟩
  rw [hr j _ (ints_at zs j hj')]
  simp [hj']
theorem sort_grownI {w : World} {g off n : Nat} (os : Array Obj) (d : Array Int) : w.grownBy (grow (putRow (Value.int .i64) (Sort.ahead w n) g off d) os) (some g) where
  os := rfl
  tape := rfl
  output := rfl
  size := by simp
  block k hk hne := by
    have hkg : g ≠ k := fun e => hne (by rw [e])
    rw [heap_grow_old _ _ (by simpa using hk)]
    simp [putRow, mapBlock, Sort.ahead, Array.getElem?_modify, hkg]
/-- behind the sort -/
theorem tl_sort {w : World} {base g off cap n : Nat} {zs ys : List Int} (os : Array Obj) (hl : ys.length = zs.length) (h : tlAt w base (.slice (some ⟨g, off, none⟩) zs.length cap) zs.length (ints zs)) :
    tlAt (grow (putRow (Value.int .i64) (Sort.ahead w n) g off ys.toArray) os) base (.slice (some ⟨g, off, none⟩) zs.length cap) zs.length (ints ys) := by
  have h0 := tl_holds h
  obtain ⟨hl0, g', off', cap', hv, hb, hn, hs, hr, ht⟩ := h
  simp only [Value.slice.injEq, Option.some.injEq, Addr.mk.injEq] at hv
  obtain ⟨⟨rfl, rfl, _⟩, _, rfl⟩ := hv
  have hgs : ∀ j, (grow (putRow (Value.int .i64) (Sort.ahead w n) g off ys.toArray) os).cell? ⟨g, off + j, none⟩ = (putRow (Value.int .i64) (Sort.ahead w n) g off ys.toArray).cell? ⟨g, off + j, none⟩ := fun j => cell?_grow _ _ _ (by simpa using hs)
  refine ⟨by rw [ints_length, hl], g, off, cap, rfl, hb, hn, by simp; omega, fun j u hu => ?_, fun j hj => ⟨?_, ?_⟩⟩
  · have hj : j < ys.length := by
      have := (List.getElem?_eq_some_iff.1 hu).1
      rwa [ints_length] at this
    rw [hgs, cell?_putRow (Value.int .i64) (Sort.ahead w n) g off zs.toArray ys.toArray h0 (by simpa using hl) j (by simpa using hj)]
    rw [ints_at ys j hj] at hu
    rw [← hu]
    simp [hj]
  · rw [hgs]
    by_cases hjn : j < zs.length
    · rw [cell?_putRow (Value.int .i64) (Sort.ahead w n) g off zs.toArray ys.toArray h0 (by simpa using hl) j (by simp; omega)]
      rfl
    · rw [cell?_putRow_other _ _ _ _ _ _ (.inr (.inr (by simp; omega)))]
      exact (ht j hj).1
  · rw [frozen?_grow _ _ _ (by simpa using hs), frozen?_putRow]
    exact (ht j hj).2
end Go.Proofs.Ytelfchoeielmhaa
