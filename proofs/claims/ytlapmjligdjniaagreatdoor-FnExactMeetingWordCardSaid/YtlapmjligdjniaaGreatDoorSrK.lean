/-
  WHAT THIS FILE PROVES: the program's search for the first word that leads a group of states to one, over a queue and a map; the first step word, the first word by which two states meet, whether all states meet: the program tells the plain values; asked: a slice of texts in memory, lengths that an int holds.
-/
import Derived.Test.YtlapmjligdjniaaGreatDoorSrV
import Derived.Deep.MidRow
import Derived.Deep.RegionLawGrows
import Derived.Laws.OwnMore
import Derived.Maps.OwnSet
import Derived.Test.YtlapmjligdjniaaGreatDoorStpG
import Derived.Lib.BitFns
import Derived.Deep.LoopGhost
namespace Go.Proofs.YtlapmjligdjniaaGreatDoor
open Go.RowKit Go.ChangeMaps

/-- a slice of n pairs of cells, its block the call's own, at whatever place in it -/
def tailAt (w : World) (base : Nat) (v : Value) (n : Nat) (xs : List Value) : Prop :=
  xs.length = n * 2 ∧ ∃ g off cap, v = .slice (some ⟨g, off, none⟩) n cap ∧ base ≤ g ∧ n ≤ cap ∧ g < w.heap.size ∧ w.rangeAt g off xs ∧ w.there g off (cap * 2)
theorem tail_own {w : World} {base e n c g : Nat} {xs : List Value} (h : w.ownsRow base e 2 (.slice (some ⟨g, 0, none⟩) n c) n xs) : tailAt w base (.slice (some ⟨g, 0, none⟩) n c) n xs := by
  refine ⟨h.1, ?_⟩
  rcases h.2 with ⟨hv, _⟩ | ⟨g', cap, cur, hv, hb, hh, hn, _, hs, ht⟩
  · cases hv
  · simp only [Value.slice.injEq, Option.some.injEq, Addr.mk.injEq] at hv
    obtain ⟨⟨rfl, _, _⟩, _, rfl⟩ := hv
    refine ⟨g, 0, c, rfl, hb, hn, (Array.getElem?_eq_some_iff.1 hh).1, fun j v hv => ?_, fun j hj => ?_⟩
    · have hj := (List.getElem?_eq_some_iff.1 hv).1
      rw [h.1] at hj
      rw [Nat.zero_add, h.cellAt j hj]
      exact hv
    · rw [Nat.zero_add, cell_of_row w g j cur e (0, 0) hh, frozen_of_row w g j cur e hh]
      exact ⟨by rw [Array.getElem?_eq_getElem (by omega)]; rfl, rfl⟩
theorem tail_kept {w w' : World} {base n : Nat} {v : Value} {xs : List Value} {row : Option Nat} (h : tailAt w base v n xs) (hg : w.grownBy w' row) (hne : v.ownBlock ≠ row) : tailAt w' base v n xs := by
  obtain ⟨hl, g, off, cap, rfl, hb, hn, hs, hr, ht⟩ := h
  have hk := hg.block g hs hne
  refine ⟨hl, g, off, cap, rfl, hb, hn, Nat.lt_of_lt_of_le hs hg.size, fun j u hu => ?_, fun j hj => ?_⟩
  · rw [World.cell?_of_block (a := ⟨g, off + j, none⟩) hk]
    exact hr j u hu
  · rw [World.cell?_of_block (a := ⟨g, off + j, none⟩) hk, World.frozen?_of_block (a := ⟨g, off + j, none⟩) hk]
    exact ht j hj
theorem tail_alloc {w : World} {base n : Nat} {v : Value} {xs : List Value} (h : tailAt w base v n xs) (o : Obj) : tailAt (w.alloc o) base v n xs := by
  refine tail_kept h (World.grownBy_alloc w o none) ?_
  obtain ⟨_, g, off, cap, rfl, _⟩ := h
  simp [Value.ownBlock]
theorem tail_below {w w' : World} {base n : Nat} {v : Value} {xs : List Value} (h : tailAt w base v n xs) (hB : Below w.heap.size w w') : tailAt w' base v n xs := by
  refine tail_kept h (row := none) ⟨hB.os, hB.tape, hB.output, hB.size, fun k hk _ => hB.block k hk⟩ ?_
  obtain ⟨_, g, off, cap, rfl, _⟩ := h
  simp [Value.ownBlock]
theorem tail_lt {w : World} {base n : Nat} {v : Value} {xs : List Value} (h : tailAt w base v n xs) : ∀ k, v.ownBlock = some k → base ≤ k ∧ k < w.heap.size := by
  obtain ⟨_, g, off, cap, rfl, hb, _, hs, _⟩ := h
  intro k hk
  have e : some g = some k := hk
  injection e with e
  omega
theorem tail_sl {w : World} {base n : Nat} {v : Value} {xs : List Value} (h : tailAt w base v n xs) : ∃ g off cap, v = .slice (some ⟨g, off, none⟩) n cap ∧ base ≤ g ∧ n ≤ cap ∧ g < w.heap.size := by
  obtain ⟨_, g, off, cap, rfl, hb, hn, hs, _⟩ := h
  exact ⟨g, off, cap, rfl, hb, hn, hs⟩
/-- the first is taken away -/
theorem tail_drop {w : World} {base n g off cap : Nat} {a b : Value} {xs : List Value} (h : tailAt w base (.slice (some ⟨g, off, none⟩) (n + 1) cap) (n + 1) (a :: b :: xs)) :
    tailAt w base (.slice (some ⟨g, off + 2, none⟩) n (cap - 1)) n xs ∧ w.cell? ⟨g, off, none⟩ = some a ∧ w.cell? ⟨g, off + 1, none⟩ = some b := by
  obtain ⟨hl, g', off', cap', hv, hb, hn, hs, hr, ht⟩ := h
  simp only [Value.slice.injEq, Option.some.injEq, Addr.mk.injEq] at hv
  obtain ⟨⟨rfl, rfl, _⟩, _, rfl⟩ := hv
  simp only [List.length_cons] at hl
  refine ⟨⟨by omega, g, off + 2, cap - 1, rfl, hb, by omega, hs, fun j u hu => ?_, fun j hj => ?_⟩, hr 0 a rfl, hr 1 b rfl⟩
  · have := hr (j + 2) u (by simpa using hu)
    rw [show off + 2 + j = off + (j + 2) by omega]
    exact this
  · have := ht (2 + j) (by omega)
    rw [show off + 2 + j = off + (2 + j) by omega]
    exact this
theorem grown_setCells (g : Nat) : ∀ (vs : List Value) (o : Nat) (w : World), w.grownBy (w.setCells g o vs) (some g)
  | [], _, w => ⟨rfl, rfl, rfl, Nat.le_refl _, fun _ _ _ => rfl⟩
  | v :: r, o, w => by
    have ih := grown_setCells g r (o + 1) (w.setCell ⟨g, o, none⟩ v)
    refine ⟨ih.os, ih.tape, ih.output, by have := ih.size; rwa [World.size_setCell] at this, fun k hk hne => ?_⟩
    rw [World.setCells, ih.block k (by rw [World.size_setCell]; exact hk) hne, heap_setCell_other _ _ _ _ (fun e => hne (by subst e; rfl))]
theorem size_setCells' (g : Nat) : ∀ (vs : List Value) (o : Nat) (w : World), (w.setCells g o vs).heap.size = w.heap.size
  | [], _, _ => rfl
  | v :: r, o, w => by rw [World.setCells, size_setCells' g r, World.size_setCell]
theorem range_app {w : World} {g o : Nat} {xs ys : List Value} (h1 : w.rangeAt g o xs) (h2 : w.rangeAt g (o + xs.length) ys) : w.rangeAt g o (xs ++ ys) := fun j u hu => by
  by_cases hj : j < xs.length
  · rw [List.getElem?_append_left hj] at hu
    exact h1 j u hu
  · rw [List.getElem?_append_right (by omega)] at hu
    have := h2 (j - xs.length) u hu
    rw [show o + j = o + xs.length + (j - xs.length) by omega]
    exact this
/-- one more is put behind -/
theorem step_append_tail {P : Program} (w : World) {ops : Array Oper} {o : Oper} {a : Act} {K : Act → World → Prop} {Q : Exit → Act → World → Prop} {E : Prop} (hgd : o.guard = none) (s x : Operand) (t : TypeId)
    (ho : o.op = .call { callee := .builtin .append, args := #[s, x], argTypes := #[t, t] })
    (base e : Nat) (i : TypeInfo) (z : Value) (bytes : Nat) (ht : P.underlying t = some (.slice e)) (hi : P.info? e = some i) (hz : i.zero = some z) (hsize : i.size = 2) (hby : i.bytes = bytes) (hzs : z.cells.size = 2)
    (v : Value) (n : Nat) (xs : List Value) (hs : a.eval s = v) (hown : tailAt w base v n xs) (ad : Addr) (c : Nat) (news : List Value) (hx : a.eval x = .slice (some ad) 1 c) (hl : news.length = 2)
    (hnews : ∀ j u, news[j]? = some u → w.cell? (ad.add j) = some u) (h1 : ∀ u ∈ news, u.oneCell' = true) (h63 : n + 1 ≤ maxLen) (hbytes : (n + 1) * bytes ≤ 140737488355328) (hbase : base ≤ w.heap.size)
    (h : ∀ v' w', tailAt w' base v' (n + 1) (xs ++ news) → w.grownBy w' v.ownBlock → (v'.ownBlock = v.ownBlock ∨ ∀ k, v'.ownBlock = some k → w.heap.size ≤ k) → K (a.put o.dst v') w') :
    if Region.wanted o (yielded ops a.tmps) = true then Oper.wp P o a w K Q else E := by
  obtain ⟨hl2, g, off, cap, rfl, hb, hn, hgs, hr, hth⟩ := hown
  by_cases hroom : n + 1 ≤ cap
  · have hsp : w.there g (off + n * 2) 2 := fun j hj => by
      have := hth (n * 2 + j) (by omega)
      rw [show off + n * 2 + j = off + (n * 2 + j) by omega]
      exact this
    refine step_append_room hgd s x t ho e i 2 ht hi hsize g off n cap hs ad 1 c news hx (by rw [hl]) hnews h1 hroom (fun j hj => hsp j (by omega)) ?_
    refine h _ _ ⟨by rw [List.length_append, hl2, hl]; omega, g, off, cap, rfl, hb, hroom, by rw [size_setCells']; exact hgs, range_app (World.rangeAt_setCells_apart hr _ _ _ (.inr (.inl (by omega)))) ?_, World.there_setCells hth _ _ _⟩ (grown_setCells _ _ _ _) (.inl rfl)
    rw [hl2]
    exact World.rangeAt_setCells_same _ _ _ _ (by rw [hl]; exact hsp)
  · refine step_append_grows hgd s x t ho e i z 2 bytes ht hi hz hsize hby hzs (by decide) (some ⟨g, off, none⟩) n cap xs hs (fun e => by cases e) hl2 (fun b hb j u hu => by
      injection hb with hb
      subst hb
      rw [Addr.add_mid]
      exact hr j u hu) ad 1 c news hx (by rw [hl]) hnews h1 (by omega) h63 hbytes (fun v' w' ho' hg' => ?_)
    obtain ⟨A', c', rfl⟩ := own_sl ho'
    obtain ⟨g', rfl, hg1, hg2⟩ := own_fm ho' (by omega)
    have ht' := tail_own ho'
    refine h _ _ ?_ ⟨hg'.os, hg'.tape, hg'.output, hg'.size, fun k hk _ => hg'.block k hk (by simp)⟩ (.inr fun k hk => by
      have e : some g' = some k := hk
      injection e with e
      omega)
    obtain ⟨q1, g2, off2, cap2, q2, q3, q4⟩ := ht'
    exact ⟨q1, g2, off2, cap2, q2, Nat.le_trans hbase q3, q4⟩
/-- a group's entry -/
def kG (m : Nat) : Lit := .int .u16 (m : Int)
/-- block b is a map of at most n entries that tells f m of a group m -/
def SeenG (w : World) (b n : Nat) (f : Nat → Bool) : Prop :=
  ∃ D : DataW Unit, w.ownsMap Tryz.prog 43 (plainElem Tryz.prog 4) b n D ∧ Maps.IsMap D ∧ ∀ m : Nat, D.atKey (kG m) (.lit (.bool false)) = .lit (.bool (f m))
theorem SeenG.lt {w : World} {b n : Nat} {f : Nat → Bool} (h : SeenG w b n f) : b < w.heap.size := by
  obtain ⟨D, h1, _⟩ := h
  exact h1.lt
theorem SeenG.kept {w w' : World} {b n : Nat} {f : Nat → Bool} {row : Option Nat} (h : SeenG w b n f) (hg : w.grownBy w' row) (hne : some b ≠ row) : SeenG w' b n f := by
  obtain ⟨D, h1, h2, h3⟩ := h
  exact ⟨D, h1.kept hg hne, h2, h3⟩
theorem SeenG.below {w w' : World} {b n : Nat} {f : Nat → Bool} (h : SeenG w b n f) (hB : Below w.heap.size w w') : SeenG w' b n f :=
  h.kept (row := none) ⟨hB.os, hB.tape, hB.output, hB.size, fun k hk _ => hB.block k hk⟩ (by simp)
theorem SeenG.alloc {w : World} {b n : Nat} {f : Nat → Bool} (h : SeenG w b n f) (o : Obj) : SeenG (w.alloc o) b n f := h.kept (World.grownBy_alloc w o none) (by simp)
theorem key_group {m : Nat} (hm : m < 65536) : keyOf Tryz.prog 43 (.int .u16 (m : Int)) = some (kG m) :=
  Maps.keyOf_int_mk Tryz.underlying43 (by
    show (decide (IntKind.u16.min ≤ (m : Int)) && decide ((m : Int) ≤ IntKind.u16.max)) = true
    rw [decide_eq_true (show IntKind.u16.min ≤ (m : Int) from by show (0 : Int) ≤ _; omega), decide_eq_true (show (m : Int) ≤ IntKind.u16.max from by show _ ≤ (65535 : Int); omega)]
    rfl)
theorem bool_inv {P : Program} {e : TypeId} (he : P.underlying e = some .bool) {v : Value} {z : DataW Unit × List MemPlace} (h : plainElem P e v = some z) : ∃ c, v = .bool c ∧ z.1 = .lit (.bool c) := by
  unfold plainElem at h
  rw [he] at h
  cases v <;> simp at h
  subst h
  exact ⟨_, rfl, rfl⟩
theorem zero_bool' (w : World) : (zeroValue 4).run Tryz.prog w = .ok (.bool false) w := by kernel_rfl
theorem seenG_look {w : World} {b n : Nat} {f : Nat → Bool} (h : SeenG w b n f) (m : Nat) (hm : m < 65536) : (Instr.lookup 68 (.map (some b)) (.int .u16 (m : Int)) false).run Tryz.prog w = .ok (.bool (f m)) w := by
  obtain ⟨D, h1, h2, h3⟩ := h
  obtain ⟨v, ps, hrun, hv⟩ := h1.lookup (t := 68) (Maps.int_keyed Tryz.underlying43) Tryz.underlying68 (zero_bool' w) (plainElem_bool Tryz.underlying4 false) (key_group hm)
  obtain ⟨c, rfl, hc⟩ := bool_inv Tryz.underlying4 hv
  have e : (DataW.lit (.bool (f m)) : DataW Unit) = .lit (.bool c) := (h3 _).symm.trans hc
  have e2 : f m = c := Lit.bool.inj (DataW.lit.inj e)
  rw [hrun, e2]
/-- a group is marked -/
theorem SeenG.put {w' : World} {b n : Nat} {f : Nat → Bool} {D : DataW Unit} (h2 : Maps.IsMap D) (h3 : ∀ m : Nat, D.atKey (kG m) (.lit (.bool false)) = .lit (.bool (f m))) (m : Nat)
    (ho : w'.ownsMap Tryz.prog 43 (plainElem Tryz.prog 4) b n (D.put (kG m) (.lit (.bool true)))) : SeenG w' b n (fun x => decide (x = m) || f x) := by
  refine ⟨_, ho, ?_, fun x => ?_⟩
  · obtain ⟨es, rfl⟩ := h2
    exact ⟨_, rfl⟩
  · by_cases e : x = m
    · subst e
      rw [Maps.atKey_put_same h2 (by trivial)]
      simp
    · rw [Maps.atKey_put_other (fun e2 => e (by unfold kG at e2; injection e2 with _ e3; omega)), h3]
      show DataW.lit (.bool (f x)) = DataW.lit (.bool (decide (x = m) || f x))
      rw [decide_eq_false e, Bool.false_or]
theorem wpList_insert_own {H : Type} {P : Program} (w : World) {ops : Array Oper} {rest : List Oper} {o : Oper} {a : Act} {Q : Exit → Act → World → Prop}
    (hg : o.guard = none) (m x v : Operand) (t : TypeId) (hop : o.op = Op.insert t m x v)
    (k e : TypeId) (K : Maps.Keyed P k) (ht : P.underlying t = some (.map k e)) (R : Value → Option (DataW H × List MemPlace)) (b n : Nat) (D : DataW H)
    (hm : a.eval m = .map (some b)) (hown : w.ownsMap P k R b n D) (hn : n < maxLen) (key val : Value) (kl : Lit) (hx : a.eval x = key) (hv : a.eval v = val) (hkey : keyOf P k key = some kl)
    (d : DataW H) (ps : List MemPlace) (hval : R val = some (d, ps))
    (hK : ∀ w', w'.ownsMap P k R b (n + 1) (D.put kl d) → w.grownBy w' (some b) → wpList P ops Q rest (a.put o.dst undef) w') :
    wpList P ops Q (o :: rest) a w := by
  refine wpList_plain hg fun K' hK' => ?_
  obtain ⟨w', hrun, r1, r2⟩ := hown.update K ht hn hkey hval
  unfold Oper.wp
  simp [execOp, hop, hm, hx, hv, hrun, Result.andThen]
  exact hK' _ _ (hK w' r1 r2)
end Go.Proofs.YtlapmjligdjniaaGreatDoor

namespace Go.Proofs.YtlapmjligdjniaaGreatDoor
open Go.RowKit Go.Shelf

theorem pop_range (n : Nat) (h : n < 256) : 0 ≤ Lib.pop8 (n : Int) ∧ Lib.pop8 (n : Int) ≤ 8 := by
  have e := Lib.pop8_eq ⟨n, h⟩
  have l := Lib.onesCount_le8 ⟨n, h⟩
  simp only at e l
  omega
theorem ones_all : ∀ a : Fin 16, ∀ b : Fin 256, (((Lib.onesCount a.val : Nat) : Int) + (Lib.onesCount b.val : Nat) == 1) = oneB (a.val * 256 + b.val) := by decide +kernel
theorem pop_one (x : Nat) (hx : x < 4096) : (Lib.pop8 ((x / 256 : Nat) : Int) + Lib.pop8 ((x &&& 255 : Nat) : Int) == 1) = oneB x := by
  have hb : x &&& 255 = x % 256 := Nat.and_two_pow_sub_one_eq_mod x 8
  have e1 := Lib.pop8_eq ⟨x / 256, by omega⟩
  have e2 := Lib.pop8_eq ⟨x % 256, by omega⟩
  have h := ones_all ⟨x / 256, by omega⟩ ⟨x % 256, by omega⟩
  simp only at e1 e2 h
  rw [hb, e1, e2, h, show x / 256 * 256 + x % 256 = x by omega]
set_option maxHeartbeats 3200000 in
set_option maxRecDepth 100000 in
theorem ones16 (x : Nat) (w : World) (hx : x < 4096) :
    Calls Tryz.prog 52 #[.int .u16 x] w fun e w' => ∃ c : Int, e = .returned (.int .i64 c) ∧ Hid ((c == 1) = oneB x) ∧ Below w.heap.size w w' := by
  have hx1 : (x : Int) < 4096 := by omega
  obtain ⟨y, hy⟩ : ∃ y : Nat, y = x &&& 255 := ⟨_, rfl⟩
  have h1 : bits .and .u16 (x : Int) 255 = (y : Int) := by rw [hy]; exact u16_and_nat x 255 (by omega) (by omega)
  have hp1 : 0 ≤ Lib.pop8 ((x : Int) / 256) ∧ Lib.pop8 ((x : Int) / 256) ≤ 8 := pop_range (x / 256) (by omega)
  have hb : y < 256 := by rw [hy]; exact Nat.lt_of_le_of_lt Nat.and_le_right (by decide)
  have hp2 := pop_range y hb
  have hone : Hid ((Lib.pop8 ((x : Int) / 256) + Lib.pop8 (y : Int) == 1) = oneB x) := by rw [hy]; exact pop_one x hx
  clear hy
  have hq0 : (0 : Int) ≤ (x : Int) / 256 := by omega
  have hq3 : (x : Int) / 256 ≤ 255 := by omega
  have hq4 : (y : Int) ≤ 255 := by omega
  go_enter Tryz.func52, Tryz.ntmps52
  go_wp2_with fail
  conv in (occs := *) (ByteArray.mk (List.toArray (List.append _ _))) => all_goals change Lib.pop8tab
  go_quiet (fail)
  have hF := Lib.hid (below_drewN (Below.refl w.heap.size w) nq)
  generalize w.drewN nq = wz at hF ⊢
  go_wp2_with fail
  go_ret
  exact ⟨_, rfl, hone, hF.out⟩
theorem impl_isOne (x : Nat) (w : World) (hx : x < 4096) :
    Calls Tryz.prog 34 #[.int .u16 x] w fun e w' => e = .returned (.bool (oneB x)) ∧ Below w.heap.size w w' := by
  have h := Lib.hid (ones16 x w hx)
  go_enter Tryz.func34, Tryz.ntmps34
  go_wp2_with fail
  refine h.out.mono ?_
  rintro e w' ⟨c, rfl, hc, hB⟩
  clear h
  go_wp2_with fail
  go_ret
  exact ⟨by rw [hc.out]; rfl, hB⟩
end Go.Proofs.YtlapmjligdjniaaGreatDoor

namespace Go.Proofs.YtlapmjligdjniaaGreatDoor
open Go.RowKit Go.Shelf Go.ChangeMaps

theorem rw1_len (T : Nat → Nat → Nat) (n : Nat) (R : List (Nat × ByteArray)) (p : Nat × ByteArray) : ∀ k, R.length ≤ (rw1 T n R p k).length
  | 0 => Nat.le_refl _
  | k + 1 => by
    have ih := rw1_len T n R p k
    rw [rw1]
    split
    · exact ih
    · rw [List.length_append]
      omega
theorem drop_at {R : List (Nat × ByteArray)} {i : Nat} (h : i < R.length) : R.drop i = nth2 R i :: R.drop (i + 1) := by
  rw [nth2_at h]
  exact List.drop_eq_getElem_cons h
theorem drop_snoc {R : List (Nat × ByteArray)} {i : Nat} (h : i ≤ R.length) (p : Nat × ByteArray) : (R ++ [p]).drop i = R.drop i ++ [p] := by
  rw [List.drop_append_of_le_length h]
theorem row2_cons (enc : Nat × ByteArray → Value × Value) (p : Nat × ByteArray) (os : List (Nat × ByteArray)) : row2 enc (p :: os) = (enc p).1 :: (enc p).2 :: row2 enc os := by simp [row2]
theorem rs_len (T : Nat → Nat → Nat) (n L from0 : Nat) : ∀ i, 1 ≤ (rs T n L from0 i).length
  | 0 => Nat.le_refl _
  | i + 1 => by
    have ih := rs_len T n L from0 i
    rw [rs]
    split
    · exact Nat.le_trans ih (rw1_len _ _ _ _ _)
    · exact ih
theorem mark_snoc {R : List (Nat × ByteArray)} {f : Nat → Bool} {m : Nat} (t : ByteArray) (h : ∀ x, f x = hasG R x) : ∀ x, (decide (x = m) || f x) = hasG (R ++ [(m, t)]) x := fun x => by
  rw [hasG_snoc, h x, Bool.or_comm]
  show (hasG R x || decide (x = m)) = (hasG R x || decide (m = x))
  by_cases e : x = m
  · subst e; rfl
  · rw [decide_eq_false e, decide_eq_false (fun e2 => e e2.symm)]
theorem infoReached : (Tryz.prog.info? 66).map (fun i => (i.zero, i.size, i.bytes)) = some (some (.agg #[.string ByteArray.empty, .int .u16 0]), 2, 24) := by kernel_rfl
set_option maxHeartbeats 6400000 in
set_option maxRecDepth 100000 in
theorem impl_firstToOne (A : Option Addr) (ss : List ByteArray) (c : Nat) (A2 : Option Addr) (c2 from0 : Nat) (w : World) (h : RowTab w w.heap.size A2 ss) (h0 : 0 < (inB ss).length) (hn : (inB ss).length ≤ 11) (hf : from0 < 2 ^ (inB ss).length) :
    Calls Tryz.prog 18 #[rdV A (inB ss).length c A2 c2, .int .u16 from0] w fun e w' => e = .returned (.tuple #[.string (txOf (found (tr ss) (inB ss).length (ltrs ss) from0)), .bool (found (tr ss) (inB ss).length (ltrs ss) from0).isSome]) ∧ Below w.heap.size w w' := by
  have hT : ∀ i k, tr ss i k < (inB ss).length := fun i k => tr_lt h0 i k
  have hL3 : ltrs ss ≤ 3 := by rcases ltrs_two ss with e | e <;> omega
  have Hinv := Lib.hid (fun k => rs_inv (T := tr ss) (n := (inB ss).length) (L := ltrs ss) hT hL3 hf k)
  have Hfew := Lib.hid (fun k => (Hinv.out k).few hn)
  have Hp2 : 2 ^ (inB ss).length ≤ 2048 := Nat.pow_le_pow_right (n := 2) (by omega) hn
  have Hnx := Lib.hid (fun g k => nxt_lt hT k g)
  have HF : Hid (fnd (tr ss) (inB ss).length (ltrs ss) from0 4097 0 = found (tr ss) (inB ss).length (ltrs ss) from0) := rfl
  have HR0 : Hid (rs (tr ss) (inB ss).length (ltrs ss) from0 0 = [(from0, ⟨#[]⟩)]) := rfl
  have Htl := Lib.hid (fun i k => hT i k)
  have Hlt := Lib.hid (fun (u : World) (hB : Below w.heap.size w u) => rd_letters A ss c A2 c2 u ((h.below hB).more hB.size) h0)
  have Haf := Lib.hid (fun (g k : Nat) (hg : g < 2 ^ (inB ss).length) (hk : k < ltrs ss) (u : World) (hB : Below w.heap.size w u) => impl_afterLetter A ss c A2 c2 g k u ((h.below hB).more hB.size) h0 hn hg hk)
  have hmt := method_letters (.agg #[.slice A (inB ss).length c, .slice A2 (inB ss).length c2])
  obtain ⟨i0, hi, hz0, hz1, hz2⟩ := info_parts infoReached
  have HR := Lib.hid (And.intro hi (And.intro hz0 (And.intro hz1 hz2)))
  have hmm := @run_makeMap Tryz.prog
  generalize found (tr ss) (inB ss).length (ltrs ss) from0 = F at HF ⊢
  generalize tr ss = T at *
  generalize (inB ss).length = n at *
  generalize ltrs ss = L at *
  clear h hT hi hz0 hz1 hz2
  have hst := World.ownsRow_lit (base := w.heap.size) (e := 66) (size := 2) w #[.string ⟨#[]⟩, .int .u16 (from0 : Int)] 1 (Nat.le_refl _) (by unfold maxLen; omega) rfl
  have hst2 := Lib.hid (tail_own hst)
  clear hst
  go_enter Tryz.func18, Tryz.ntmps18
  go_wp2_with (refine wpList_insert_own _ rfl _ _ _ 68 rfl 43 4 (Maps.int_keyed Tryz.underlying43) Tryz.underlying68 _ (w.heap.size + 1) 0 (.map []) rfl (by have := World.ownsMap_made (w.alloc (.cells #[.string ⟨#[]⟩, .int .u16 (from0 : Int)] 66)) Tryz.prog 43 (plainElem (H := Unit) Tryz.prog 4); simpa using this) (by unfold maxLen; omega) (.int .u16 (from0 : Int)) (.bool true) (kG from0) rfl rfl (key_group (by omega)) (.lit (.bool true)) [] (plainElem_bool Tryz.underlying4 true) ?_)
  intro w1 hmap1 hg1
  have hS1 : SeenG w1 (w.heap.size + 1) 1 (fun x => decide (x = from0) || false) := SeenG.put (f := fun _ => false) (D := .map []) ⟨[], rfl⟩ (fun _ => rfl) from0 hmap1
  have hv1 : Hid (∀ m, (decide (m = from0) || false) = hasG [(from0, (⟨#[]⟩ : ByteArray))] m) := fun m => by
    unfold hasG
    simp only [List.any_cons, List.any_nil, Bool.or_false]
    by_cases e : m = from0
    · subst e; rfl
    · rw [decide_eq_false e, decide_eq_false (fun e2 => e e2.symm)]
  have hst3 := tail_kept (tail_alloc hst2.out (.map #[] 0)) hg1 (by simp [Value.ownBlock])
  have hB1 : Below w.heap.size w w1 := (((Below.refl w.heap.size w).alloc (Nat.le_refl _) (.cells #[.string ⟨#[]⟩, .int .u16 (from0 : Int)] 66)).alloc (by simp) (.map #[] 0)).grown hg1 (by simp; omega) (fun k hk => by injection hk with hk; omega)
  have H1 := Lib.hid (And.intro hst3 (And.intro hS1 hB1))
  clear hmap1 hg1 hS1 hst3 hB1 hst2 hmm
  generalize hmb : w.heap.size + 1 = mb at *
  have Hmb : Hid (w.heap.size + 1 = mb) := hmb
  clear hmb
  go_wp2_with fail
  go_loopg [6] 2049 (fun gk v wr => ∃ (i : Nat) (R Rest : List (Nat × ByteArray)) (f : Nat → Bool), i ≤ R.length ∧ Hid (i + gk = 2049) ∧ Hid (Rest = R.drop i) ∧ Hid (R = rs T n L from0 i) ∧ Hid (fnd T n L from0 (4097 - i) i = F) ∧ tailAt wr w.heap.size v Rest.length (row2 encI Rest) ∧ SeenG wr mb R.length f ∧ Hid (∀ m, f m = hasG R m) ∧ Below w.heap.size w wr ∧ Hid (v.ownBlock ≠ some mb))
  case atStart => exact ⟨0, [(from0, ⟨#[]⟩)], [(from0, ⟨#[]⟩)], _, by simp, rfl, rfl, HR0.out.symm, HF.out, H1.out.1, H1.out.2.1, hv1.out, H1.out.2.2, fun e => by have e2 : some w.heap.size = some mb := e; injection e2 with e2; have := Hmb.out; omega⟩
  case round =>
    clear H1 hv1 HF HR0
    obtain ⟨i, R, Rest, f, hi, hgk, hRest, hR, hF, ht, hS, hf, hB, hne⟩ := hrel
    have hfew := Hfew.out i
    have hinv := Hinv.out i
    rw [← hR.out] at hfew hinv
    have hbm := hS.lt
    have hO := Lib.hid (And.intro ht (And.intro hS (And.intro hf.out hB)))
    clear ht hS hf hB
    by_cases hlt : i < R.length
    · have hdr := hRest.out
      rw [drop_at hlt] at hdr
      have hpm : nth2 R i ∈ R := by rw [nth2_at hlt]; exact List.getElem_mem hlt
      have hg := hinv.lt _ hpm
      have hs := hinv.size _ hpm
      have hlr : i < (rs T n L from0 i).length := by rw [← hR.out]; exact hlt
      have hnx : rs T n L from0 (i + 1) = rw1 T n R (nth2 R i) L := by rw [rs_next hlr, ← hR.out]
      have hHit : oneB (nth2 R i).1 = true → F = some (nth2 R i).2 := fun e => by
        rw [hR.out] at e ⊢
        rw [← hF.out, show 4097 - i = 4096 - i + 1 by omega, fnd_hit hlr e]
      have hNx : oneB (nth2 R i).1 = false → fnd T n L from0 (4097 - (i + 1)) (i + 1) = F := fun e => by
        rw [hR.out] at e
        rw [← hF.out, show 4097 - i = 4096 - i + 1 by omega, fnd_next hlr e, show 4097 - (i + 1) = 4096 - i by omega]
      have Hrw := Lib.hid (fun kk (hkk : kk ≤ 3) => RInv.row Htl.out hinv.more hs kk hkk)
      have Hrl := Lib.hid (fun kk => Nat.le_trans hlt (rw1_len T n R (nth2 R i) kk))
      generalize nth2 R i = p at *
      obtain ⟨g, s⟩ := p
      simp only at hg hs hHit hNx
      obtain ⟨gq, off, cap, rfl, hq1, hq2, hq3⟩ := tail_sl hO.out.1
      have htl := hO.out.1
      rw [hdr, row2_cons, List.length_cons] at htl
      rw [hdr, List.length_cons] at hne hq2 ⊢
      obtain ⟨ht2, p1', p2'⟩ := tail_drop htl
      have p1 : wr.cell? ⟨gq, off, none⟩ = some (.string s) := p1'
      have p2 : wr.cell? ⟨gq, off + 1, none⟩ = some (.int .u16 (g : Int)) := p2'
      clear p1' p2'
      have hO2 := Lib.hid hO.out.2
      have hnb : Hid (gq ≠ mb) := fun e => hne.out (by subst e; rfl)
      replace hnx := Lib.hid hnx
      have hone := Lib.hid (fun u => impl_isOne g u (by omega))
      clear hpm hlr hinv hF hO htl hRest hdr hne
      have hln : (R.drop (i + 1)).length ≤ 2048 := by rw [List.length_drop]; omega
      generalize hQ : R.drop (i + 1) = Q0 at *
      have HQ : Hid (R.drop (i + 1) = Q0) := hQ
      clear hQ
      cases hob : oneB g
      · have hF := Lib.hid (hNx hob)
        rw [hob] at hone
        clear hob hHit hNx
        generalize wr = wk at *
        by_cases hc1 : cap = 1
        case' pos =>
          subst hc1
          have ht3 : tailAt wk w.heap.size (.slice (some ⟨gq, off, none⟩) Q0.length 0) Q0.length (row2 encI Q0) := ⟨row2_length _, gq, off, 0, rfl, hq1, by omega, hq3, fun j u hu => by
            have := (List.getElem?_eq_some_iff.1 hu).1
            rw [row2_length] at this
            omega, fun j hj => absurd hj (by omega)⟩
          rw [show (Value.slice (some ⟨gq, off, none⟩) Q0.length 0) = .slice (some ⟨gq, off, none⟩) 0 0 by rw [show Q0.length = 0 by omega]] at ht3
          replace ht3 := Lib.hid ht3
          have hvb : Hid (∀ k, (Value.slice (some ⟨gq, off, none⟩) 0 0).ownBlock = some k → k = gq) := fun k hk => by have e : some gq = some k := hk; injection e with e; exact e.symm
          go_wp2_with fail
          generalize (Value.slice (some ⟨gq, off, none⟩) 0 0) = v2 at ht3 hvb ⊢
        case' neg =>
          have ht3 := Lib.hid ht2
          have hvb : Hid (∀ k, (Value.slice (some ⟨gq, off + 2, none⟩) Q0.length (cap - 1)).ownBlock = some k → k = gq) := fun k hk => by have e : some gq = some k := hk; injection e with e; exact e.symm
          clear ht2
          go_wp2_with fail
          generalize (Value.slice (some ⟨gq, off + 2, none⟩) Q0.length (cap - 1)) = v2 at ht3 hvb ⊢
        all_goals
          refine (hone.out _).mono ?_
          rintro e w2 ⟨rfl, hB2⟩
          have hBk := Lib.hid (((Below.refl wk.heap.size wk).alloc (Nat.le_refl _) (.cells #[.string s, .int .u16 (g : Int)] 66)).trans (hB2.mono (by simp)))
          have z0 : w2.cell? ⟨wk.heap.size, 0, none⟩ = some (.string s) := (hB2.cell (p := ⟨wk.heap.size, 0, none⟩) (by simp)).trans (by rw [World.cell?_alloc_at _ _ _ _ rfl]; rfl)
          have z1 : w2.cell? ⟨wk.heap.size, 1, none⟩ = some (.int .u16 (g : Int)) := (hB2.cell (p := ⟨wk.heap.size, 1, none⟩) (by simp)).trans (by rw [World.cell?_alloc_at _ _ _ _ rfl]; rfl)
          have hO3 := Lib.hid (And.intro (tail_below ht3.out hBk.out) (And.intro (hO2.out.1.below hBk.out) (And.intro hO2.out.2.1 (And.intro (hO2.out.2.2.trans (hBk.out.mono hO2.out.2.2.size)) (And.intro z0 z1)))))
          have hlc := Lib.hid (Hlt.out w2 hO3.out.2.2.2.1)
          have hvp : Hid (v2.ownBlock ≠ some wk.heap.size) := fun e => by have := hvb.out _ e; omega
          have hvm : Hid (v2.ownBlock ≠ some mb) := fun e => hnb.out (hvb.out _ e).symm
          clear hB2 hBk z0 z1 hO2 p1 p2 hone hvb hnb ht3
          go_wp2_with fail
          refine hlc.out.mono ?_
          rintro e w3 ⟨rfl, hB3⟩
          have z0 := (hB3.cell (p := ⟨wk.heap.size, 0, none⟩) (World.block_lt_of_cell? _ _ hO3.out.2.2.2.2.1)).trans hO3.out.2.2.2.2.1
          have z1 := (hB3.cell (p := ⟨wk.heap.size, 1, none⟩) (World.block_lt_of_cell? _ _ hO3.out.2.2.2.2.2)).trans hO3.out.2.2.2.2.2
          have hO4 := Lib.hid (And.intro (tail_below hO3.out.1 hB3) (And.intro (hO3.out.2.1.below hB3) (And.intro hO3.out.2.2.1 (And.intro (hO3.out.2.2.2.1.trans (hB3.mono hO3.out.2.2.2.1.size)) (And.intro z0 z1)))))
          clear hB3 z0 z1 hO3 hlc Hlt hmt
          go_wp2_with fail
          go_loopw [6, 32] (fun v iv wr => ∃ (kk : Nat) (R' Q' : List (Nat × ByteArray)) (f' : Nat → Bool), kk ≤ L ∧ iv = .int .i64 kk ∧ Hid (R' = rw1 T n R (g, s) kk) ∧ Hid (Q' = R'.drop (i + 1)) ∧ Hid (v.ownBlock ≠ some wk.heap.size) ∧ Hid (v.ownBlock ≠ some mb) ∧ tailAt wr w.heap.size v Q'.length (row2 encI Q') ∧ SeenG wr mb R'.length f' ∧ Hid (∀ m, f' m = hasG R' m) ∧ Below w.heap.size w wr ∧ wr.cell? ⟨wk.heap.size, 0, none⟩ = some (.string s) ∧ wr.cell? ⟨wk.heap.size, 1, none⟩ = some (.int .u16 (g : Int)))
            (fun _ iv _ => L - (intOf iv).toNat)
          case atStart => exact ⟨0, R, Q0, f, Nat.zero_le _, rfl, rfl, HQ.out.symm, hvp.out, hvm.out, hO4.out.1, hO4.out.2.1, hO4.out.2.2.1, hO4.out.2.2.2⟩
          case round =>
            clear hO4 hvp hvm HQ
            obtain ⟨kk, R', Q', f', hkk, rfl, hR', hQ', hvp, hvm, ht, hS, hf', hB, z0, z1⟩ := hrel
            have hinv' := Hrw.out kk (by omega)
            have hl' := Hrl.out kk
            rw [← hR'.out] at hinv' hl'
            have hfew' := hinv'.few hn
            have hPw := World.block_lt_of_cell? _ _ z0
            have hO := Lib.hid (And.intro ht (And.intro hS (And.intro hf'.out (And.intro hB (And.intro z0 z1)))))
            clear ht hS hf' hB z0 hinv'
            by_cases hlk : kk < L
            · have hlk' : (kk : Int) < (L : Int) := by omega
              have hk3 : (kk : Int) < 3 := by omega
              have hk31 : (kk : Int) + 1 ≤ 3 := by omega
              have hk3' : kk < 3 := by omega
              have hcall := Lib.hid (Haf.out g kk hg hlk wr hO.out.2.2.2.1)
              have Hyes := Lib.hid (fun e => rw1_yes (T := T) (n := n) (R := R) (p := (g, s)) (k := kk) e)
              have Hno := Lib.hid (fun e => rw1_no (T := T) (n := n) (R := R) (p := (g, s)) (k := kk) e)
              rw [← hR'.out] at Hyes Hno
              have hmlt := Hnx.out g kk
              simp only at Hyes Hno
              generalize nxt T n kk g = m at hcall Hyes Hno hmlt
              go_wp2_with fail
              refine hcall.out.mono ?_
              rintro e w4 ⟨rfl, hB4⟩
              have hB4' := hO.out.2.2.2.1.trans (hB4.mono hO.out.2.2.2.1.size)
              have y0 := (hB4.cell (p := ⟨wk.heap.size, 0, none⟩) hPw).trans hO.out.2.2.2.2.1
              have y1 := (hB4.cell (p := ⟨wk.heap.size, 1, none⟩) hPw).trans hO.out.2.2.2.2.2
              have hO5 := Lib.hid (And.intro (tail_below hO.out.1 hB4) (And.intro (hO.out.2.1.below hB4) (And.intro hO.out.2.2.1 (And.intro hB4' (And.intro y0 y1)))))
              have hlook := seenG_look hO5.out.2.1 m (by omega)
              clear hB4 hB4' y0 y1 hO hcall z1
              cases hm : f' m
              · rw [hm] at hlook
                have hN := Lib.hid (Hno.out ((hO5.out.2.2.1 m).symm.trans hm))
                obtain ⟨D, hM1, hM2, hM3⟩ := hO5.out.2.1
                have HM := Lib.hid (And.intro hM1 (And.intro hM2 hM3))
                clear hm Hno Hyes hM1 hM2 hM3
                go_wp2_with (at_mapUpdate; refine wpList_mapUpdate_own _ rfl _ _ _ 68 rfl 43 4 (Maps.int_keyed Tryz.underlying43) Tryz.underlying68 _ mb R'.length D rfl HM.out.1 (by unfold maxLen; omega) (.int .u16 (m : Int)) (.bool true) (kG m) rfl rfl (key_group (by omega)) (.lit (.bool true)) [] (plainElem_bool Tryz.underlying4 true) ?_)
                intro w5 hmap5 hg5
                have hS5 : SeenG w5 mb (R'.length + 1) (fun x => decide (x = m) || f' x) := SeenG.put HM.out.2.1 HM.out.2.2 m hmap5
                have hmk := mark_snoc (m := m) (kid s kk) hO5.out.2.2.1
                have ht5 := tail_kept hO5.out.1 hg5 hvm.out
                have hmb2 := Hmb.out
                have hB5 := hO5.out.2.2.2.1.grown hg5 hO5.out.2.2.2.1.size (fun k hk => by injection hk with hk; omega)
                have z0 := hg5.cell hO5.out.2.2.2.2.1 (fun e => by have e2 : some wk.heap.size = some mb := e; injection e2; omega)
                have z1 := hg5.cell hO5.out.2.2.2.2.2 (fun e => by have e2 : some wk.heap.size = some mb := e; injection e2; omega)
                have hPz := World.block_lt_of_cell? _ _ z0
                have hO6 := Lib.hid (And.intro ht5 (And.intro hS5 (And.intro hmk (And.intro hB5 (And.intro z0 z1)))))
                have hkd : kid s kk = s ++ (⟨#[97, 98, 99]⟩ : ByteArray).extract kk (kk + 1) := rfl
                have hez : ((⟨#[97, 98, 99]⟩ : ByteArray).extract kk (kk + 1)).size ≤ 1 := by
                  rw [ByteArray.size_extract]
                  omega
                rw [hkd] at hN hO6
                have hA1 : (s.size : Int) ≤ 8388608 := by omega
                have hA2 : (((⟨#[97, 98, 99]⟩ : ByteArray).extract kk (kk + 1)).size : Int) ≤ 8388608 := by omega
                have hA3 : ¬ (9223372036854775807 < s.size + ((⟨#[97, 98, 99]⟩ : ByteArray).extract kk (kk + 1)).size) := by omega
                have hA4 : s.size + ((⟨#[97, 98, 99]⟩ : ByteArray).extract kk (kk + 1)).size ≤ 9223372036854775807 := by omega
                have hta := Lib.hid (tail_alloc hO6.out.1 (.cells #[.string (s ++ (⟨#[97, 98, 99]⟩ : ByteArray).extract kk (kk + 1)), .int .u16 (m : Int)] 66))
                have hBa := Lib.hid (hO6.out.2.2.2.1.alloc hO6.out.2.2.2.1.size (.cells #[.string (s ++ (⟨#[97, 98, 99]⟩ : ByteArray).extract kk (kk + 1)), .int .u16 (m : Int)] 66))
                have hSa := Lib.hid (hO6.out.2.1.alloc (.cells #[.string (s ++ (⟨#[97, 98, 99]⟩ : ByteArray).extract kk (kk + 1)), .int .u16 (m : Int)] 66))
                have hwr : IntKind.i64.wrap ((kk : Int) + 1) = (kk : Int) + 1 := IntWalk.i64_in _ (by omega)
                have hkn : ((kk : Int) + 1).toNat = kk + 1 := by omega
                have hk0 : (0 : Int) ≤ (kk : Int) + 1 := by omega
                have hkk1 : (kk : Int) ≤ (kk : Int) + 1 := by omega
                have hql : Q'.length ≤ 2048 := by rw [hQ'.out, List.length_drop]; omega
                obtain ⟨gz, offz, capz, rfl, hz1, hz2, hz3⟩ := tail_sl hO6.out.1
                clear hez hkd hmap5 hg5 hS5 hmk ht5 hB5 HM hO5 hlook
                go_wp2_with fail
                go_region_held_law (fun w' => w'.cell? ⟨wk.heap.size, 0, none⟩ = some (.string s) ∧ w'.cell? ⟨wk.heap.size, 1, none⟩ = some (.int .u16 (g : Int))) (go_keep)
                  (first | (refine step_append_tail _ rfl (.tmp 46) (.tmp 56) 67 rfl w.heap.size 66 i0 _ 24 Tryz.underlying67 HR.out.1 HR.out.2.1 HR.out.2.2.1 HR.out.2.2.2 rfl (.slice (some ⟨gz, offz, none⟩) Q'.length capz) Q'.length (row2 encI Q') (by simp [Act.eval]) hta.out ⟨w5.heap.size, 0, none⟩ 1 [.string (s ++ (⟨#[97, 98, 99]⟩ : ByteArray).extract kk (kk + 1)), .int .u16 (m : Int)] (by simp [Act.eval]) rfl (cells_two _ _ _ _) (one_two rfl rfl) (by unfold maxLen; omega) (by omega) (Nat.le_trans hO6.out.2.2.2.1.size (by simp)) (fun v6 w6 ho6 hg6 hv6 => ?_); have e0 := cell_grown (w := w5.drew) hg6 hvp.out hPz 0 _ hO6.out.2.2.2.2.1; have e1 := cell_grown (w := w5.drew) hg6 hvp.out hPz 1 _ hO6.out.2.2.2.2.2))
                have hB6 := hBa.out.drew.grown hg6 hBa.out.size (fun k hk => by have e : some gz = some k := hk; injection e; omega)
                have hS6 : SeenG w6 mb (R'.length + 1) (fun x => decide (x = m) || f' x) := (show SeenG ((w5.alloc _).drew) mb (R'.length + 1) _ from hSa.out).kept hg6 (fun e => hvm.out e.symm)
                have ht6 : tailAt w6 w.heap.size v6 (Q' ++ [(m, s ++ (⟨#[97, 98, 99]⟩ : ByteArray).extract kk (kk + 1))]).length (row2 encI (Q' ++ [(m, s ++ (⟨#[97, 98, 99]⟩ : ByteArray).extract kk (kk + 1))])) := by
                  rw [← row2_snoc, List.length_append]
                  exact ho6
                have hnp : Hid (v6.ownBlock ≠ some wk.heap.size) := fun e => by
                  rcases hv6 with e2 | e2
                  · exact hvp.out (e2.symm.trans e)
                  · have e3 := e2 _ e
                    simp at e3
                    omega
                have hnm : Hid (v6.ownBlock ≠ some mb) := fun e => by
                  rcases hv6 with e2 | e2
                  · exact hvm.out (e2.symm.trans e)
                  · have e3 := e2 _ e
                    simp at e3
                    omega
                have hQ6 : Hid (Q' ++ [(m, s ++ (⟨#[97, 98, 99]⟩ : ByteArray).extract kk (kk + 1))] = (R' ++ [(m, s ++ (⟨#[97, 98, 99]⟩ : ByteArray).extract kk (kk + 1))]).drop (i + 1)) := by
                  show _ = _
                  rw [drop_snoc hl', ← hQ'.out]
                have hR6 : (R' ++ [(m, s ++ (⟨#[97, 98, 99]⟩ : ByteArray).extract kk (kk + 1))]).length = R'.length + 1 := by simp
                rw [← hR6] at hS6
                have H7 := Lib.hid (And.intro hnp (And.intro hnm (And.intro ht6 (And.intro hS6 (And.intro hO6.out.2.2.1 (And.intro hB6 (And.intro e0 e1)))))))
                clear hB6 hS6 ht6 hnp hnm ho6 hg6 hv6 e0 e1 hta hBa hSa hO6 z0 z1 hvp hvm hR6
                go_wp2
                go_roundw
                case rel => exact ⟨kk + 1, _, _, _, by omega, by go_num, hN.out.symm, hQ6.out, H7.out⟩
                case measure => simp [intOf]; omega
              · rw [hm] at hlook
                have hN := Lib.hid (Hyes.out ((hO5.out.2.2.1 m).symm.trans hm))
                clear hm Hno Hyes
                go_wp2_with fail
                go_roundw
                case rel => exact ⟨kk + 1, R', Q', f', by omega, by go_num, hN.out.symm, hQ'.out, hvp.out, hvm.out, hO5.out⟩
                case measure => simp [intOf]; omega
            · obtain rfl : kk = L := by omega
              have hN : Hid (R' = rs T n kk from0 (i + 1)) := by show _ = _; rw [hR'.out, hnx.out]
              have hgk2 := hgk.out
              clear z1
              go_wp2_with fail
              go_roundg (gk - 1)
              case measure => omega
              case rel => exact ⟨i + 1, R', Q', f', hl', by show _ = _; omega, hQ'.out, hN.out, hF.out, hO.out.1, hO.out.2.1, hO.out.2.2.1, hO.out.2.2.2.1, hvm.out⟩
      · have hFs := hHit hob
        rw [hob] at hone
        subst hFs
        clear hob hHit hNx ht2
        by_cases hc1 : cap = 1
        case' pos =>
          subst hc1
          go_wp2_with fail
        case' neg =>
          go_wp2_with fail
        all_goals
          refine (hone.out _).mono ?_
          rintro e w2 ⟨rfl, hB2⟩
          have z0 : w2.cell? ⟨wr.heap.size, 0, none⟩ = some (.string s) := (hB2.cell (p := ⟨wr.heap.size, 0, none⟩) (by simp)).trans (by rw [World.cell?_alloc_at _ _ _ _ rfl]; rfl)
          have hBf := Lib.hid (hO2.out.2.2.trans ((((Below.refl wr.heap.size wr).alloc (Nat.le_refl _) (.cells #[.string s, .int .u16 (g : Int)] 66)).trans (hB2.mono (by simp))).mono hO2.out.2.2.size))
          clear hB2
          go_wp2_with fail
          go_ret2
          exact ⟨rfl, hBf.out⟩
    · have hend : fnd T n L from0 (4097 - i) i = none := fnd_end (by rw [← hR.out]; exact hlt)
      have hFn : F = none := hF.out.symm.trans hend
      subst hFn
      have he : Rest = [] := by rw [hRest.out]; exact List.drop_eq_nil_of_le (by omega)
      subst he
      obtain ⟨gq, off, cap, rfl, hq1, hq2, hq3⟩ := tail_sl hO.out.1
      clear hend hinv
      go_wp2_with fail
      go_ret2
      exact ⟨rfl, hO.out.2.2.2⟩
end Go.Proofs.YtlapmjligdjniaaGreatDoor

namespace Go.Proofs.YtlapmjligdjniaaGreatDoor
open Go.RowKit Go.Shelf

theorem st_bnd {ss : List ByteArray} (h : stOk ss = true) : 0 < (inB ss).length ∧ (inB ss).length ≤ 11 := by
  have h1 := inB_few h
  have h2 := W.isSet_len ss (stOk_parts h).1
  omega
/-- a group of two that lie in a row of their own -/
theorem groupOf_two (b i j : Nat) (w : World) (h0 : w.cell? ⟨b, 0, none⟩ = some (.int .i64 (i : Int))) (h1 : w.cell? ⟨b, 1, none⟩ = some (.int .i64 (j : Int))) (hi : i < 12) (hj : j < 12) :
    Calls Tryz.prog 22 #[.slice (some ⟨b, 0, none⟩) 2 2] w fun e w' => e = .returned (.int .u16 ((2 ^ i ||| 2 ^ j : Nat) : Int)) ∧ w = w' := by
  have hb : b < w.heap.size := World.block_lt_of_cell? _ _ h0
  have h := groupOf_any (some ⟨b, 0, none⟩) [i, j] 2 w (fun _ => ⟨b, 0, rfl, hb, fun k u hu => by
    have hk : k < 2 := by have := (List.getElem?_eq_some_iff.1 hu).1; simpa [intsN, ints] using this
    rcases (by omega : k = 0 ∨ k = 1) with rfl | rfl
    · simp [intsN, ints] at hu
      subst hu
      exact h0
    · simp [intsN, ints] at hu
      subst hu
      exact h1⟩) (by simp) (fun x hx => by simp at hx; omega)
  have e : orG [i, j] id = 2 ^ i ||| 2 ^ j := by
    show (0 ||| 2 ^ i) ||| 2 ^ j = _
    rw [Nat.zero_or]
  rw [e] at h
  exact h
set_option maxHeartbeats 1600000 in
theorem impl_ShortestStepWord (A : Option Addr) (ss : List ByteArray) (c : Nat) (w : World) (h : Row w w.heap.size A (strs ss)) (hcap : ss.length ≤ c) (hl : ss.length ≤ 9223372036854775807) (hs : ∀ s ∈ ss, s.size ≤ 9223372036854775807) :
    Calls Tryz.prog 9 #[.slice A ss.length c] w fun e w' => e = .returned (.tuple #[.string (txOf (ssO ss)), .bool (ssO ss).isSome]) ∧ Below w.heap.size w w' := by
  cases hq : stOk ss
  · rw [ssO_no hq]
    have hr := Lib.hid (readerOf_no A ss c w h hcap hl hs hq)
    clear h hs hq
    go_enter Tryz.func9, Tryz.ntmps9
    go_wp2_with fail
    refine hr.out.mono ?_
    rintro e w1 ⟨rfl, hB⟩
    go_wp2_with fail
    go_ret2
    exact ⟨rfl, hB⟩
  · rw [ssO_yes hq]
    have hr := Lib.hid (readerOf_yes A ss c w h hcap hl hs hq)
    obtain ⟨hn0, hn11⟩ := st_bnd hq
    have hp1 : 0 < 2 ^ (inB ss).length := Nat.two_pow_pos _
    have hrun := Lib.hid (fun (A1 : Option Addr) (c1 : Nat) (A2 : Option Addr) (c2 : Nat) (u : World) (g : RowTab u u.heap.size A2 ss) => impl_firstToOne A1 ss c1 A2 c2 (2 ^ (inB ss).length - 1) u g hn0 hn11 (by omega))
    have Hst := Lib.hid (fun (A1 : Option Addr) (c1 : Nat) (A2 : Option Addr) (c2 : Nat) (u : World) => impl_allStates A1 (inB ss).length c1 A2 c2 u hn11)
    generalize found (tr ss) (inB ss).length (ltrs ss) (2 ^ (inB ss).length - 1) = F at hrun ⊢
    generalize 2 ^ (inB ss).length - 1 = m at hrun Hst
    clear h hs hq hp1
    go_enter Tryz.func9, Tryz.ntmps9
    go_wp2_with fail
    refine hr.out.mono ?_
    rintro e w1 ⟨A1, c1, A2, c2, rfl, ho, hT, hB⟩
    have HB := Lib.hid hB
    have HT := Lib.hid hT
    have hs1 := Lib.hid (Hst.out A1 c1 A2 c2 w1)
    clear ho hT hB
    go_wp2_with fail
    refine hs1.out.mono ?_
    rintro e w2 ⟨rfl, hB2⟩
    have hr1 := Lib.hid (hrun.out A1 c1 A2 c2 w2 ((HT.out.below hB2).more hB2.size))
    have HB2 := Lib.hid (HB.out.trans (hB2.mono HB.out.size))
    clear hB2
    go_wp2_with fail
    refine hr1.out.mono ?_
    rintro e w3 ⟨rfl, hB3⟩
    go_wp2_with fail
    go_ret2
    exact ⟨rfl, HB2.out.trans (hB3.mono HB2.out.size)⟩
set_option maxRecDepth 100000 in
set_option maxHeartbeats 3200000 in
theorem impl_MeetingWord (A : Option Addr) (ss : List ByteArray) (c : Nat) (i j : Int) (w : World) (h : Row w w.heap.size A (strs ss)) (hcap : ss.length ≤ c) (hl : ss.length ≤ 9223372036854775807) (hs : ∀ s ∈ ss, s.size ≤ 9223372036854775807) :
    Calls Tryz.prog 12 #[.slice A ss.length c, .int .i64 i, .int .i64 j] w fun e w' => e = .returned (.tuple #[.string (txOf (mwO ss i j)), .bool (mwO ss i j).isSome]) ∧ Below w.heap.size w w' := by
  cases hq : stOk ss
  · rw [mwO_no (show mwOk ss i j = false by unfold mwOk; rw [hq]; rfl)]
    have hr := Lib.hid (readerOf_no A ss c w h hcap hl hs hq)
    clear h hs hq
    go_enter Tryz.func12, Tryz.ntmps12
    go_wp2_with fail
    refine hr.out.mono ?_
    rintro e w1 ⟨rfl, hB⟩
    go_wp2_with fail
    go_ret2
    exact ⟨rfl, hB⟩
  · have hr := Lib.hid (readerOf_yes A ss c w h hcap hl hs hq)
    obtain ⟨hn0, hn11⟩ := st_bnd hq
    have Hi := Lib.hid (fun (A1 : Option Addr) (c1 : Nat) (A2 : Option Addr) (c2 : Nat) (u : World) => impl_isState A1 (inB ss).length c1 A2 c2 i u hn11)
    have Hj := Lib.hid (fun (A1 : Option Addr) (c1 : Nat) (A2 : Option Addr) (c2 : Nat) (u : World) => impl_isState A1 (inB ss).length c1 A2 c2 j u hn11)
    by_cases hi : 0 ≤ i ∧ i < (inB ss).length
    · rw [decide_eq_true hi] at Hi
      by_cases hj : 0 ≤ j ∧ j < (inB ss).length
      · rw [decide_eq_true hj] at Hj
        obtain ⟨p, rfl⟩ := Int.eq_ofNat_of_zero_le hi.1
        obtain ⟨q, rfl⟩ := Int.eq_ofNat_of_zero_le hj.1
        rw [mwO_yes (show mwOk ss (p : Int) (q : Int) = true by unfold mwOk; rw [hq, decide_eq_true hi, decide_eq_true hj]; rfl)]
        have hpn : p < (inB ss).length := by omega
        have hqn : q < (inB ss).length := by omega
        have hrun := Lib.hid (fun (A1 : Option Addr) (c1 : Nat) (A2 : Option Addr) (c2 : Nat) (u : World) (g : RowTab u u.heap.size A2 ss) => impl_firstToOne A1 ss c1 A2 c2 (2 ^ p ||| 2 ^ q) u g hn0 hn11 (pair_lt hpn hqn))
        have Hg2 := Lib.hid (fun b u h0 h1 => groupOf_two b p q u h0 h1 (by omega) (by omega))
        generalize found (tr ss) (inB ss).length (ltrs ss) (2 ^ p ||| 2 ^ q) = F at hrun ⊢
        generalize 2 ^ p ||| 2 ^ q = m at hrun Hg2
        clear h hs hq hi hj
        go_enter Tryz.func12, Tryz.ntmps12
        go_wp2_with fail
        refine hr.out.mono ?_
        rintro e w1 ⟨A1, c1, A2, c2, rfl, ho, hT, hB⟩
        have HB := Lib.hid hB
        have HT := Lib.hid hT
        have hs1 := Lib.hid (Hi.out A1 c1 A2 c2 w1)
        clear ho hT hB
        go_wp2_with fail
        refine hs1.out.mono ?_
        rintro e w2 ⟨rfl, hB2⟩
        have hs2 := Lib.hid (Hj.out A1 c1 A2 c2 w2)
        have HB2 := Lib.hid (HB.out.trans (hB2.mono HB.out.size))
        have HT2 := Lib.hid ((HT.out.below hB2).more hB2.size)
        clear hB2 HT HB
        go_wp2_with fail
        refine hs2.out.mono ?_
        rintro e w3 ⟨rfl, hB3⟩
        have hBa := (Below.refl w3.heap.size w3).alloc (Nat.le_refl _) (.cells #[.int .i64 (p : Int), .int .i64 (q : Int)] 3)
        have hB4 := hB3.trans (hBa.mono hB3.size)
        have hg1 := Lib.hid (Hg2.out w3.heap.size (w3.alloc (.cells #[.int .i64 (p : Int), .int .i64 (q : Int)] 3)) (by rw [World.cell?_alloc_at _ _ _ _ rfl]; rfl) (by rw [World.cell?_alloc_at _ _ _ _ rfl]; rfl))
        have hr1 := Lib.hid (hrun.out A1 c1 A2 c2 _ ((HT2.out.below hB4).more hB4.size))
        have HB4 := Lib.hid (HB2.out.trans (hB4.mono HB2.out.size))
        clear hB3 hBa hB4
        go_wp2_with fail
        refine hg1.out.mono ?_
        rintro e w5 ⟨rfl, rfl⟩
        go_wp2_with fail
        refine hr1.out.mono ?_
        rintro e w6 ⟨rfl, hB6⟩
        go_wp2_with fail
        go_ret2
        exact ⟨rfl, HB4.out.trans (hB6.mono HB4.out.size)⟩
      · rw [mwO_no (show mwOk ss i j = false by unfold mwOk; rw [decide_eq_false hj]; simp)]
        rw [decide_eq_false hj] at Hj
        clear h hs hq hi hj
        go_enter Tryz.func12, Tryz.ntmps12
        go_wp2_with fail
        refine hr.out.mono ?_
        rintro e w1 ⟨A1, c1, A2, c2, rfl, ho, hT, hB⟩
        have HB := Lib.hid hB
        have hs1 := Lib.hid (Hi.out A1 c1 A2 c2 w1)
        clear ho hT hB
        go_wp2_with fail
        refine hs1.out.mono ?_
        rintro e w2 ⟨rfl, hB2⟩
        have hs2 := Lib.hid (Hj.out A1 c1 A2 c2 w2)
        have HB2 := Lib.hid (HB.out.trans (hB2.mono HB.out.size))
        clear hB2 HB
        go_wp2_with fail
        refine hs2.out.mono ?_
        rintro e w3 ⟨rfl, hB3⟩
        go_wp2_with fail
        go_ret2
        exact ⟨rfl, HB2.out.trans (hB3.mono HB2.out.size)⟩
    · rw [mwO_no (show mwOk ss i j = false by unfold mwOk; rw [decide_eq_false hi]; simp)]
      rw [decide_eq_false hi] at Hi
      clear h hs hq hi
      go_enter Tryz.func12, Tryz.ntmps12
      go_wp2_with fail
      refine hr.out.mono ?_
      rintro e w1 ⟨A1, c1, A2, c2, rfl, ho, hT, hB⟩
      have HB := Lib.hid hB
      have hs1 := Lib.hid (Hi.out A1 c1 A2 c2 w1)
      clear ho hT hB
      go_wp2_with fail
      refine hs1.out.mono ?_
      rintro e w2 ⟨rfl, hB2⟩
      go_wp2_with fail
      go_ret2
      exact ⟨rfl, HB.out.trans (hB2.mono HB.out.size)⟩
set_option maxRecDepth 100000 in
set_option maxHeartbeats 3200000 in
theorem impl_CanBeInStep (A : Option Addr) (ss : List ByteArray) (c : Nat) (w : World) (h : Row w w.heap.size A (strs ss)) (hcap : ss.length ≤ c) (hl : ss.length ≤ 9223372036854775807) (hs : ∀ s ∈ ss, s.size ≤ 9223372036854775807) :
    Calls Tryz.prog 14 #[.slice A ss.length c] w fun e w' => e = .returned (.tuple #[.bool (ciOf ss), .bool (stOk ss)]) ∧ Below w.heap.size w w' := by
  cases hq : stOk ss
  · rw [ciOf_no hq]
    have hr := Lib.hid (readerOf_no A ss c w h hcap hl hs hq)
    clear h hs hq
    go_enter Tryz.func14, Tryz.ntmps14
    go_wp2_with fail
    refine hr.out.mono ?_
    rintro e w1 ⟨rfl, hB⟩
    go_wp2_with fail
    go_ret2
    exact ⟨rfl, hB⟩
  · rw [ciOf_yes hq]
    obtain ⟨Rv, hRv⟩ : ∃ x, x = allB ss (inB ss).length := ⟨_, rfl⟩
    rw [← hRv]
    replace hRv := Lib.hid hRv
    have hr := Lib.hid (readerOf_yes A ss c w h hcap hl hs hq)
    obtain ⟨hn0, hn11⟩ := st_bnd hq
    have hrun := Lib.hid (fun (A1 : Option Addr) (c1 : Nat) (A2 : Option Addr) (c2 p q : Nat) (hp : p < (inB ss).length) (hq : q < (inB ss).length) (u : World) (g : RowTab u u.heap.size A2 ss) => (show Calls Tryz.prog 18 #[rdV A1 (inB ss).length c1 A2 c2, .int .u16 ((2 ^ q ||| 2 ^ p : Nat) : Int)] u fun e w' => ∃ t, e = .returned (.tuple #[.string t, .bool (meetB ss p q)]) ∧ Below u.heap.size u w' from by
      rw [Nat.or_comm]
      exact (impl_firstToOne A1 ss c1 A2 c2 (2 ^ p ||| 2 ^ q) u g hn0 hn11 (pair_lt hp hq)).mono fun e w' h => ⟨_, h⟩))
    have Hg2 := Lib.hid (fun b p q (hp : p < (inB ss).length) (hq : q < (inB ss).length) u h0 h1 => groupOf_two b q p u h0 h1 (by omega) (by omega))
    have Hst := Lib.hid (fun (A1 : Option Addr) (c1 : Nat) (A2 : Option Addr) (c2 : Nat) (u : World) => rd_states A1 (inB ss).length c1 A2 c2 u)
    have Hmt := Lib.hid (fun (A1 : Option Addr) (c1 : Nat) (A2 : Option Addr) (c2 : Nat) => method_states (.agg #[.slice A1 (inB ss).length c1, .slice A2 (inB ss).length c2]))
    have Hr0 : Hid (∀ i, rowB ss i 0 = true) := fun _ => rfl
    have Ha0 : Hid (allB ss 0 = true) := rfl
    have Hrs := Lib.hid (rowB_succ ss)
    have Has := Lib.hid (allB_succ ss)
    have Hrn := Lib.hid (rowB_no ss)
    have Han := Lib.hid (allB_no ss)
    clear h hs hq
    go_enter Tryz.func14, Tryz.ntmps14
    go_wp2_with fail
    refine hr.out.mono ?_
    rintro e w0 ⟨A1, c1, A2, c2, rfl, ho, hT, hB⟩
    have hs1 := Lib.hid (Hst.out A1 c1 A2 c2 w0)
    have hmt := Hmt.out A1 c1 A2 c2
    have HB0 := Lib.hid hB
    have HT0 := Lib.hid hT
    clear ho hT hB Hst Hmt
    go_wp2_with fail
    refine hs1.out.mono ?_
    rintro e w1 ⟨rfl, hB⟩
    have HB := Lib.hid (HB0.out.trans (hB.mono HB0.out.size))
    have HT := Lib.hid ((HT0.out.below hB).more hB.size)
    have Hr1 := Lib.hid (fun (p q : Nat) (hp : p < (inB ss).length) (hq : q < (inB ss).length) (u : World) (hB : Below w1.heap.size w1 u) => hrun.out A1 c1 A2 c2 p q hp hq u ((HT.out.below hB).more hB.size))
    clear hB HB0 HT0 hrun HT hmt hs1
    generalize (inB ss).length = n at *
    go_wp2_with fail
    go_loopw [20] (fun iv wr => ∃ k : Nat, k ≤ n ∧ iv = .int .i64 k ∧ Hid (allB ss k = true) ∧ Hid (Below w1.heap.size w1 wr)) (fun iv _ => n - (intOf iv).toNat)
    case atStart => exact ⟨0, Nat.zero_le _, rfl, Ha0.out, Below.refl _ _⟩
    case round =>
      clear Ha0
      obtain ⟨k, hk, rfl, hall, hB1⟩ := hrel
      by_cases hlt : k < n
      · have hlt' : (k : Int) < (n : Int) := by omega
        generalize wr = wk at *
        go_wp2_with fail
        go_loopw [24] (fun jv wr => ∃ q : Nat, q ≤ k ∧ jv = .int .i64 q ∧ Hid (rowB ss k q = true) ∧ Hid (Below w1.heap.size w1 wr)) (fun jv _ => k - (intOf jv).toNat)
        case atStart => exact ⟨0, Nat.zero_le _, rfl, Hr0.out k, hB1⟩
        case round =>
          clear hB1
          obtain ⟨q, hq, rfl, hrow, hB2⟩ := hrel
          by_cases hlq : q < k
          · have hlq' : (q : Int) < (k : Int) := by omega
            have hqn : q < n := by omega
            have hBa := Lib.hid (hB2.out.alloc hB2.out.size (.cells #[.int .i64 (q : Int), .int .i64 (k : Int)] 3))
            have hg1 := Lib.hid (Hg2.out wr.heap.size k q hlt hqn (wr.alloc (.cells #[.int .i64 (q : Int), .int .i64 (k : Int)] 3)) (by rw [World.cell?_alloc_at _ _ _ _ rfl]; rfl) (by rw [World.cell?_alloc_at _ _ _ _ rfl]; rfl))
            have hr2 := Lib.hid (Hr1.out k q hlt hqn _ hBa.out)
            have hrs := Hrs.out k q
            rw [hrow.out, Bool.true_and] at hrs
            generalize 2 ^ q ||| 2 ^ k = m at hg1 hr2
            cases hm : meetB ss k q
            · rw [hm] at hr2 hrs
              have hfin : allB ss n = false := by
                refine Han.out (k + 1) n (by omega) ?_
                rw [Has.out, Hrn.out k (q + 1) k hlq hrs, Bool.and_false]
              obtain rfl : Rv = false := hRv.out.trans hfin
              clear hm hrs hfin
              go_wp2_with fail
              refine hg1.out.mono ?_
              rintro e w5 ⟨rfl, rfl⟩
              go_wp2_with fail
              refine hr2.out.mono ?_
              rintro e w2 ⟨t, rfl, hB3⟩
              have hB4 := Lib.hid (HB.out.trans ((hBa.out.trans (hB3.mono hBa.out.size)).mono HB.out.size))
              clear hB3
              go_wp2_with fail
              go_ret2
              exact ⟨rfl, hB4.out⟩
            · rw [hm] at hr2 hrs
              replace hrs := Lib.hid hrs
              clear hm
              go_wp2_with fail
              refine hg1.out.mono ?_
              rintro e w5 ⟨rfl, rfl⟩
              go_wp2_with fail
              refine hr2.out.mono ?_
              rintro e w2 ⟨t, rfl, hB3⟩
              have hB4 := Lib.hid (hBa.out.trans (hB3.mono hBa.out.size))
              clear hB3
              go_wp2_with fail
              go_roundw
              case rel => exact ⟨q + 1, by omega, by go_num, hrs, hB4⟩
              case measure => simp [intOf]; omega
          · obtain rfl : q = k := by omega
            have has : Hid (allB ss (q + 1) = true) := by
              show _ = _
              rw [Has.out, hall.out, hrow.out]
              rfl
            go_wp2_with fail
            go_roundw
            case rel => exact ⟨q + 1, by omega, by go_num, has, hB2⟩
            case measure => simp [intOf]; omega
      · obtain rfl : k = n := by omega
        obtain rfl : Rv = true := hRv.out.trans hall.out
        clear hall
        go_wp2_with fail
        go_ret2
        exact ⟨rfl, HB.out.trans (hB1.out.mono HB.out.size)⟩
end Go.Proofs.YtlapmjligdjniaaGreatDoor
