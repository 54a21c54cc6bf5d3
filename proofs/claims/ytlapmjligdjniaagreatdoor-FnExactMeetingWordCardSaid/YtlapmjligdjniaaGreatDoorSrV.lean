/-
  WHAT THIS FILE PROVES: the search for the first word that leads a group of states to one, plain and in the specification; the first step word, the first word by which two states meet, whether all states meet: the specification tells the plain values; asked: a slice of texts in memory, lengths that an int holds.
-/
import Derived.Test.YtlapmjligdjniaaGreatDoorStp
import Derived.Test.YtlapmjligdjniaaGreatDoorMem
import Derived.Maps.AppendAt
import Derived.Deep.RegionLaw
import Derived.Deep.RegionHeldLaw
import Derived.Deep.RegionHeld3
import Derived.Test.YtlapmjligdjniaaGreatDoorStpV
import Derived.Deep.RegionWith
namespace Go.Proofs.YtlapmjligdjniaaGreatDoor

/-- a group is among those that have been reached -/
def hasG (R : List (Nat × ByteArray)) (m : Nat) : Bool := R.any fun p => decide (p.1 = m)
theorem hasG_mem {R : List (Nat × ByteArray)} {m : Nat} : hasG R m = true ↔ m ∈ R.map Prod.fst := by
  unfold hasG
  rw [List.any_eq_true, List.mem_map]
  constructor
  · rintro ⟨p, hp, e⟩
    exact ⟨p, hp, of_decide_eq_true e⟩
  · rintro ⟨p, hp, e⟩
    exact ⟨p, hp, decide_eq_true e⟩
theorem hasG_take_succ (R : List (Nat × ByteArray)) (m i : Nat) (h : i < R.length) : hasG (R.take (i + 1)) m = (hasG (R.take i) m || decide (R[i].1 = m)) := by
  unfold hasG
  rw [List.take_succ_eq_append_getElem h, List.any_append]
  simp
theorem hasG_snoc (R : List (Nat × ByteArray)) (m : Nat) (p : Nat × ByteArray) : hasG (R ++ [p]) m = (hasG R m || decide (p.1 = m)) := by
  unfold hasG
  rw [List.any_append]
  simp
section
variable (T : Nat → Nat → Nat) (n L : Nat)
/-- the first k letters behind a group are followed -/
def rw1 (R : List (Nat × ByteArray)) (p : Nat × ByteArray) : Nat → List (Nat × ByteArray)
  | 0 => R
  | k + 1 => if hasG (rw1 R p k) (nxt T n k p.1) then rw1 R p k else rw1 R p k ++ [(nxt T n k p.1, kid p.2 k)]
/-- one more group is followed -/
def nth2 (R : List (Nat × ByteArray)) (i : Nat) : Nat × ByteArray := R.getD i (0, ByteArray.empty)
/-- what is reached when i groups have been followed -/
def rs (from0 : Nat) : Nat → List (Nat × ByteArray)
  | 0 => [(from0, ⟨#[]⟩)]
  | i + 1 => if i < (rs from0 i).length then rw1 T n (rs from0 i) (nth2 (rs from0 i) i) L else rs from0 i
/-- the search, so many steps on -/
def fnd (from0 : Nat) : Nat → Nat → Option ByteArray
  | 0, _ => none
  | f + 1, i => if i < (rs T n L from0 i).length then (if oneB (nth2 (rs T n L from0 i) i).1 then some (nth2 (rs T n L from0 i) i).2 else fnd from0 f (i + 1)) else none
/-- what the search finds -/
def found (from0 : Nat) : Option ByteArray := fnd T n L from0 4097 0
/-- the invariant of what is reached -/
structure RInv (R : List (Nat × ByteArray)) (i : Nat) : Prop where
  nodup : (R.map Prod.fst).Nodup
  lt : ∀ p ∈ R, p.1 < 2 ^ n
  size : ∀ p ∈ R, p.2.size ≤ i
end
section
variable {T : Nat → Nat → Nat} {n L : Nat}
theorem nth2_at {R : List (Nat × ByteArray)} {i : Nat} (h : i < R.length) : nth2 R i = R[i] := by
  unfold nth2
  rw [List.getD_eq_getElem?_getD, List.getElem?_eq_getElem h]
  rfl
theorem rw1_yes {R : List (Nat × ByteArray)} {p : Nat × ByteArray} {k : Nat} (h : hasG (rw1 T n R p k) (nxt T n k p.1) = true) : rw1 T n R p (k + 1) = rw1 T n R p k := by
  rw [rw1, if_pos h]
theorem rw1_no {R : List (Nat × ByteArray)} {p : Nat × ByteArray} {k : Nat} (h : hasG (rw1 T n R p k) (nxt T n k p.1) = false) : rw1 T n R p (k + 1) = rw1 T n R p k ++ [(nxt T n k p.1, kid p.2 k)] := by
  rw [rw1, if_neg (by rw [h]; simp)]
theorem RInv.more {R : List (Nat × ByteArray)} {i : Nat} (h : RInv n R i) : RInv n R (i + 1) := ⟨h.nodup, h.lt, fun p hp => by have := h.size p hp; omega⟩
theorem RInv.put {R : List (Nat × ByteArray)} {i m : Nat} {s : ByteArray} (h : RInv n R i) (hm : hasG R m = false) (hlt : m < 2 ^ n) (hs : s.size ≤ i) : RInv n (R ++ [(m, s)]) i := by
  refine ⟨?_, fun p hp => ?_, fun p hp => ?_⟩
  · rw [List.map_append, List.nodup_append]
    refine ⟨h.nodup, by simp, fun a ha b hb e => ?_⟩
    simp at hb
    subst hb
    subst e
    rw [hasG_mem.2 ha] at hm
    cases hm
  · rcases List.mem_append.1 hp with hp | hp
    · exact h.lt p hp
    · simp at hp
      subst hp
      exact hlt
  · rcases List.mem_append.1 hp with hp | hp
    · exact h.size p hp
    · simp at hp
      subst hp
      exact hs
theorem RInv.row (hT : ∀ i k, T i k < n) {R : List (Nat × ByteArray)} {i : Nat} {p : Nat × ByteArray} (h : RInv n R (i + 1)) (hp : p.2.size ≤ i) : ∀ k, k ≤ 3 → RInv n (rw1 T n R p k) (i + 1)
  | 0, _ => h
  | k + 1, hk => by
    have ih := RInv.row hT h hp k (by omega)
    cases hq : hasG (rw1 T n R p k) (nxt T n k p.1)
    · rw [rw1_no hq]
      exact ih.put hq (nxt_lt hT k p.1) (by rw [kid_size _ _ (by omega)]; omega)
    · rw [rw1_yes hq]
      exact ih
theorem rs_inv (hT : ∀ i k, T i k < n) (hL : L ≤ 3) {from0 : Nat} (hf : from0 < 2 ^ n) : ∀ i, RInv n (rs T n L from0 i) i
  | 0 => ⟨by simp [rs], fun p hp => by simp [rs] at hp; subst hp; exact hf, fun p hp => by simp [rs] at hp; subst hp; exact Nat.le_refl _⟩
  | i + 1 => by
    have ih := rs_inv hT hL hf i
    rw [rs]
    split
    · rename_i h
      refine RInv.row hT ih.more ?_ L hL
      rw [nth2_at h]
      exact ih.size _ (List.getElem_mem h)
    · exact ih.more
theorem nodup_len : ∀ (m : Nat) (l : List Nat), l.Nodup → (∀ x ∈ l, x < m) → l.length ≤ m
  | 0, l, _, h => by
    cases l with
    | nil => exact Nat.le_refl _
    | cons a r => exact absurd (h a List.mem_cons_self) (Nat.not_lt_zero _)
  | m + 1, l, hn, h => by
    have h1 := nodup_len m (l.erase m) (hn.erase m) (fun x hx => by
      have h2 := (hn.mem_erase_iff).1 hx
      have h3 := h x h2.2
      have h4 : x ≠ m := h2.1
      omega)
    rw [List.length_erase] at h1
    split at h1 <;> omega
theorem RInv.few {R : List (Nat × ByteArray)} {i : Nat} (h : RInv n R i) (hn : n ≤ 11) : R.length ≤ 2048 := by
  have h1 := nodup_len (2 ^ n) (R.map Prod.fst) h.nodup (fun x hx => by
    obtain ⟨p, hp, rfl⟩ := List.mem_map.1 hx
    exact h.lt p hp)
  rw [List.length_map] at h1
  have h2 : 2 ^ n ≤ 2048 := Nat.pow_le_pow_right (n := 2) (by omega) hn
  omega
theorem fnd_end {from0 f i : Nat} (h : ¬ i < (rs T n L from0 i).length) : fnd T n L from0 f i = none := by
  cases f with
  | zero => rfl
  | succ f => rw [fnd, if_neg h]
theorem fnd_hit {from0 f i : Nat} (h : i < (rs T n L from0 i).length) (h1 : oneB (nth2 (rs T n L from0 i) i).1 = true) : fnd T n L from0 (f + 1) i = some (nth2 (rs T n L from0 i) i).2 := by
  rw [fnd, if_pos h, if_pos h1]
theorem fnd_next {from0 f i : Nat} (h : i < (rs T n L from0 i).length) (h1 : oneB (nth2 (rs T n L from0 i) i).1 = false) : fnd T n L from0 (f + 1) i = fnd T n L from0 f (i + 1) := by
  rw [fnd, if_pos h, if_neg (by rw [h1]; simp)]
theorem rs_next {from0 i : Nat} (h : i < (rs T n L from0 i).length) : rs T n L from0 (i + 1) = rw1 T n (rs T n L from0 i) (nth2 (rs T n L from0 i) i) L := by
  rw [rs, if_pos h]
theorem fnd_size (hT : ∀ i k, T i k < n) (hL : L ≤ 3) {from0 : Nat} (hf : from0 < 2 ^ n) : ∀ f i s, fnd T n L from0 f i = some s → s.size ≤ i + f
  | 0, i, s, h => by cases h
  | f + 1, i, s, h => by
    by_cases h1 : i < (rs T n L from0 i).length
    · cases h2 : oneB (nth2 (rs T n L from0 i) i).1
      · rw [fnd_next h1 h2] at h
        have := fnd_size hT hL hf f (i + 1) s h
        omega
      · rw [fnd_hit h1 h2] at h
        injection h with h
        subst h
        rw [nth2_at h1]
        have := (rs_inv hT hL hf i).size _ (List.getElem_mem h1)
        omega
    · rw [fnd_end h1] at h
      cases h
end
def txOf (o : Option ByteArray) : ByteArray := o.getD ⟨#[]⟩
end Go.Proofs.YtlapmjligdjniaaGreatDoor

namespace Go.Proofs.YtlapmjligdjniaaGreatDoor

/-- the first step word, if there is one -/
def ssO (ss : List ByteArray) : Option ByteArray := if stOk ss then found (tr ss) (inB ss).length (ltrs ss) (2 ^ (inB ss).length - 1) else none
theorem ssO_no {ss : List ByteArray} (h : stOk ss = false) : ssO ss = none := by unfold ssO; rw [h, if_neg (by simp)]
theorem ssO_yes {ss : List ByteArray} (h : stOk ss = true) : ssO ss = found (tr ss) (inB ss).length (ltrs ss) (2 ^ (inB ss).length - 1) := by unfold ssO; rw [h, if_pos rfl]
/-- two states of a complete prefix set are asked for -/
def mwOk (ss : List ByteArray) (i j : Int) : Bool := stOk ss && (decide (0 ≤ i ∧ i < (inB ss).length) && decide (0 ≤ j ∧ j < (inB ss).length))
/-- the first word by which they meet, if there is one -/
def mwO (ss : List ByteArray) (i j : Int) : Option ByteArray := if mwOk ss i j then found (tr ss) (inB ss).length (ltrs ss) (2 ^ i.toNat ||| 2 ^ j.toNat) else none
theorem mwO_no {ss : List ByteArray} {i j : Int} (h : mwOk ss i j = false) : mwO ss i j = none := by unfold mwO; rw [h, if_neg (by simp)]
theorem mwO_yes {ss : List ByteArray} {i j : Nat} (h : mwOk ss (i : Int) (j : Int) = true) : mwO ss (i : Int) (j : Int) = found (tr ss) (inB ss).length (ltrs ss) (2 ^ i ||| 2 ^ j) := by unfold mwO; rw [h, if_pos rfl, Int.toNat_natCast, Int.toNat_natCast]
/-- two states meet -/
def meetB (ss : List ByteArray) (i j : Nat) : Bool := (found (tr ss) (inB ss).length (ltrs ss) (2 ^ i ||| 2 ^ j)).isSome
def rowB (ss : List ByteArray) (i k : Nat) : Bool := (List.range k).all fun j => meetB ss i j
def allB (ss : List ByteArray) (k : Nat) : Bool := (List.range k).all fun i => rowB ss i i
theorem rowB_succ (ss : List ByteArray) (i k : Nat) : rowB ss i (k + 1) = (rowB ss i k && meetB ss i k) := by
  unfold rowB
  rw [List.range_succ, List.all_append]
  simp
theorem allB_succ (ss : List ByteArray) (k : Nat) : allB ss (k + 1) = (allB ss k && rowB ss k k) := by
  unfold allB
  rw [List.range_succ, List.all_append]
  simp
theorem rowB_no (ss : List ByteArray) (i k n : Nat) (h : k ≤ n) (hf : rowB ss i k = false) : rowB ss i n = false := W.all_mono _ k n h hf
theorem allB_no (ss : List ByteArray) (k n : Nat) (h : k ≤ n) (hf : allB ss k = false) : allB ss n = false := W.all_mono _ k n h hf
/-- all pairs of states meet -/
def ciOf (ss : List ByteArray) : Bool := stOk ss && allB ss (inB ss).length
theorem ciOf_no {ss : List ByteArray} (h : stOk ss = false) : ciOf ss = false := by unfold ciOf; rw [h]; rfl
theorem ciOf_yes {ss : List ByteArray} (h : stOk ss = true) : ciOf ss = allB ss (inB ss).length := by unfold ciOf; rw [h]; rfl
theorem pair_lt {n i j : Nat} (hi : i < n) (hj : j < n) : 2 ^ i ||| 2 ^ j < 2 ^ n := Nat.or_lt_two_pow (Nat.pow_lt_pow_right (by omega) hi) (Nat.pow_lt_pow_right (by omega) hj)
end Go.Proofs.YtlapmjligdjniaaGreatDoor

namespace Go.Proofs.YtlapmjligdjniaaGreatDoor
open Go.RowKit Go.Shelf

/-- the cells of a row of groups, each with its word -/
def row2 (enc : Nat × ByteArray → Value × Value) (os : List (Nat × ByteArray)) : List Value := os.flatMap fun p => [(enc p).1, (enc p).2]
section
variable {enc : Nat × ByteArray → Value × Value}
theorem row2_length (os : List (Nat × ByteArray)) : (row2 enc os).length = os.length * 2 := by
  induction os with
  | nil => rfl
  | cons a r ih =>
    unfold row2 at ih ⊢
    rw [List.flatMap_cons, List.length_append, ih, List.length_cons]
    simp
    omega
theorem row2_snoc (os : List (Nat × ByteArray)) (p : Nat × ByteArray) : row2 enc os ++ [(enc p).1, (enc p).2] = row2 enc (os ++ [p]) := by simp [row2]
theorem row2_at : ∀ (os : List (Nat × ByteArray)) (k : Nat) (h : k < os.length), (row2 enc os)[k * 2]? = some (enc os[k]).1 ∧ (row2 enc os)[k * 2 + 1]? = some (enc os[k]).2
  | [], _, h => by simp at h
  | a :: r, 0, _ => ⟨rfl, rfl⟩
  | a :: r, k + 1, h => by
    have ih := row2_at r k (by simpa using h)
    have e : row2 enc (a :: r) = (enc a).1 :: (enc a).2 :: row2 enc r := by simp [row2]
    rw [e, show (k + 1) * 2 = k * 2 + 1 + 1 by omega, show k * 2 + 1 + 1 + 1 = (k * 2 + 1) + 1 + 1 by omega]
    simp only [List.getElem?_cons_succ, List.getElem_cons_succ]
    exact ih
theorem own_row2 {w : World} {base e n c g : Nat} {os : List (Nat × ByteArray)} (h : w.ownsRow base e 2 (.slice (some ⟨g, 0, none⟩) n c) n (row2 enc os)) (k : Nat) (hk : k < os.length) :
    w.cell? ⟨g, k * 2, none⟩ = some (enc (nth2 os k)).1 ∧ w.cell? ⟨g, k * 2 + 1, none⟩ = some (enc (nth2 os k)).2 := by
  have hn := h.1
  rw [row2_length] at hn
  have := row2_at (enc := enc) os k hk
  rw [h.cellAt _ (by omega), h.cellAt _ (by omega), nth2_at hk]
  exact this
end
theorem own_sl {w : World} {base e n m : Nat} {v : Value} {vs : List Value} (h : w.ownsRow base e m v n vs) : ∃ A c, v = .slice A n c := by
  rcases h.2 with ⟨hv, h0⟩ | ⟨g, cap, cur, hv, _⟩
  · exact ⟨none, 0, by rw [hv, h0]⟩
  · exact ⟨_, _, hv⟩
theorem own_fm {w : World} {base e n c m : Nat} {A : Option Addr} {vs : List Value} (h : w.ownsRow base e m (.slice A n c) n vs) (hn : 0 < n) : ∃ g, A = some ⟨g, 0, none⟩ ∧ base ≤ g ∧ g < w.heap.size := by
  rcases h.2 with ⟨_, h0⟩ | ⟨g, cap, cur, hv, hb, hh, _⟩
  · omega
  · simp only [Value.slice.injEq] at hv
    exact ⟨g, hv.1, hb, (Array.getElem?_eq_some_iff.1 hh).1⟩
theorem own_bel {w w' : World} {base e n m : Nat} {v : Value} {vs : List Value} (h : w.ownsRow base e m v n vs) (hb : Below w.heap.size w w') : w'.ownsRow base e m v n vs :=
  h.kept (row := none) ⟨hb.os, hb.tape, hb.output, hb.size, fun k hk _ => hb.block k hk⟩ (by cases v.ownBlock <;> simp)
theorem cells_two (w : World) (a b : Value) (t : TypeId) : ∀ (j : Nat) u, [a, b][j]? = some u → (w.alloc (.cells #[a, b] t)).cell? ((⟨w.heap.size, 0, none⟩ : Addr).add j) = some u := fun j u hu => by
  have hj : j < 2 := (List.getElem?_eq_some_iff.1 hu).1
  rcases (by omega : j = 0 ∨ j = 1) with rfl | rfl
  · rw [addr_at, Nat.zero_add, World.cell?_alloc_at _ _ _ _ rfl]
    exact hu
  · rw [addr_at, Nat.zero_add, World.cell?_alloc_at _ _ _ _ rfl]
    exact hu
theorem one_two {a b : Value} (ha : a.oneCell' = true) (hb : b.oneCell' = true) : ∀ u ∈ [a, b], u.oneCell' = true := fun u hu => by
  simp only [List.mem_cons, List.mem_nil_iff, or_false] at hu
  rcases hu with rfl | rfl
  · exact ha
  · exact hb
theorem step_append_at {P : Program} (w : World) {ops : Array Oper} {o : Oper} {a : Act} {K : Act → World → Prop} {Q : Exit → Act → World → Prop} {E : Prop} (hgd : o.guard = none) (s x : Operand) (t : TypeId)
    (ho : o.op = .call { callee := .builtin .append, args := #[s, x], argTypes := #[t, t] })
    (base e : Nat) (i : TypeInfo) (z : Value) (size bytes : Nat) (ht : P.underlying t = some (.slice e)) (hi : P.info? e = some i) (hz : i.zero = some z) (hsize : i.size = size) (hby : i.bytes = bytes) (hzs : z.cells.size = size) (hsz : 0 < size)
    (v : Value) (n : Nat) (xs : List Value) (hs : a.eval s = v) (hown : w.ownsRow base e size v n xs) (ad : Addr) (m c : Nat) (news : List Value) (hx : a.eval x = .slice (some ad) m c) (hl : news.length = m * size)
    (hnews : ∀ j u, news[j]? = some u → w.cell? (ad.add j) = some u) (h1 : ∀ u ∈ news, u.oneCell' = true) (h63 : n + m ≤ maxLen) (hbytes : (n + m) * bytes ≤ 140737488355328) (hbase : base ≤ w.heap.size)
    (h : ∀ v' w', w'.ownsRow base e size v' (n + m) (xs ++ news) → w.grownBy w' v.ownBlock → (v'.ownBlock = v.ownBlock ∨ v'.ownBlock = some w.heap.size) → K (a.put o.dst v') w') :
    if Region.wanted o (yielded ops a.tmps) = true then Oper.wp P o a w K Q else E := by
  have hw : Region.wanted o (yielded ops a.tmps) = true := by simp [Region.wanted, hgd]
  rw [if_pos hw]
  obtain ⟨v', w', hr, h2, h3, _, h5⟩ := run_append_own_at (P := P) w base t o.type e i z size bytes ht hi hz hsize hby hzs hsz v n xs hown ad m c news hl hnews h1 h63 hbytes hbase
  unfold Oper.wp execOp
  simp only [ho, resolve, invoke, builtin, Sem.run_bind, Sem.run_pure, Result.andThen_ok, List.map_toArray, List.map_cons, List.map_nil, hs, hx, hr]
  exact h v' w' h2 h3 h5
/-- a cell outside the grown row is kept -/
theorem cell_grown {w w' : World} {o : Obj} {row : Option Nat} {P : Nat} (hg : (w.alloc o).grownBy w' row) (hr : row ≠ some P) (hP : P < w.heap.size) : ∀ j u, w.cell? ⟨P, j, none⟩ = some u → w'.cell? ⟨P, j, none⟩ = some u := fun j u hu => by
  rw [World.cell?_of_block (a := ⟨P, j, none⟩) (hg.block P (by simp; omega) (fun e => hr e.symm)), World.cell?_alloc_lt _ _ _ hP]
  exact hu
theorem hasG_all (R : List (Nat × ByteArray)) (m : Nat) : hasG (R.take R.length) m = hasG R m := by rw [List.take_length]
theorem hasG_none (R : List (Nat × ByteArray)) (m : Nat) : hasG (R.take 0) m = false := rfl
/-- how the specification lays a group -/
def encS (p : Nat × ByteArray) : Value × Value := (.int .i64 (p.1 : Int), .string p.2)
/-- how the program lays a group -/
def encI (p : Nat × ByteArray) : Value × Value := (.string p.2, .int .u16 (p.1 : Int))
theorem or_start (T : Nat → Nat) (g : Nat) : orG (mems 0 g) T = 0 := rfl
theorem or_next (T : Nat → Nat) (g q : Nat) : orG (mems (q + 1) g) T = if g.testBit q then orG (mems q g) T ||| 2 ^ T q else orG (mems q g) T := by
  rw [mems_succ]
  split
  · rw [orG_snoc]
  · rw [List.append_nil]
theorem bit_sh (g k : Nat) : (((g : Int) / (2 : Int) ^ k).tmod 2 == 1) = g.testBit k := by
  rw [Int.tmod_eq_emod_of_nonneg (Int.ediv_nonneg (by omega) (Int.le_of_lt (Int.pow_pos (by decide))))]
  have e : ((g : Int) / (2 : Int) ^ k) % 2 = ((g / 2 ^ k % 2 : Nat) : Int) := by simp
  rw [e, Nat.testBit_eq_decide_div_mod_eq]
  by_cases h : g / 2 ^ k % 2 = 1
  · rw [h, decide_eq_true rfl]; rfl
  · rw [decide_eq_false h]
    exact beq_eq_false_iff_ne.2 (by omega)
theorem int_beq (a b : Nat) : ((a : Int) == (b : Int)) = decide (a = b) := by
  by_cases h : a = b
  · subst h; simp
  · rw [decide_eq_false h]; exact beq_eq_false_iff_ne.2 (by omega)
end Go.Proofs.YtlapmjligdjniaaGreatDoor

namespace Go.Proofs.YtlapmjligdjniaaGreatDoor
open Go.RowKit Go.Shelf

theorem infoSet : (Tryz.prog.info? 55).map (fun i => (i.zero, i.size, i.bytes)) = some (some (.agg #[.int .i64 0, .string ByteArray.empty]), 2, 24) := by kernel_rfl
set_option maxHeartbeats 6400000 in
set_option maxRecDepth 100000 in
theorem spec_sySearch (A : Option Addr) (ss : List ByteArray) (c from0 : Nat) (w : World) (h : RowTab w w.heap.size A ss) (h0 : 0 < (inB ss).length) (hn : (inB ss).length ≤ 11) (hf : from0 < 2 ^ (inB ss).length) :
    Calls Tryz.prog 16 #[.slice A (inB ss).length c, .int .i64 from0] w fun e w' => e = .returned (.tuple #[.string (txOf (found (tr ss) (inB ss).length (ltrs ss) from0)), .bool (found (tr ss) (inB ss).length (ltrs ss) from0).isSome]) ∧ Below w.heap.size w w' := by
  have hT : ∀ i k, tr ss i k < (inB ss).length := fun i k => tr_lt h0 i k
  have hL3 : ltrs ss ≤ 3 := by rcases ltrs_two ss with e | e <;> omega
  have Hinv := Lib.hid (fun k => rs_inv (T := tr ss) (n := (inB ss).length) (L := ltrs ss) hT hL3 hf k)
  have Hfew := Lib.hid (fun k => (Hinv.out k).few hn)
  have Hp2 : 2 ^ (inB ss).length ≤ 2048 := Nat.pow_le_pow_right (n := 2) (by omega) hn
  have Hnx := Lib.hid (fun g k => nxt_lt hT k g)
  have HF : Hid (fnd (tr ss) (inB ss).length (ltrs ss) from0 4097 0 = found (tr ss) (inB ss).length (ltrs ss) from0) := rfl
  have HR0 : Hid (rs (tr ss) (inB ss).length (ltrs ss) from0 0 = [(from0, ⟨#[]⟩)]) := rfl
  have Htl := Lib.hid (fun i k => hT i k)
  have Hrow := Lib.hid (h.row h0)
  have Hread := Lib.hid (fun (i k : Nat) hi hk => h.read (i := i) (k := k) hi hk)
  obtain ⟨i0, hi, hz0, hz1, hz2⟩ := info_parts infoSet
  have HR := Lib.hid (And.intro hi (And.intro hz0 (And.intro hz1 hz2)))
  generalize found (tr ss) (inB ss).length (ltrs ss) from0 = F at HF ⊢
  generalize tr ss = T at *
  generalize (inB ss).length = n at *
  generalize ltrs ss = L at *
  clear h hT hf hi hz0 hz1 hz2
  go_enter Tryz.func16, Tryz.ntmps16
  go_wp2_with fail
  have hst := Lib.hid (World.ownsRow_lit (base := w.heap.size) (e := 55) (size := 2) w #[.int .i64 (from0 : Int), .string ⟨#[]⟩] 1 (Nat.le_refl _) (by unfold maxLen; omega) rfl)
  go_loopw [6, 7] (fun v iv wr => ∃ (k : Nat) (R : List (Nat × ByteArray)), k ≤ 2048 ∧ iv = .int .i64 k ∧ Hid (R = rs T n L from0 k) ∧ Hid (fnd T n L from0 (4097 - k) k = F) ∧ wr.ownsRow w.heap.size 55 2 v R.length (row2 encS R) ∧ Below w.heap.size w wr)
    (fun _ iv _ => 2049 - (intOf iv).toNat)
  case atStart => exact ⟨0, _, Nat.zero_le _, rfl, HR0.out.symm, HF.out, hst.out, (Below.refl _ _).alloc (Nat.le_refl _) _⟩
  case round =>
    clear hst HF HR0
    obtain ⟨k, R, hk, rfl, hR, hF, ho, hB⟩ := hrel
    have hfew := Hfew.out k
    have hinv := Hinv.out k
    rw [← hR.out] at hfew hinv
    obtain ⟨Ao, co, rfl⟩ := own_sl ho
    have hO := Lib.hid (And.intro ho hB)
    clear ho hB
    by_cases hlt : k < R.length
    · have hlt' : (k : Int) < (R.length : Int) := by omega
      obtain ⟨g0, rfl, hg1, hg2⟩ := own_fm hO.out.1 (by omega)
      have hpr := own_row2 hO.out.1 k hlt
      have hpm : nth2 R k ∈ R := by rw [nth2_at hlt]; exact List.getElem_mem hlt
      have hg := hinv.lt _ hpm
      have hs := hinv.size _ hpm
      have hlr : k < (rs T n L from0 k).length := by rw [← hR.out]; exact hlt
      have hnx : rs T n L from0 (k + 1) = rw1 T n R (nth2 R k) L := by rw [rs_next hlr, ← hR.out]
      have hHit : oneB (nth2 R k).1 = true → F = some (nth2 R k).2 := fun e => by
        rw [hR.out] at e ⊢
        rw [← hF.out, show 4097 - k = 4096 - k + 1 by omega, fnd_hit hlr e]
      have hNx : oneB (nth2 R k).1 = false → fnd T n L from0 (4097 - (k + 1)) (k + 1) = F := fun e => by
        rw [hR.out] at e
        rw [← hF.out, show 4097 - k = 4096 - k + 1 by omega, fnd_next hlr e, show 4097 - (k + 1) = 4096 - k by omega]
      have Hrw := Lib.hid (fun kk (hkk : kk ≤ 3) => RInv.row Htl.out hinv.more hs kk hkk)
      generalize nth2 R k = p at *
      obtain ⟨g, s⟩ := p
      have p1 : wr.cell? ⟨g0, k * 2, none⟩ = some (.int .i64 (g : Int)) := hpr.1
      have p2 : wr.cell? ⟨g0, k * 2 + 1, none⟩ = some (.string s) := hpr.2
      simp only at hg hs hHit hNx
      have h1 := Lib.hid (fun u => spec_syOne g u (by omega))
      replace hnx := Lib.hid hnx
      have hBa := Lib.hid (hO.out.2.alloc hO.out.2.size (.cells #[.int .i64 (g : Int), .string s] 55))
      clear hpr hpm hlr hinv hF
      cases hob : oneB g
      · have hF := Lib.hid (hNx hob)
        rw [hob] at h1
        clear hob hHit hNx
        obtain ⟨b, off, A', c', rfl, hb, c1, _⟩ := Hrow.out
        have c1 := (hO.out.2.cell (p := ⟨b, off + 0, none⟩) hb).trans c1
        have c1' : wr.cell? ⟨b, off, none⟩ = some (.slice A' L c') := c1
        have hbw : b < wr.heap.size := Nat.lt_of_lt_of_le hb hO.out.2.size
        have hn0 : (0 : Int) < (n : Int) := by omega
        clear c1
        generalize wr = wk at *
        go_wp2_with fail
        refine (h1.out _).mono ?_
        rintro e w' ⟨rfl, rfl⟩
        go_wp2_with fail
        go_loopw [6, 37] (fun v iv wr => ∃ (kk : Nat) (R' : List (Nat × ByteArray)), kk ≤ L ∧ iv = .int .i64 kk ∧ Hid (R' = rw1 T n R (g, s) kk) ∧ wr.ownsRow w.heap.size 55 2 v R'.length (row2 encS R') ∧ Below w.heap.size w wr ∧ wr.cell? ⟨wk.heap.size, 0, none⟩ = some (.int .i64 (g : Int)) ∧ wr.cell? ⟨wk.heap.size, 1, none⟩ = some (.string s) ∧ Hid (v.ownBlock ≠ some wk.heap.size))
          (fun _ iv _ => L - (intOf iv).toNat)
        case atStart => exact ⟨0, R, Nat.zero_le _, rfl, rfl, hO.out.1.alloc _, hBa.out, by rw [World.cell?_alloc_at _ _ _ _ rfl]; rfl, by rw [World.cell?_alloc_at _ _ _ _ rfl]; rfl, fun e => by have e2 : some g0 = some wk.heap.size := e; injection e2; omega⟩
        case round =>
          clear hO hBa p1 p2 c1'
          obtain ⟨kk, R', hkk, rfl, hR', ho, hB, q1, q2, hne⟩ := hrel
          have hinv' := Hrw.out kk (by omega)
          rw [← hR'.out] at hinv'
          have hfew' := hinv'.few hn
          obtain ⟨Al, cl, rfl⟩ := own_sl ho
          have hO := Lib.hid (And.intro ho (And.intro hB (And.intro q1 q2)))
          have hPw : wk.heap.size < wr.heap.size := World.block_lt_of_cell? _ _ q1
          clear ho hB q1 q2 hinv'
          generalize wr = wl at *
          by_cases hlk : kk < L
          · have hlk' : (kk : Int) < (L : Int) := by omega
            have hk3 : (kk : Int) < 3 := by omega
            have hk31 : (kk : Int) + 1 ≤ 3 := by omega
            have hk3' : kk < 3 := by omega
            have Hor := Lib.hid (fun q => or_next (fun j => T j kk) g q)
            have Hob := Lib.hid (fun q => (show orG (mems q g) (fun j => T j kk) < 2048 from orG_lt (fun j => T j kk) 11 (mems q g) 0 (by decide) (fun j _ => Nat.lt_of_lt_of_le (Htl.out j kk) hn)))
            have Hfin : Hid (orG (mems n g) (fun j => T j kk) = nxt T n kk g) := rfl
            have Hr2 := Lib.hid (fun q hq => Hread.out q kk hq hlk)
            have Hy := Lib.hid (fun q => Htl.out q kk)
            have hst0 : Hid (0 = orG (mems 0 g) (fun j => T j kk)) := rfl
            have Hyes := Lib.hid (fun e => rw1_yes (T := T) (n := n) (R := R) (p := (g, s)) (k := kk) e)
            have Hno := Lib.hid (fun e => rw1_no (T := T) (n := n) (R := R) (p := (g, s)) (k := kk) e)
            rw [← hR'.out] at Hyes Hno
            have hmlt := Hnx.out g kk
            simp only at Hyes Hno
            generalize nxt T n kk g = m at Hfin Hyes Hno hmlt
            go_wp2_with fail
            go_loopw [10, 42] (fun nv qv wr => ∃ q x : Nat, q ≤ n ∧ qv = .int .i64 q ∧ nv = .int .i64 x ∧ Hid (x = orG (mems q g) (fun j => T j kk)) ∧ Hid (Below wl.heap.size wl wr)) (fun _ qv _ => n - (intOf qv).toNat)
            case atStart => exact ⟨0, 0, Nat.zero_le _, rfl, rfl, hst0, Below.refl _ _⟩
            case round =>
              clear hst0
              obtain ⟨q, x, hq, rfl, rfl, hx, hB⟩ := hrel
              have q1 := (hB.out.cell (p := ⟨wk.heap.size, 0, none⟩) hPw).trans hO.out.2.2.1
              have hPr : wk.heap.size < wr.heap.size := Nat.lt_of_lt_of_le hPw hB.out.size
              by_cases hlq : q < n
              · have hlq' : (q : Int) < (n : Int) := by omega
                have hbs := bit_sh g q
                have hor := Hor.out q
                have hob := Hob.out q
                rw [← hx.out] at hor hob
                cases hd : g.testBit q
                · rw [hd] at hbs hor
                  have hN : Hid (x = orG (mems (q + 1) g) (fun j => T j kk)) := hor.symm
                  clear hor hd
                  go_wp2_with fail
                  go_roundw
                  case rel => exact ⟨q + 1, x, by omega, by go_num, rfl, hN, hB⟩
                  case measure => simp [intOf]; omega
                · rw [hd] at hbs hor
                  obtain ⟨b1, off1, b2, off2, c2, e1, hb1, d1, hb2, d2⟩ := Hr2.out q hlq
                  obtain ⟨rfl, rfl⟩ : b = b1 ∧ off = off1 := by simpa using e1
                  have hBt := hO.out.2.1.trans (hB.out.mono hO.out.2.1.size)
                  have d1 := (hBt.cell (p := ⟨b, off + q, none⟩) hb1).trans d1
                  have d2 := (hBt.cell (p := ⟨b2, off2 + kk, none⟩) hb2).trans d2
                  have hy := Hy.out q
                  generalize T q kk = y at d2 hy hor
                  have ho := Lib.hid (or_bit64 x y (by omega) (by omega))
                  have hN : Hid (x ||| 2 ^ y = orG (mems (q + 1) g) (fun j => T j kk)) := hor.symm
                  clear hor hd e1 hBt
                  go_wp2_with fail
                  go_roundw
                  case rel => exact ⟨q + 1, x ||| 2 ^ y, by omega, by go_num, by rw [ho.out], hN, hB⟩
                  case measure => simp [intOf]; omega
              · obtain rfl : q = n := by omega
                obtain rfl : x = m := hx.out.trans Hfin.out
                have hOq := Lib.hid (And.intro (own_bel hO.out.1 hB.out) (And.intro (hO.out.2.1.trans (hB.out.mono hO.out.2.1.size)) (And.intro q1 ((hB.out.cell (p := ⟨wk.heap.size, 1, none⟩) hPw).trans hO.out.2.2.2))))
                clear hx Hfin Hor Hob Hr2 Hy hO q1 hPw hB
                generalize wr = wq at *
                have Hk0 := Lib.hid (hasG_none R' x)
                have Hks := Lib.hid (fun j hj => hasG_take_succ R' x j hj)
                have Hka := Lib.hid (hasG_all R' x)
                go_wp2_with fail
                go_loopw [12, 64] (fun bv jv wr => ∃ (j : Nat) (kn : Bool), j ≤ R'.length ∧ jv = .int .i64 j ∧ bv = .bool kn ∧ Hid (kn = hasG (R'.take j) x) ∧ Hid (Below wq.heap.size wq wr)) (fun _ jv _ => R'.length - (intOf jv).toNat)
                case atStart => exact ⟨0, false, Nat.zero_le _, rfl, rfl, Hk0.out.symm, Below.refl _ _⟩
                case round =>
                  clear Hk0
                  obtain ⟨j, kn, hj, rfl, rfl, hkn, hB⟩ := hrel
                  by_cases hlj : j < R'.length
                  · have hlj' : (j : Int) < (R'.length : Int) := by omega
                    obtain ⟨gl, rfl, hgl1, hgl2⟩ := own_fm hOq.out.1 (by omega)
                    have hpr := own_row2 hOq.out.1 j hlj
                    have hs2 := Hks.out j hlj
                    rw [← nth2_at hlj, ← hkn.out] at hs2
                    generalize nth2 R' j = p2 at hpr hs2
                    obtain ⟨g2, s2⟩ := p2
                    have r1 := (hB.out.cell (p := ⟨gl, j * 2, none⟩) hgl2).trans (show wq.cell? ⟨gl, j * 2, none⟩ = some (.int .i64 (g2 : Int)) from hpr.1)
                    have r2 := (hB.out.cell (p := ⟨gl, j * 2 + 1, none⟩) hgl2).trans (show wq.cell? ⟨gl, j * 2 + 1, none⟩ = some (.string s2) from hpr.2)
                    have hbe := int_beq g2 x
                    have hBn := Lib.hid (hB.out.alloc hB.out.size (.cells #[.int .i64 (g2 : Int), .string s2] 55))
                    simp only at hs2
                    generalize decide (g2 = x) = dd at hbe hs2
                    replace hs2 := Lib.hid hs2
                    clear hpr hkn
                    cases kn
                    · go_wp2_with fail
                      go_roundw
                      case rel => exact ⟨j + 1, dd, by omega, by go_num, by simp, by show _ = _; rw [hs2.out]; simp, hBn⟩
                      case measure => simp [intOf]; omega
                    · go_wp2_with fail
                      go_roundw
                      case rel => exact ⟨j + 1, true, by omega, by go_num, rfl, by show _ = _; rw [hs2.out]; simp, hBn⟩
                      case measure => simp [intOf]; omega
                  · obtain rfl : j = R'.length := by omega
                    have hkA := hkn.out.trans Hka.out
                    have hOr := Lib.hid (And.intro (own_bel hOq.out.1 hB.out) (And.intro (hOq.out.2.1.trans (hB.out.mono hOq.out.2.1.size)) (And.intro ((hB.out.cell (p := ⟨wk.heap.size, 0, none⟩) hPr).trans hOq.out.2.2.1) ((hB.out.cell (p := ⟨wk.heap.size, 1, none⟩) hPr).trans hOq.out.2.2.2))))
                    have hPz : wk.heap.size < wr.heap.size := Nat.lt_of_lt_of_le hPr hB.out.size
                    clear hOq Hks Hka hB hkn
                    cases kn
                    · have hN := Lib.hid (Hno.out hkA.symm)
                      clear hkA Hno Hyes
                      have hkd : kid s kk = s ++ (⟨#[97, 98, 99]⟩ : ByteArray).extract kk (kk + 1) := rfl
                      have hez : ((⟨#[97, 98, 99]⟩ : ByteArray).extract kk (kk + 1)).size ≤ 1 := by
                        rw [ByteArray.size_extract]
                        omega
                      rw [hkd] at hN
                      have hA1 : (s.size : Int) ≤ 8388608 := by omega
                      have hA2 : (((⟨#[97, 98, 99]⟩ : ByteArray).extract kk (kk + 1)).size : Int) ≤ 8388608 := by omega
                      have hA3 : ¬ (9223372036854775807 < s.size + ((⟨#[97, 98, 99]⟩ : ByteArray).extract kk (kk + 1)).size) := by omega
                      have hA4 : s.size + ((⟨#[97, 98, 99]⟩ : ByteArray).extract kk (kk + 1)).size ≤ 9223372036854775807 := by omega
                      have hOa := Lib.hid (hOr.out.1.alloc (.cells #[.int .i64 (x : Int), .string (s ++ (⟨#[97, 98, 99]⟩ : ByteArray).extract kk (kk + 1))] 55))
                      have hBa := Lib.hid (hOr.out.2.1.alloc hOr.out.2.1.size (.cells #[.int .i64 (x : Int), .string (s ++ (⟨#[97, 98, 99]⟩ : ByteArray).extract kk (kk + 1))] 55))
                      clear hez hkd
                      have hwr : IntKind.i64.wrap ((kk : Int) + 1) = (kk : Int) + 1 := IntWalk.i64_in _ (by omega)
                      have hkn : ((kk : Int) + 1).toNat = kk + 1 := by omega
                      have hk0 : (0 : Int) ≤ (kk : Int) + 1 := by omega
                      have hkk1 : (kk : Int) ≤ (kk : Int) + 1 := by omega
                      have z0 := hOr.out.2.2.1
                      have z1 := hOr.out.2.2.2
                      go_wp2_with fail
                      go_region_held_law (fun w' => w'.cell? ⟨wk.heap.size, 0, none⟩ = some (.int .i64 (g : Int)) ∧ w'.cell? ⟨wk.heap.size, 1, none⟩ = some (.string s)) (go_keep)
                        (first | (refine step_append_at _ rfl (.tmp 78) (.tmp 88) 56 rfl w.heap.size 55 i0 _ 2 24 Tryz.underlying56 HR.out.1 HR.out.2.1 HR.out.2.2.1 HR.out.2.2.2 rfl (by decide) (.slice Al R'.length cl) R'.length (row2 encS R') (by simp [Act.eval]) hOa.out ⟨wr.heap.size, 0, none⟩ 1 1 [.int .i64 (x : Int), .string (s ++ (⟨#[97, 98, 99]⟩ : ByteArray).extract kk (kk + 1))] (by simp [Act.eval]) rfl (cells_two _ _ _ _) (one_two rfl rfl) (by unfold maxLen; omega) (by omega) (Nat.le_trans hOr.out.2.1.size (by simp)) (fun v5 w5 ho5 hg5 hv5 => ?_); have e0 := cell_grown (w := wr.drew) hg5 hne.out hPz 0 _ hOr.out.2.2.1; have e1 := cell_grown (w := wr.drew) hg5 hne.out hPz 1 _ hOr.out.2.2.2))
                      have hB5 := hBa.out.drew.grown hg5 hBa.out.size (fun j hj => by have := (hOa.out.lt j hj).1; omega)
                      have ho6 : w5.ownsRow w.heap.size 55 2 v5 (R' ++ [(x, s ++ (⟨#[97, 98, 99]⟩ : ByteArray).extract kk (kk + 1))]).length (row2 encS (R' ++ [(x, s ++ (⟨#[97, 98, 99]⟩ : ByteArray).extract kk (kk + 1))])) := by
                        rw [← row2_snoc, List.length_append]
                        exact ho5
                      have hne5 : Hid (v5.ownBlock ≠ some wk.heap.size) := fun e => by
                        rcases hv5 with e2 | e2
                        · exact hne.out (e2.symm.trans e)
                        · have e3 := e2.symm.trans e
                          injection e3 with e3
                          simp at e3
                          omega
                      have H7 := Lib.hid (And.intro ho6 (And.intro hB5 (And.intro e0 (And.intro e1 hne5))))
                      clear ho5 ho6 hB5 e0 e1 hg5 hv5 hne5 hOa hBa hOr z0 z1
                      go_wp2
                      go_roundw
                      case rel => exact ⟨kk + 1, _, by omega, by go_num, hN.out.symm, H7.out⟩
                      case measure => simp [intOf]; omega
                    · have hN := Lib.hid (Hyes.out hkA.symm)
                      clear hkA Hno Hyes
                      go_wp2_with fail
                      go_roundw
                      case rel => exact ⟨kk + 1, R', by omega, by go_num, hN.out.symm, hOr.out.1, hOr.out.2.1, hOr.out.2.2.1, hOr.out.2.2.2, hne⟩
                      case measure => simp [intOf]; omega
          · obtain rfl : kk = L := by omega
            have hN : Hid (R' = rs T n kk from0 (k + 1)) := by show _ = _; rw [hR'.out, hnx.out]
            go_wp2_with fail
            go_roundw
            case rel => exact ⟨k + 1, R', by omega, by go_num, hN, hF, hO.out.1, hO.out.2.1⟩
            case measure => simp [intOf]; omega
      · have hFs := hHit hob
        rw [hob] at h1
        subst hFs
        clear hob hHit hNx
        go_wp2_with fail
        refine (h1.out _).mono ?_
        rintro e w' ⟨rfl, rfl⟩
        go_wp2_with fail
        go_ret2
        exact ⟨rfl, hBa.out⟩
    · have hend : fnd T n L from0 (4097 - k) k = none := fnd_end (by rw [← hR.out]; exact hlt)
      have hFn : F = none := hF.out.symm.trans hend
      subst hFn
      have hlt' : ¬ (k : Int) < (R.length : Int) := by omega
      clear hend hinv
      go_wp2_with fail
      go_ret2
      exact ⟨rfl, hO.out.2⟩
end Go.Proofs.YtlapmjligdjniaaGreatDoor

namespace Go.Proofs.YtlapmjligdjniaaGreatDoor
open Go.RowKit Go.Shelf

theorem gv_empty (ss : List ByteArray) : gvOk ss ⟨#[]⟩ = stOk ss := by
  unfold gvOk
  rw [show W.good (⟨#[]⟩ : ByteArray).data.toList = true from rfl, show W.krWd (ltrs ss : Nat) (⟨#[]⟩ : ByteArray).data.toList = true from rfl]
  simp
theorem pair_bits (i j : Nat) (hi : i < 12) (hj : j < 12) : bits .or .i64 (IntKind.i64.wrap ((2 : Int) ^ i)) (IntKind.i64.wrap ((2 : Int) ^ j)) = ((2 ^ i ||| 2 ^ j : Nat) : Int) := by
  have hp : 2 ^ i < 65536 := Nat.pow_lt_pow_right (n := 16) (by omega) (by omega)
  have hq : 2 ^ j < 65536 := Nat.pow_lt_pow_right (n := 16) (by omega) (by omega)
  rw [show ((2 : Int) ^ i) = ((2 ^ i : Nat) : Int) by simp, show ((2 : Int) ^ j) = ((2 ^ j : Nat) : Int) by simp]
  generalize 2 ^ i = p at hp ⊢
  generalize 2 ^ j = q at hq ⊢
  rw [IntWalk.i64_in (p : Int) (by omega), IntWalk.i64_in (q : Int) (by omega)]
  exact i64_or_nat p q hp hq
set_option maxHeartbeats 1600000 in
theorem spec_ShortestStepWord (A : Option Addr) (ss : List ByteArray) (c : Nat) (w : World) (h : Row w w.heap.size A (strs ss)) (hcap : ss.length ≤ c) (hl : ss.length ≤ 9223372036854775807) (hs : ∀ s ∈ ss, s.size ≤ 9223372036854775807) :
    Calls Tryz.prog 7 #[.slice A ss.length c] w fun e w' => e = .returned (.tuple #[.string (txOf (ssO ss)), .bool (ssO ss).isSome]) ∧ Below w.heap.size w w' := by
  have hg := spec_syGiven A ss c ⟨#[]⟩ w h hcap hl hs (by decide)
  rw [gv_empty] at hg
  cases hq : stOk ss
  · rw [ssO_no hq]
    rw [hq, gvT_no ((gv_empty ss).trans hq)] at hg
    replace hg := Lib.hid hg
    clear h hs hq
    go_enter Tryz.func7, Tryz.ntmps7
    go_wp2_with fail
    refine hg.out.mono ?_
    rintro e w1 ⟨A1, c1, rfl, ho, hB⟩
    go_wp2_with fail
    go_ret2
    exact ⟨rfl, hB⟩
  · rw [ssO_yes hq]
    rw [hq, gvT_yes ((gv_empty ss).trans hq)] at hg
    obtain ⟨hn0, hn11⟩ := st_bounds hq
    have hg2 := Lib.hid (given_tab hg)
    have hp : 2 ^ (inB ss).length ≤ 2048 := Nat.pow_le_pow_right (n := 2) (by omega) hn11
    have hp1 : 0 < 2 ^ (inB ss).length := Nat.two_pow_pos _
    have hrun := Lib.hid (fun (A1 : Option Addr) (c1 : Nat) (u : World) (g : RowTab u u.heap.size A1 ss) => spec_sySearch A1 ss c1 (2 ^ (inB ss).length - 1) u g hn0 hn11 (by omega))
    have e1 : Hid (wrap64 (wrap64 ((2 : Int) ^ (inB ss).length) - 1) = ((2 ^ (inB ss).length - 1 : Nat) : Int)) := by
      show _ = _
      rw [show ((2 : Int) ^ (inB ss).length) = ((2 ^ (inB ss).length : Nat) : Int) by simp]
      generalize 2 ^ (inB ss).length = p at hp hp1 ⊢
      rw [IntWalk.wrap64_in (p : Int) (by omega), IntWalk.wrap64_in ((p : Int) - 1) (by omega)]
      omega
    rw [← e1.out] at hrun
    generalize found (tr ss) (inB ss).length (ltrs ss) (2 ^ (inB ss).length - 1) = F at hrun ⊢
    generalize (inB ss).length = n at *
    clear h hs hq hg hp hp1
    go_enter Tryz.func7, Tryz.ntmps7
    go_wp2_with fail
    refine hg2.out.mono ?_
    rintro e w1 ⟨A1, c1, rfl, hT, hB⟩
    have HB := Lib.hid hB
    have hr1 := Lib.hid (hrun.out A1 c1 w1 hT)
    clear hB hT
    go_wp2_with fail
    refine hr1.out.mono ?_
    rintro e w2 ⟨rfl, hB2⟩
    go_wp2_with fail
    go_ret2
    exact ⟨rfl, HB.out.trans (hB2.mono HB.out.size)⟩
set_option maxRecDepth 100000 in
set_option maxHeartbeats 3200000 in
theorem spec_MeetingWord (A : Option Addr) (ss : List ByteArray) (c : Nat) (i j : Int) (w : World) (h : Row w w.heap.size A (strs ss)) (hcap : ss.length ≤ c) (hl : ss.length ≤ 9223372036854775807) (hs : ∀ s ∈ ss, s.size ≤ 9223372036854775807) :
    Calls Tryz.prog 11 #[.slice A ss.length c, .int .i64 i, .int .i64 j] w fun e w' => e = .returned (.tuple #[.string (txOf (mwO ss i j)), .bool (mwO ss i j).isSome]) ∧ Below w.heap.size w w' := by
  have hg := spec_syGiven A ss c ⟨#[]⟩ w h hcap hl hs (by decide)
  rw [gv_empty] at hg
  cases hq : stOk ss
  · rw [mwO_no (show mwOk ss i j = false by unfold mwOk; rw [hq]; rfl)]
    rw [hq, gvT_no ((gv_empty ss).trans hq)] at hg
    replace hg := Lib.hid hg
    clear h hs hq
    go_enter Tryz.func11, Tryz.ntmps11
    go_wp2_with fail
    refine hg.out.mono ?_
    rintro e w1 ⟨A1, c1, rfl, ho, hB⟩
    go_wp2_with fail
    go_ret2
    exact ⟨rfl, hB⟩
  · rw [hq, gvT_yes ((gv_empty ss).trans hq)] at hg
    obtain ⟨hn0, hn11⟩ := st_bounds hq
    have hg2 := Lib.hid (given_tab hg)
    have hin1 := Lib.hid (fun u => spec_l1In i 0 (((inB ss).length : Int) - 1) u)
    have hin2 := Lib.hid (fun u => spec_l1In j 0 (((inB ss).length : Int) - 1) u)
    by_cases hi : 0 ≤ i ∧ i < (inB ss).length
    · rw [show decide ((0 : Int) ≤ i ∧ i ≤ ((inB ss).length : Int) - 1) = true from decide_eq_true (by omega)] at hin1
      by_cases hj : 0 ≤ j ∧ j < (inB ss).length
      · rw [show decide ((0 : Int) ≤ j ∧ j ≤ ((inB ss).length : Int) - 1) = true from decide_eq_true (by omega)] at hin2
        obtain ⟨p, rfl⟩ := Int.eq_ofNat_of_zero_le hi.1
        obtain ⟨q, rfl⟩ := Int.eq_ofNat_of_zero_le hj.1
        rw [mwO_yes (show mwOk ss (p : Int) (q : Int) = true by unfold mwOk; rw [hq, decide_eq_true hi, decide_eq_true hj]; rfl)]
        have hpn : p < (inB ss).length := by omega
        have hqn : q < (inB ss).length := by omega
        have hrun := Lib.hid (fun (A1 : Option Addr) (c1 : Nat) (u : World) (g : RowTab u u.heap.size A1 ss) => spec_sySearch A1 ss c1 (2 ^ p ||| 2 ^ q) u g hn0 hn11 (pair_lt hpn hqn))
        have hbits := pair_bits p q (by omega) (by omega)
        have hp0 : (0 : Int) ≤ (p : Int) := by omega
        have hq0 : (0 : Int) ≤ (q : Int) := by omega
        generalize found (tr ss) (inB ss).length (ltrs ss) (2 ^ p ||| 2 ^ q) = F at hrun ⊢
        rw [← hbits] at hrun
        generalize (inB ss).length = n at *
        clear hbits
        clear h hs hq hg hi hj
        go_enter Tryz.func11, Tryz.ntmps11
        go_wp2_with fail
        refine hg2.out.mono ?_
        rintro e w1 ⟨A1, c1, rfl, hT, hB⟩
        have HB := Lib.hid hB
        have HT := Lib.hid hT
        clear hB hT
        go_wp2_with fail
        refine (hin1.out _).mono ?_
        rintro e w2 ⟨rfl, rfl⟩
        go_wp2_with fail
        refine (hin2.out _).mono ?_
        rintro e w2 ⟨rfl, rfl⟩
        go_wp2_with fail
        have hr1 := Lib.hid (hrun.out A1 c1 w1.drew HT.out)
        go_region_with (go_at_call 16; refine hr1.out.mono ?_; rintro e w2 ⟨rfl, hB2⟩)
        all_goals
          have hB3 := Lib.hid (HB.out.drew.trans (hB2.mono HB.out.size))
          clear hB2
          go_wp2
          go_ret2
          exact ⟨rfl, hB3.out⟩
      · rw [mwO_no (show mwOk ss i j = false by unfold mwOk; rw [decide_eq_false hj]; simp)]
        rw [show decide ((0 : Int) ≤ j ∧ j ≤ ((inB ss).length : Int) - 1) = false from decide_eq_false (by omega)] at hin2
        generalize (inB ss).length = n at *
        clear h hs hq hg hi hj
        go_enter Tryz.func11, Tryz.ntmps11
        go_wp2_with fail
        refine hg2.out.mono ?_
        rintro e w1 ⟨A1, c1, rfl, hT, hB⟩
        go_wp2_with fail
        refine (hin1.out _).mono ?_
        rintro e w2 ⟨rfl, rfl⟩
        go_wp2_with fail
        refine (hin2.out _).mono ?_
        rintro e w2 ⟨rfl, rfl⟩
        go_wp2_with fail
        go_ret2
        exact ⟨rfl, hB⟩
    · rw [mwO_no (show mwOk ss i j = false by unfold mwOk; rw [decide_eq_false hi]; simp)]
      rw [show decide ((0 : Int) ≤ i ∧ i ≤ ((inB ss).length : Int) - 1) = false from decide_eq_false (by omega)] at hin1
      generalize (inB ss).length = n at *
      clear h hs hq hg hi
      go_enter Tryz.func11, Tryz.ntmps11
      go_wp2_with fail
      refine hg2.out.mono ?_
      rintro e w1 ⟨A1, c1, rfl, hT, hB⟩
      go_wp2_with fail
      refine (hin1.out _).mono ?_
      rintro e w2 ⟨rfl, rfl⟩
      go_wp2_with fail
      go_ret2
      exact ⟨rfl, hB⟩
set_option maxRecDepth 100000 in
set_option maxHeartbeats 3200000 in
theorem spec_CanBeInStep (A : Option Addr) (ss : List ByteArray) (c : Nat) (w : World) (h : Row w w.heap.size A (strs ss)) (hcap : ss.length ≤ c) (hl : ss.length ≤ 9223372036854775807) (hs : ∀ s ∈ ss, s.size ≤ 9223372036854775807) :
    Calls Tryz.prog 13 #[.slice A ss.length c] w fun e w' => e = .returned (.tuple #[.bool (ciOf ss), .bool (stOk ss)]) ∧ Below w.heap.size w w' := by
  have hg := spec_syGiven A ss c ⟨#[]⟩ w h hcap hl hs (by decide)
  rw [gv_empty] at hg
  cases hq : stOk ss
  · rw [ciOf_no hq]
    rw [hq, gvT_no ((gv_empty ss).trans hq)] at hg
    replace hg := Lib.hid hg
    clear h hs hq
    go_enter Tryz.func13, Tryz.ntmps13
    go_wp2_with fail
    refine hg.out.mono ?_
    rintro e w1 ⟨A1, c1, rfl, ho, hB⟩
    go_wp2_with fail
    go_ret2
    exact ⟨rfl, hB⟩
  · rw [ciOf_yes hq]
    obtain ⟨Rv, hRv⟩ : ∃ x, x = allB ss (inB ss).length := ⟨_, rfl⟩
    rw [← hRv]
    replace hRv := Lib.hid hRv
    rw [hq, gvT_yes ((gv_empty ss).trans hq)] at hg
    obtain ⟨hn0, hn11⟩ := st_bounds hq
    have hg2 := Lib.hid (given_tab hg)
    have hrun := Lib.hid (fun (A1 : Option Addr) (c1 p q : Nat) (hp : p < (inB ss).length) (hq : q < (inB ss).length) (u : World) (g : RowTab u u.heap.size A1 ss) => (show Calls Tryz.prog 16 #[.slice A1 (inB ss).length c1, .int .i64 (bits .or .i64 (IntKind.i64.wrap ((2 : Int) ^ p)) (IntKind.i64.wrap ((2 : Int) ^ q)))] u fun e w' => ∃ t, e = .returned (.tuple #[.string t, .bool (meetB ss p q)]) ∧ Below u.heap.size u w' from by
      rw [pair_bits p q (by omega) (by omega)]
      exact (spec_sySearch A1 ss c1 (2 ^ p ||| 2 ^ q) u g hn0 hn11 (pair_lt hp hq)).mono fun e w' h => ⟨_, h⟩))
    have Hr0 : Hid (∀ i, rowB ss i 0 = true) := fun _ => rfl
    have Ha0 : Hid (allB ss 0 = true) := rfl
    have Hrs := Lib.hid (rowB_succ ss)
    have Has := Lib.hid (allB_succ ss)
    have Hrn := Lib.hid (rowB_no ss)
    have Han := Lib.hid (allB_no ss)
    generalize (inB ss).length = n at *
    clear h hs hq hg
    go_enter Tryz.func13, Tryz.ntmps13
    go_wp2_with fail
    refine hg2.out.mono ?_
    rintro e w1 ⟨A1, c1, rfl, hT, hB⟩
    have HB := Lib.hid hB
    have HT := Lib.hid hT
    have Hr1 := Lib.hid (fun (p q : Nat) (hp : p < n) (hq : q < n) (u : World) (hB : Below w1.heap.size w1 u) => hrun.out A1 c1 p q hp hq u ((HT.out.below hB).more hB.size))
    clear hB hT hrun hg2 HT
    go_wp2_with fail
    go_loopw [19] (fun iv wr => ∃ k : Nat, k ≤ n ∧ iv = .int .i64 k ∧ Hid (allB ss k = true) ∧ Hid (Below w1.heap.size w1 wr)) (fun iv _ => n - (intOf iv).toNat)
    case atStart => exact ⟨0, Nat.zero_le _, rfl, Ha0.out, Below.refl _ _⟩
    case round =>
      clear Ha0
      obtain ⟨k, hk, rfl, hall, hB1⟩ := hrel
      by_cases hlt : k < n
      · have hlt' : (k : Int) < (n : Int) := by omega
        generalize wr = wk at *
        go_wp2_with fail
        go_loopw [7] (fun jv wr => ∃ q : Nat, q ≤ k ∧ jv = .int .i64 q ∧ Hid (rowB ss k q = true) ∧ Hid (Below w1.heap.size w1 wr)) (fun jv _ => k - (intOf jv).toNat)
        case atStart => exact ⟨0, Nat.zero_le _, rfl, Hr0.out k, hB1⟩
        case round =>
          clear hB1
          obtain ⟨q, hq, rfl, hrow, hB2⟩ := hrel
          by_cases hlq : q < k
          · have hlq' : (q : Int) < (k : Int) := by omega
            have hr2 := Lib.hid (Hr1.out k q hlt (by omega) wr.drew hB2.out.drew)
            have hrs := Hrs.out k q
            rw [hrow.out, Bool.true_and] at hrs
            have hk0 : (0 : Int) ≤ (k : Int) := by omega
            have hq0 : (0 : Int) ≤ (q : Int) := by omega
            cases hm : meetB ss k q
            · rw [hm] at hr2 hrs
              have hfin : allB ss n = false := by
                refine Han.out (k + 1) n (by omega) ?_
                rw [Has.out, Hrn.out k (q + 1) k hlq hrs, Bool.and_false]
              obtain rfl : Rv = false := hRv.out.trans hfin
              clear hm hrs hfin
              go_wp2_with fail
              go_region_with (go_at_call 16; refine hr2.out.mono ?_; rintro e w2 ⟨t, rfl, hB3⟩)
              all_goals
                have hB4 := Lib.hid (HB.out.trans ((hB2.out.drew.trans (hB3.mono hB2.out.size)).mono HB.out.size))
                clear hB3
                go_wp2
                go_ret2
                exact ⟨rfl, hB4.out⟩
            · rw [hm] at hr2 hrs
              replace hrs := Lib.hid hrs
              clear hm
              go_wp2_with fail
              go_region_with (go_at_call 16; refine hr2.out.mono ?_; rintro e w2 ⟨t, rfl, hB3⟩)
              all_goals
                have hB4 := Lib.hid (hB2.out.drew.trans (hB3.mono hB2.out.size))
                clear hB3
                go_wp2
                go_roundw
                case rel => exact ⟨q + 1, by omega, by go_num, hrs, hB4⟩
                case measure => simp [intOf]; omega
          · obtain rfl : q = k := by omega
            have has : Hid (allB ss (q + 1) = true) := by
              show _ = _
              rw [Has.out, hall.out, hrow.out]
              rfl
            go_wp2_with fail
            go_roundw
            case rel => exact ⟨q + 1, by omega, by go_num, has, hB2⟩
            case measure => simp [intOf]; omega
      · obtain rfl : k = n := by omega
        obtain rfl : Rv = true := hRv.out.trans hall.out
        clear hall
        go_wp2_with fail
        go_ret2
        exact ⟨rfl, HB.out.trans (hB1.out.mono HB.out.size)⟩
end Go.Proofs.YtlapmjligdjniaaGreatDoor
