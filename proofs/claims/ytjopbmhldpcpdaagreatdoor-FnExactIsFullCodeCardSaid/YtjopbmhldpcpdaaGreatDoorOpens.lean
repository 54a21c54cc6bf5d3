/-
  WHAT THIS FILE PROVES: a map from texts to texts that the call itself has made: what it tells of a text, a store of the lesser word, and taking away the end with the least word, whatever the order in which the map is ranged over; asked: texts of lengths that are allowed.
-/
import Derived.Test.YtjopbmhldpcpdaaGreatDoorDbl
import Derived.Test.YtjopbmhldpcpdaaGreatDoorSeen
import Derived.Test.YtjopbmhldpcpdaaGreatDoorPair
import Derived.Maps.RangeWalk
namespace Go.Proofs.YtjopbmhldpcpdaaGreatDoor
open Go.RowKit Go.ChangeMaps Go.Maps
open W (le)

def glW (o : Option ByteArray) (z : DataW Unit) : DataW Unit :=
  match o with
  | some v => .lit (.string v.data.toList)
  | none => z
/-- block b is a map of at most n entries with the text g x at a text x -/
def OpenAt (w : World) (b n : Nat) (g : ByteArray → Option ByteArray) : Prop :=
  ∃ D : DataW Unit, w.ownsMap Tryz.prog 9 (plainElem Tryz.prog 9) b n D ∧ ∀ (x : ByteArray) z, D.atKey (.string x.data.toList) z = glW (g x) z
theorem opens_made (w : World) : OpenAt (w.alloc (.map #[] 0)) w.heap.size 0 (fun _ => none) := ⟨.map [], World.ownsMap_made _ _ _ _, fun _ _ => rfl⟩
theorem OpenAt.lt {w : World} {b n : Nat} {g : ByteArray → Option ByteArray} (h : OpenAt w b n g) : b < w.heap.size := by
  obtain ⟨D, h1, _⟩ := h
  exact h1.lt
theorem OpenAt.kept {w w' : World} {b n : Nat} {g : ByteArray → Option ByteArray} {row : Option Nat} (h : OpenAt w b n g) (hg : w.grownBy w' row) (hne : some b ≠ row) : OpenAt w' b n g := by
  obtain ⟨D, h1, h2⟩ := h
  exact ⟨D, h1.kept hg hne, h2⟩
theorem OpenAt.below {w w' : World} {b n : Nat} {g : ByteArray → Option ByteArray} (h : OpenAt w b n g) (hB : Below w.heap.size w w') : OpenAt w' b n g :=
  h.kept (row := none) ⟨hB.os, hB.tape, hB.output, hB.size, fun k hk _ => hB.block k hk⟩ (by simp)
theorem OpenAt.mono {w : World} {b n n' : Nat} {g : ByteArray → Option ByteArray} (h : OpenAt w b n g) (hn : n ≤ n') : OpenAt w b n' g := by
  obtain ⟨D, h1, h2⟩ := h
  exact ⟨D, h1.mono hn, h2⟩
/-- a row of cells is no map -/
theorem OpenAt.ne {w : World} {b n base e m : Nat} {g : ByteArray → Option ByteArray} {v : Value} {vs : List Value} (h : OpenAt w b n g) (ho : w.ownsRow base e 1 v m vs) : some b ≠ v.ownBlock := by
  obtain ⟨D, ⟨es, clock, hb, _⟩, _⟩ := h
  rcases ho.2 with ⟨rfl, _⟩ | ⟨g, cap, cur, rfl, _, hh, _⟩
  · simp [Value.ownBlock]
  · intro e
    simp only [Value.ownBlock, Option.some.injEq] at e
    subst e
    rw [hb] at hh
    cases hh
theorem plain_str_inv0 {H : Type} {P : Program} {e : TypeId} (he : P.underlying e = some .string) {v : Value} {z : DataW H × List MemPlace} (h : plainElem P e v = some z) : ∃ s : ByteArray, v = .string s ∧ z = (.lit (.string s.data.toList), []) ∧ s.size ≤ maxLen := by
  unfold plainElem at h
  rw [he] at h
  cases v <;> simp at h
  exact ⟨_, rfl, h.2.symm, h.1⟩
theorem key_str_inv0 {P : Program} {e : TypeId} (he : P.underlying e = some .string) {key : Value} {kl : Lit} (h : keyOf P e key = some kl) : ∃ s : ByteArray, key = .string s ∧ kl = .string s.data.toList ∧ s.size ≤ maxLen := by
  cases key <;> simp [keyOf, he, mapKey] at h
  exact ⟨_, rfl, h.2.symm, h.1⟩
theorem plain_str_inv {H : Type} {v : Value} {z : DataW H × List MemPlace} (h : plainElem Tryz.prog 9 v = some z) : ∃ s : ByteArray, v = .string s ∧ z = (.lit (.string s.data.toList), []) ∧ s.size ≤ maxLen := plain_str_inv0 Tryz.underlying9 h
theorem key_str_inv {key : Value} {kl : Lit} (h : keyOf Tryz.prog 9 key = some kl) : ∃ s : ByteArray, key = .string s ∧ kl = .string s.data.toList ∧ s.size ≤ maxLen := key_str_inv0 Tryz.underlying9 h
theorem zero_str (w : World) : (zeroValue 9).run Tryz.prog w = .ok (.string ByteArray.empty) w := by kernel_rfl
theorem lit_str_inj {a b : List UInt8} (h : (DataW.lit (.string a) : DataW Unit) = .lit (.string b)) : a = b := Lit.string.inj (DataW.lit.inj h)
theorem glW_some {o : Option ByteArray} {c : ByteArray} (h : ∀ z, glW o z = .lit (.string c.data.toList)) : o = some c := by
  cases o with
  | none => have := h .nil; exact absurd this (by unfold glW; exact fun e => by cases e)
  | some v => rw [data_inj (lit_str_inj (h .nil))]
theorem OpenAt.has {D : DataW Unit} {g : ByteArray → Option ByteArray} (h2 : ∀ (x : ByteArray) z, D.atKey (.string x.data.toList) z = glW (g x) z) (s : ByteArray) : Maps.has D (.string s.data.toList) = (g s).isSome := by
  cases hg : g s with
  | none => exact Maps.has_false_of_atKey (fun z => by rw [h2, hg]; rfl)
  | some v => exact Maps.has_true_of_atKey (y := .lit (.string v.data.toList)) (fun z => by rw [h2, hg]; rfl)
theorem opens_look {w : World} {b n : Nat} {g : ByteArray → Option ByteArray} (h : OpenAt w b n g) (s : ByteArray) (hs : s.size ≤ maxLen) :
    (Instr.lookup 61 (.map (some b)) (.string s) true).run Tryz.prog w = .ok (.tuple #[.string ((g s).getD ByteArray.empty), .bool (g s).isSome]) w := by
  obtain ⟨D, h1, h2⟩ := h
  obtain ⟨v, ps, hrun, hv⟩ := h1.look_ok (t := 61) (Maps.string_keyed Tryz.underlying9) Tryz.underlying61 (zero_str w) (plainElem_string Tryz.underlying9 (s := ByteArray.empty) (by unfold maxLen; decide)) (WideMaps.keyOf_string_mk Tryz.underlying9 hs)
  obtain ⟨c, rfl, hc, _⟩ := plain_str_inv hv
  rw [hrun, OpenAt.has h2 s]
  have e := congrArg Prod.fst hc
  rw [h2] at e
  cases hg : g s with
  | none =>
    rw [hg] at e
    have : c = ByteArray.empty := data_inj (lit_str_inj e).symm
    rw [this]
    rfl
  | some v =>
    rw [hg] at e
    have : c = v := data_inj (lit_str_inj e).symm
    rw [this]
    rfl
/-- the lesser word is kept -/
def keepM (o : Option ByteArray) (v : ByteArray) : ByteArray :=
  match o with
  | none => v
  | some k => if W.less v.data.toList k.data.toList then v else k
def putM (g : ByteArray → Option ByteArray) (x v : ByteArray) : ByteArray → Option ByteArray := fun y => if y = x then some (keepM (g x) v) else g y
theorem putM_same (g : ByteArray → Option ByteArray) (x v : ByteArray) : putM g x v x = some (keepM (g x) v) := by unfold putM; rw [if_pos rfl]
theorem putM_other (g : ByteArray → Option ByteArray) {x y : ByteArray} (v : ByteArray) (h : y ≠ x) : putM g x v y = g y := by unfold putM; rw [if_neg h]
theorem keepM_le (o : Option ByteArray) (v : ByteArray) : le (keepM o v).data.toList v.data.toList := by
  cases o with
  | none => exact W.le_refl _
  | some k =>
    show le (if _ then v else k).data.toList _
    cases h : W.less v.data.toList k.data.toList
    · rw [if_neg (by simp)]; exact h
    · rw [if_pos rfl]; exact W.le_refl _
theorem keepM_old (k v : ByteArray) : le (keepM (some k) v).data.toList k.data.toList := by
  show le (if _ then v else k).data.toList _
  cases h : W.less v.data.toList k.data.toList
  · rw [if_neg (by simp)]; exact W.le_refl _
  · rw [if_pos rfl]; exact W.le_of_less h
theorem keepM_or (o : Option ByteArray) (v : ByteArray) : keepM o v = v ∨ o = some (keepM o v) := by
  cases o with
  | none => exact .inl rfl
  | some k =>
    show (if _ then v else k) = v ∨ some k = some (if _ then v else k)
    cases h : W.less v.data.toList k.data.toList
    · rw [if_neg (by simp)]; exact .inr rfl
    · rw [if_pos rfl]; exact .inl rfl
theorem OpenAt.stored {w' : World} {b n : Nat} {g : ByteArray → Option ByteArray} {D : DataW Unit} (h1 : Maps.IsMap D) (h2 : ∀ (x : ByteArray) z, D.atKey (.string x.data.toList) z = glW (g x) z) (x v : ByteArray)
    (ho : w'.ownsMap Tryz.prog 9 (plainElem Tryz.prog 9) b n (D.put (.string x.data.toList) (.lit (.string v.data.toList)))) : OpenAt w' b n (fun y => if y = x then some v else g y) := by
  refine ⟨_, ho, fun y z => ?_⟩
  by_cases e : y = x
  · subst e
    rw [Maps.atKey_put_same h1 (by trivial)]
    show _ = glW (if y = y then some v else g y) z
    rw [if_pos rfl]
    rfl
  · rw [Maps.atKey_put_other (fun e2 => e (data_inj (by injection e2))), h2]
    show _ = glW (if y = x then some v else g y) z
    rw [if_neg e]
theorem OpenAt.struck {w' : World} {b n : Nat} {g : ByteArray → Option ByteArray} {D : DataW Unit} (h2 : ∀ (x : ByteArray) z, D.atKey (.string x.data.toList) z = glW (g x) z) (x : ByteArray)
    (ho : w'.ownsMap Tryz.prog 9 (plainElem Tryz.prog 9) b n (D.del (.string x.data.toList))) : OpenAt w' b n (fun y => if y = x then none else g y) := by
  refine ⟨_, ho, fun y z => ?_⟩
  by_cases e : y = x
  · subst e
    rw [Maps.atKey_del_same]
    show _ = glW (if y = y then none else g y) z
    rw [if_pos rfl]
    rfl
  · rw [Maps.atKey_del_other (fun e2 => e (data_inj (by injection e2))), h2]
    show _ = glW (if y = x then none else g y) z
    rw [if_neg e]

set_option maxHeartbeats 800000 in
theorem impl_put (b n : Nat) (g : ByteArray → Option ByteArray) (x v : ByteArray) (w : World) (h : OpenAt w b n g) (hn : n < maxLen) (hx : x.size ≤ maxLen) (hv : v.size ≤ maxLen) :
    Calls Tryz.prog 52 #[.map (some b), .string x, .string v] w fun e w' => e = .returned (.tuple #[]) ∧ OpenAt w' b (n + 1) (putM g x v) ∧ w.grownBy w' (some b) := by
  have hlk := opens_look h x hx
  have hput : ∀ w' : World, OpenAt w' b (n + 1) (fun y => if y = x then some (keepM (g x) v) else g y) → OpenAt w' b (n + 1) (putM g x v) := fun _ h => h
  replace hput := Lib.hid hput
  cases hg : g x with
  | none =>
    rw [hg] at hlk hput
    obtain ⟨D, h1, h2⟩ := h
    have hD := h1.isMap
    replace h2 := Lib.hid h2
    replace hg := Lib.hid hg
    have H1 := Lib.hid h1
    clear h1
    go_enter Tryz.func52, Tryz.ntmps52
    go_wp2_with (at_mapUpdate; refine wpList_mapUpdate_own _ rfl _ _ _ 61 rfl 9 9 (Maps.string_keyed Tryz.underlying9) Tryz.underlying61 _ b n D rfl H1.out hn (.string x) (.string v) (.string x.data.toList) rfl rfl (WideMaps.keyOf_string_mk Tryz.underlying9 hx) (.lit (.string v.data.toList)) [] (plainElem_string Tryz.underlying9 hv) ?_)
    intro w1 hown1 hg1
    go_wp2
    go_end0
    exact ⟨rfl, hput.out _ (OpenAt.stored hD h2.out x v hown1), hg1⟩
  | some k =>
    rw [hg] at hlk hput
    have hcw := fun W => impl_compareWords v k W
    cases hless : W.less v.data.toList k.data.toList
    · have hc : decide (W.cw v.data.toList k.data.toList < 0) = false := by rw [W.cw_neg]; exact hless
      generalize W.cw v.data.toList k.data.toList = o at hc hcw
      have hc' : ¬ o < 0 := by simpa using hc
      have hq : Hid (∀ w' : World, OpenAt w' b n g → OpenAt w' b (n + 1) (putM g x v)) := fun w' h' => by
        obtain ⟨D, h1, h2⟩ := h'.mono (Nat.le_succ n)
        refine ⟨D, h1, fun y z => ?_⟩
        rw [h2]
        by_cases e : y = x
        · subst e
          rw [putM_same, hg]
          show glW (some k) z = glW (some (if _ then v else k)) z
          rw [hless]
          rfl
        · rw [putM_other g v e]
      have H := Lib.hid h
      replace hg := Lib.hid hg
      replace hcw := Lib.hid hcw
      clear h hless hput
      go_enter Tryz.func52, Tryz.ntmps52
      go_wp2_with (go_at_call 59; refine (hcw.out _).mono ?_; rintro e w' ⟨rfl, rfl⟩)
      go_end0
      exact ⟨rfl, hq.out _ (H.out.kept (World.grownBy_alloc _ _ none) (by simp)), (World.grownBy_alloc _ _ none).but _⟩
    · have hc : decide (W.cw v.data.toList k.data.toList < 0) = true := by rw [W.cw_neg]; exact hless
      generalize W.cw v.data.toList k.data.toList = o at hc hcw
      have hc' : o < 0 := by simpa using hc
      have hkv : keepM (some k) v = v := by
        show (if _ then v else k) = v
        rw [hless]
        rfl
      rw [hkv] at hput
      obtain ⟨D, h1, h2⟩ := h
      have hD := h1.isMap
      replace h2 := Lib.hid h2
      replace hg := Lib.hid hg
      replace hcw := Lib.hid hcw
      have H1 := Lib.hid (fun O => h1.alloc O)
      clear h1 hless hkv
      go_enter Tryz.func52, Tryz.ntmps52
      go_wp2_with (first
        | (go_at_call 59; refine (hcw.out _).mono ?_; rintro e w' ⟨rfl, rfl⟩)
        | (at_mapUpdate; refine wpList_mapUpdate_own _ rfl _ _ _ 61 rfl 9 9 (Maps.string_keyed Tryz.underlying9) Tryz.underlying61 _ b n D rfl (H1.out _) hn (.string x) (.string v) (.string x.data.toList) rfl rfl (WideMaps.keyOf_string_mk Tryz.underlying9 hx) (.lit (.string v.data.toList)) [] (plainElem_string Tryz.underlying9 hv) ?_))
      intro w1 hown1 hg1
      go_wp2
      go_end0
      exact ⟨rfl, hput.out _ (OpenAt.stored hD h2.out x v hown1), ((World.grownBy_alloc _ _ none).but _).andThen hg1 (fun j hj => .inr hj)⟩

end Go.Proofs.YtjopbmhldpcpdaaGreatDoor
