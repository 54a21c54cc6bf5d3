/-
  WHAT THIS FILE PROVES: whether a word can meet in a set, plain: whether some end that it leads to is a word of the set; and the program's functions tell it; asked: a slice of texts in memory, lengths that an int holds.
-/
import Derived.Test.YtlmcemdbalhkiaaDoorMtI
import Derived.Test.YtlmcemdbalhkiaaDoorIsSet
import Derived.Maps.OwnSet
namespace Go.Proofs.YtlmcemdbalhkiaaDoor
open Go.RowKit Go.ChangeMaps Go.Maps Go.Shelf
open W (le)

/-- an end at first, ahead by itself -/
def only (r : ByteArray) : ByteArray → List UInt8 → Prop := fun x v => x = r ∧ v = r.data.toList
/-- the ends of a word, itself too -/
def sufs (r : ByteArray) : List ByteArray := (List.range r.size).map fun i => r.extract i r.size
theorem mem_sufs {r x : ByteArray} : x ∈ sufs r ↔ ∃ i, i < r.size ∧ x = r.extract i r.size := by
  unfold sufs
  simp only [List.mem_map, List.mem_range]
  constructor
  · rintro ⟨i, hi, rfl⟩; exact ⟨i, hi, rfl⟩
  · rintro ⟨i, hi, rfl⟩; exact ⟨i, hi, rfl⟩
theorem sufs_step {ss : List ByteArray} {r x y : ByteArray} (hx : x ∈ sufs r) (he : dE ss x y) : y ∈ dS ss ++ sufs r := by
  obtain ⟨i, hi, rfl⟩ := mem_sufs.1 hx
  have hsz := drop_size r i
  obtain ⟨u, hu, hy | hy⟩ := he
  · obtain ⟨h1, rfl, _⟩ := restOf_mem hy
    refine List.mem_append_right _ (mem_sufs.2 ⟨i + u.size, by omega, data_inj ?_⟩)
    rw [drop_toList, drop_toList, drop_toList, List.drop_drop]
  · obtain ⟨h1, rfl, _⟩ := restOf_mem hy
    exact List.mem_append_left _ (mem_dS.2 ⟨u, hu, r.size - i - 1, by omega, by rw [hsz, show r.size - i - 1 + 1 = r.size - i by omega]⟩)
theorem sufs_self {r : ByteArray} (h : 1 ≤ r.size) : r ∈ sufs r := mem_sufs.2 ⟨0, by omega, data_inj (by rw [drop_toList]; rfl)⟩
theorem ends_only {ss : List ByteArray} (hset : W.isSet ss = true) {r : ByteArray} (h1 : 1 ≤ r.size) (h8 : r.size ≤ 8) : Mt.Ends ss (only r) (dS ss ++ sufs r) where
  start x v := fun ⟨e1, e2⟩ => by
    subst e1 e2
    exact ⟨List.mem_append_right _ (sufs_self h1), by rw [← Lib.size_eq]; exact h1⟩
  step x y hx he := by
    rcases List.mem_append.1 hx with hx | hx
    · exact List.mem_append_left _ (dS_step x y hx he)
    · exact sufs_step hx he
  few := by
    have := dS_length hset
    rw [List.length_append]
    have e : (sufs r).length = r.size := by simp [sufs]
    omega
  size x hx := by
    rcases List.mem_append.1 hx with hx | hx
    · obtain ⟨t, ht, i, hi, rfl⟩ := mem_dS.1 hx
      have := set_size hset ht
      rw [drop_size]
      omega
    · obtain ⟨i, hi, rfl⟩ := mem_sufs.1 hx
      rw [drop_size]
      omega
def gOne (r : ByteArray) : ByteArray → Option ByteArray := fun y => if y = r then some r else none
theorem gOne_some {r x v : ByteArray} (h : gOne r x = some v) : x = r ∧ v = r := by
  unfold gOne at h
  split at h
  · rename_i e
    injection h with h
    exact ⟨e, h.symm⟩
  · cases h
theorem dst_only {ss : List ByteArray} {r : ByteArray} (h8 : r.size ≤ 8) : Mt.DSt ss (only r) [] (fun _ => none) (gOne r) (fun _ => false) where
  nodup := List.nodup_nil
  mem x := by simp
  inv := {
    start := fun x v ⟨e1, e2⟩ => by
      subst e1 e2
      exact .inr (.inl ⟨_, ⟨x, by unfold gOne; rw [if_pos rfl], rfl⟩, W.le_refl _⟩)
    off := fun _ _ _ _ h => by cases h
    on := fun _ _ _ _ h => by cases h
    fR := fun _ _ h => by cases h
    oR := fun u w ⟨v, h1, h2⟩ => by
      obtain ⟨e1, e2⟩ := gOne_some h1
      subst e1 h2
      exact .start ⟨rfl, by rw [e2]⟩
    bR := fun _ h => by cases h
    hit := fun _ _ h => by cases h
    mono := fun _ _ _ _ h => by cases h }
  mark _ := rfl
  sep _ _ _ := rfl
  size x v h := by
    obtain ⟨e1, e2⟩ := gOne_some h
    subst e2
    omega
/-- the word can meet in the set -/
def Meets (ss : List ByteArray) (r : ByteArray) : Prop := ∃ w u, Mt.Db ss (only r) w u ∧ u ∈ ss
noncomputable def mtB (ss : List ByteArray) (r : ByteArray) : Bool := @decide (Meets ss r) (Classical.propDecidable _)
theorem mtB_iff {ss : List ByteArray} {r : ByteArray} : mtB ss r = true ↔ Meets ss r := by unfold mtB; exact @decide_eq_true_iff _ (Classical.propDecidable _)
theorem mtB_yes {ss : List ByteArray} {r : ByteArray} (h : Meets ss r) : mtB ss r = true := mtB_iff.2 h
theorem mtB_no {ss : List ByteArray} {r : ByteArray} (h : ¬ Meets ss r) : mtB ss r = false := by
  cases hb : mtB ss r
  · rfl
  · exact absurd (mtB_iff.1 hb) h
theorem fd_meets {ss : List ByteArray} {r x : ByteArray} {ok : Bool} (h : Mt.FDx ss (only r) x ok) : ok = mtB ss r := by
  unfold Mt.FDx at h
  cases ok
  · refine (mtB_no fun ⟨w, u, hd, hu⟩ => ?_).symm
    exact h.2 rfl w u hd hu
  · obtain ⟨⟨u, hu, hd⟩, _⟩ := h.1 _ rfl
    exact (mtB_yes ⟨_, u, hd, hu⟩).symm

theorem insert_own {H : Type} {P : Program} (w : World) {ops : Array Oper} {rest : List Oper} {o : Oper} {a : Act} {Q : Exit → Act → World → Prop}
    (hg : o.guard = none) (m x v : Operand) (t : TypeId) (hop : o.op = Op.insert t m x v)
    (k e : TypeId) (K : Maps.Keyed P k) (ht : P.underlying t = some (.map k e)) (R : Value → Option (DataW H × List MemPlace)) (b n : Nat) (D : DataW H)
    (hm : a.eval m = .map (some b)) (hown : w.ownsMap P k R b n D) (hn : n < maxLen) (key val : Value) (kl : Lit) (hx : a.eval x = key) (hv : a.eval v = val) (hkey : keyOf P k key = some kl)
    (d : DataW H) (ps : List MemPlace) (hval : R val = some (d, ps))
    (hK : ∀ w', w'.ownsMap P k R b (n + 1) (D.put kl d) → w.grownBy w' (some b) → wpList P ops Q rest (a.put o.dst undef) w') :
    wpList P ops Q (o :: rest) a w := by
  refine wpList_plain hg fun K' hK' => ?_
  obtain ⟨w', hrun, r1, r2⟩ := hown.update K ht hn hkey hval
  unfold Oper.wp
  simp [execOp, hop, hm, hx, hv, hrun, Result.andThen]
  exact hK' _ _ (hK w' r1 r2)

set_option maxHeartbeats 1600000 in
set_option maxRecDepth 100000 in
theorem impl_canMeet (A : Option Addr) (ss : List ByteArray) (c : Nat) (r : ByteArray) (w : World) (h : Row w w.heap.size A (strs ss)) (hset : W.isSet ss = true) (h1 : 1 ≤ r.size) (h8 : r.size ≤ 8) :
    Calls Tryd.prog 48 #[.slice A ss.length c, .string r] w fun e w' => e = .returned (.bool (mtB ss r)) ∧ Below w.heap.size w w' := by
  have hfm := Lib.hid (fun (u : World) (hB : Below w.heap.size w u) (hO : OpenAt u w.heap.size 4096 (gOne r)) => Mt.impl_firstMeeting A ss c w u h hset hB w.heap.size (gOne r) (only r) _ (ends_only hset h1 h8) (Nat.le_refl _) hO (dst_only h8))
  have hmm := @run_makeMap Tryd.prog
  obtain ⟨q, hq⟩ : ∃ q, q = mtB ss r := ⟨_, rfl⟩
  rw [← hq]
  replace hq := Lib.hid hq
  clear h hset
  go_enter Tryd.func48, Tryd.ntmps48
  go_wp2_with (refine insert_own (H := Unit) _ rfl _ _ _ 74 rfl 9 9 (Maps.string_keyed Tryd.underlying9) Tryd.underlying74 _ w.heap.size 0 (.map []) rfl (World.ownsMap_made _ _ _ _) (by unfold maxLen; omega) (.string r) (.string r) (.string r.data.toList) rfl rfl (WideMaps.keyOf_string_mk Tryd.underlying9 (by unfold maxLen; omega)) (.lit (.string r.data.toList)) [] (plainElem_string Tryd.underlying9 (by unfold maxLen; omega)) ?_)
  intro w1 hmap1 hg1
  have hO1 : OpenAt w1 w.heap.size 4096 (gOne r) := (OpenAt.stored (g := fun _ => none) (D := .map []) ⟨[], rfl⟩ (fun _ _ => rfl) r r hmap1).mono (by omega)
  have hB1 : Below w.heap.size w w1 := ((Below.refl _ w).alloc (Nat.le_refl _) _).grown hg1 (by simp) (fun g hg => by injection hg with hg; omega)
  have hc := Lib.hid (hfm.out w1 hB1 hO1)
  clear hmap1 hg1 hO1 hB1 hfm hmm
  go_wp2_with fail
  refine hc.out.mono ?_
  rintro e w2 ⟨x, ok, rfl, hfd, _, hB2⟩
  have hok := (fd_meets hfd).trans hq.out.symm
  have HB := Lib.hid hB2
  clear hfd hB2 hc
  subst hok
  go_wp2
  go_ret
  exact ⟨rfl, HB.out⟩

def cmOk2 (ss : List ByteArray) (r : ByteArray) : Bool := W.isSet ss && W.short r
/-- what CanMeet tells -/
noncomputable def cmB (ss : List ByteArray) (r : ByteArray) : Bool := if cmOk2 ss r then mtB ss r else false
set_option maxHeartbeats 1600000 in
theorem impl_CanMeet (A : Option Addr) (ss : List ByteArray) (c : Nat) (r : ByteArray) (w : World) (h : Row w w.heap.size A (strs ss)) (hl : ss.length ≤ 9223372036854775807) (hs : ∀ s ∈ ss, s.size ≤ 9223372036854775807) (hr : r.size ≤ 9223372036854775807) :
    Calls Tryd.prog 28 #[.slice A ss.length c, .string r] w fun e w' => e = .returned (.tuple #[.bool (cmB ss r), .bool (cmOk2 ss r)]) ∧ Below w.heap.size w w' := by
  have hc := impl_IsSet A ss c w h hl hs
  have hf := fun u => impl_fitsInSet r u hr
  unfold cmB
  cases hq : W.isSet ss
  · rw [show cmOk2 ss r = false by unfold cmOk2; rw [hq]; rfl]
    rw [hq] at hc
    replace hc := Lib.hid hc
    clear hq h hs hf
    go_enter Tryd.func28, Tryd.ntmps28
    go_wp2_with (go_at_call 31; refine hc.out.mono ?_; rintro e w' ⟨rfl, hB⟩)
    go_ret2
    exact ⟨rfl, hB⟩
  · rw [hq] at hc
    cases hq2 : W.short r
    · rw [show cmOk2 ss r = false by unfold cmOk2; rw [hq2]; simp]
      rw [hq2] at hf
      replace hc := Lib.hid hc
      replace hf := Lib.hid hf
      clear hq hq2 h hs
      go_enter Tryd.func28, Tryd.ntmps28
      go_wp2_with fail
      refine hc.out.mono ?_
      rintro e w1 ⟨rfl, hB⟩
      have HB := Lib.hid hB
      clear hB
      go_wp2_with fail
      refine (hf.out _).mono ?_
      rintro e w2 ⟨rfl, hB2⟩
      have HB2 := Lib.hid (HB.out.trans (hB2.mono HB.out.size))
      clear hB2
      go_wp2
      go_ret2
      exact ⟨rfl, HB2.out⟩
    · rw [show cmOk2 ss r = true by unfold cmOk2; rw [hq, hq2]; rfl, if_pos rfl]
      rw [hq2] at hf
      have hsz := W.short_size _ hq2
      have hm := fun u g => impl_canMeet A ss c r u g hq hsz.1 hsz.2
      generalize mtB ss r = q at hm ⊢
      replace hc := Lib.hid hc
      replace hf := Lib.hid hf
      replace hm := Lib.hid hm
      replace h := Lib.hid h
      clear hq hq2 hs
      go_enter Tryd.func28, Tryd.ntmps28
      go_wp2_with fail
      refine hc.out.mono ?_
      rintro e w1 ⟨rfl, hB⟩
      have HB := Lib.hid hB
      clear hB
      go_wp2_with fail
      refine (hf.out _).mono ?_
      rintro e w2 ⟨rfl, hB2⟩
      have HB2 := Lib.hid (HB.out.trans (hB2.mono HB.out.size))
      clear hB2
      go_wp2_with fail
      refine (hm.out w2 ((h.out.below HB2.out).more HB2.out.size)).mono ?_
      rintro e w3 ⟨rfl, hB3⟩
      have HB3 := Lib.hid (HB2.out.trans (hB3.mono HB2.out.size))
      clear hB3
      go_wp2
      go_ret2
      exact ⟨rfl, HB3.out⟩
end Go.Proofs.YtlmcemdbalhkiaaDoor
