/-
  WHAT THIS FILE PROVES: plain facts on a search for the first word with two readings that follows the least end first; no program in sight.
-/
import Derived.Test.YtiemoocdffobgaaDoorFirst
import Derived.Test.YtiemoocdffobgaaDoorHas
import Derived.Deep.LoopGhost
namespace Go.Proofs.YtiemoocdffobgaaDoor
open Go.RowKit Go.ChangeMaps Go.Maps Go.Shelf
open W (le)

theorem entries_str {w : World} {b n : Nat} {D : DataW Unit} (h : w.ownsMap Tryd.prog 9 (plainElem Tryd.prog 9) b n D) : ∃ es, D = .map es ∧ ∀ p ∈ es, ∃ s : ByteArray, p.1 = .string s.data.toList := by
  obtain ⟨es, clock, _, F, _, rfl⟩ := h
  refine ⟨_, rfl, fun p hp => ?_⟩
  obtain ⟨x, hx, rfl⟩ := List.mem_map.1 (mem_sorted.1 hp)
  obtain ⟨y, hy⟩ := F.reads x hx
  rw [WideElems.rg_of hy]
  obtain ⟨s, _, h2, _⟩ := key_str_inv (WideElems.rd_key hy)
  exact ⟨s, h2⟩
theorem opens_size {w : World} {b n : Nat} {g : ByteArray → Option ByteArray} {D : DataW Unit} (h1 : w.ownsMap Tryd.prog 9 (plainElem Tryd.prog 9) b n D) (h2 : ∀ (x : ByteArray) z, D.atKey (.string x.data.toList) z = glW (g x) z) :
    (Maps.size D = 0 → ∀ x, g x = none) ∧ (Maps.size D ≠ 0 → ∃ x v, g x = some v) := by
  have hh := OpenAt.has h2
  obtain ⟨es, rfl, hes⟩ := entries_str h1
  refine ⟨fun h0 x => ?_, fun h0 => ?_⟩
  · have e : es = [] := List.eq_nil_of_length_eq_zero h0
    subst e
    have := hh x
    cases hg : g x with
    | none => rfl
    | some v =>
      rw [hg] at this
      cases this
  · cases es with
    | nil => exact absurd rfl h0
    | cons p r =>
      obtain ⟨s, hs⟩ := hes p (List.mem_cons_self ..)
      have := hh s
      have h3 : Maps.has (DataW.map (p :: r)) (.string s.data.toList) = true := by
        rw [Maps.has_eq, List.any_cons, hs]
        simp [Lit.sameKey]
      rw [h3] at this
      obtain ⟨v, hv⟩ := Option.isSome_iff_exists.1 this.symm
      exact ⟨s, v, hv⟩
def opn (g : ByteArray → Option ByteArray) (x : ByteArray) (w : List UInt8) : Prop := ∃ v, g x = some v ∧ v.data.toList = w
theorem mem_ends0 {ss : List ByteArray} {x v : ByteArray} : (x, v) ∈ ends0 ss ss.length ↔ v ∈ ss ∧ x ∈ rests ss [v] := by
  unfold ends0 endsAt
  rw [List.take_length]
  simp only [List.mem_flatMap, List.mem_map, Prod.mk.injEq]
  constructor
  · rintro ⟨s, hs, y, hy, rfl, rfl⟩
    exact ⟨hs, hy⟩
  · rintro ⟨hv, hx⟩
    exact ⟨v, hv, x, hx, rfl, rfl⟩
theorem mem_endsAt {f : ByteArray → ByteArray} {rs : List ByteArray} {x v : ByteArray} : (x, v) ∈ endsAt f rs ↔ x ∈ rs ∧ v = f x := by
  unfold endsAt
  simp only [List.mem_map, Prod.mk.injEq]
  constructor
  · rintro ⟨y, hy, rfl, rfl⟩
    exact ⟨hy, rfl⟩
  · rintro ⟨hx, rfl⟩
    exact ⟨x, hx, rfl, rfl⟩
theorem mem_rests1 {ss : List ByteArray} {x u : ByteArray} : x ∈ rests ss [u] ↔ ∃ t, t ∈ ss ∧ x ∈ restOf t u := by
  rw [mem_rests]
  simp
theorem mem_rests2 {ss : List ByteArray} {x u : ByteArray} : x ∈ rests [u] ss ↔ ∃ t, t ∈ ss ∧ x ∈ restOf u t := by
  rw [mem_rests]
  simp
theorem first_inv {ss : List ByteArray} {g : ByteArray → Option ByteArray} (h : Puts noF noG (ends0 ss ss.length) g) : DInv ss (fun _ => none) (opn g) none := by
  obtain ⟨h1, _, h3⟩ := h
  refine ⟨fun s t x hs ht hx => ?_, fun _ _ _ _ h => by (cases h), fun _ _ _ _ h => by (cases h), fun _ _ h => by (cases h), fun u w ⟨v, hv, e⟩ => ?_, fun _ h => by (cases h), fun _ _ h => by (cases h), fun _ _ _ _ h => by (cases h)⟩
  · rcases h3 x t (mem_ends0.2 ⟨ht, mem_rests1.2 ⟨s, hs, hx⟩⟩) with h | ⟨v', h4, h5⟩
    · cases h
    · exact .inr (.inl ⟨_, ⟨v', h4, rfl⟩, h5⟩)
  · subst e
    rcases h1 u v hv with h | ⟨h, _⟩
    · cases h
    · obtain ⟨hv, hx⟩ := mem_ends0.1 h
      obtain ⟨s, hs, hx⟩ := mem_rests1.1 hx
      exact .start hs hv hx
theorem app_toList (a b : ByteArray) : (a ++ b).data.toList = a.data.toList ++ b.data.toList := by
  rw [ByteArray.data_append, Array.toList_append]
/-- a round of the search -/
theorem round_inv {ss : List ByteArray} {f : ByteArray → Option (List UInt8)} {g g' : ByteArray → Option ByteArray} {F : ByteArray → Bool} {u v : ByteArray} (h : DInv ss f (opn g) none) (hg : g u = some v) (hmin : ∀ y w, g y = some w → le v.data.toList w.data.toList) (hf : f u = none) (hu : u ∉ ss)
    (hF : ∀ x, F x = (upd f u v.data.toList x).isSome)
    (hP : Puts F (fun y => if y = u then none else g y) (endsAt (fun _ => v) (rests ss [u]) ++ endsAt (fun x => v ++ x) (rests [u] ss)) g') : DInv ss (upd f u v.data.toList) (opn g') none := by
  obtain ⟨h1, h2, h3⟩ := hP
  have hov : opn g u v.data.toList := ⟨v, hg, rfl⟩
  have hm : ∀ y w, opn g y w → le v.data.toList w := fun y w ⟨w', h4, h5⟩ => by subst h5; exact hmin y w' h4
  have cov : ∀ x w, (x, w) ∈ endsAt (fun _ => v) (rests ss [u]) ++ endsAt (fun x => v ++ x) (rests [u] ss) → le v.data.toList w.data.toList → Cov (upd f u v.data.toList) (opn g') none x w.data.toList := fun x w hx hle => by
    rcases h3 x w hx with h4 | ⟨w', h4, h5⟩
    · rw [hF] at h4
      obtain ⟨z, hz⟩ := Option.isSome_iff_exists.1 h4
      refine .inl ⟨z, hz, ?_⟩
      by_cases e : x = u
      · subst e
        rw [upd_same] at hz
        injection hz with hz
        subst hz
        exact hle
      · rw [upd_other f _ e] at hz
        exact W.le_trans (h.mono _ _ _ _ hz hov) hle
    · exact .inr (.inl ⟨_, ⟨w', h4, rfl⟩, h5⟩)
  refine h.step hov hm hf (fun x w ⟨w', h4, h5⟩ hne => ?_) (fun t x ht hx => ?_) (fun t x ht hx => ?_) (fun x w ⟨w', h4, h5⟩ => ?_) (fun v h => by cases h) (fun v h => by cases h) (fun hs => absurd hs hu)
  · subst h5
    obtain ⟨w2, h6, h7⟩ := h2 x w' (show (if x = u then none else g x) = some w' by rw [if_neg hne]; exact h4)
    exact .inl ⟨_, ⟨w2, h6, rfl⟩, h7⟩
  · exact cov x v (List.mem_append_left _ (mem_endsAt.2 ⟨mem_rests1.2 ⟨t, ht, hx⟩, rfl⟩)) (W.le_refl _)
  · have := cov x (v ++ x) (List.mem_append_right _ (mem_endsAt.2 ⟨mem_rests2.2 ⟨t, ht, hx⟩, rfl⟩)) (by rw [app_toList]; exact W.le_append _ _)
    rwa [app_toList] at this
  · subst h5
    rcases h1 x w' h4 with h6 | ⟨h6, _⟩
    · by_cases e : x = u
      · have h6 : (if x = u then none else g x) = some w' := h6
        rw [if_pos e] at h6
        cases h6
      · have h6 : (if x = u then none else g x) = some w' := h6
        rw [if_neg e] at h6
        exact .inl ⟨w', h6, rfl⟩
    · rcases List.mem_append.1 h6 with h6 | h6
      · obtain ⟨h6, e⟩ := mem_endsAt.1 h6
        obtain ⟨t, ht, hx⟩ := mem_rests1.1 h6
        exact .inr (.inl ⟨t, ht, hx, by rw [e]⟩)
      · obtain ⟨h6, e⟩ := mem_endsAt.1 h6
        obtain ⟨t, ht, hx⟩ := mem_rests2.1 h6
        exact .inr (.inr ⟨t, ht, hx, by rw [e, app_toList]⟩)

def marked (u : ByteArray) (F : List UInt8 → Bool) : List UInt8 → Bool := fun x => decide (x = u.data.toList) || F x
def delM (g : ByteArray → Option ByteArray) (u : ByteArray) : ByteArray → Option ByteArray := fun y => if y = u then none else g y
def markB (u : ByteArray) (F : List UInt8 → Bool) : ByteArray → Bool := fun x => marked u F x.data.toList
/-- the state of the search: the ends that have been followed, the words by which, what is open -/
structure DSt (ss fs : List ByteArray) (f : ByteArray → Option (List UInt8)) (g : ByteArray → Option ByteArray) (F : List UInt8 → Bool) : Prop where
  nodup : fs.Nodup
  mem : ∀ x, x ∈ fs ↔ f x ≠ none
  inv : DInv ss f (opn g) none
  mark : ∀ x : ByteArray, F x.data.toList = (f x).isSome
  sep : ∀ x v, g x = some v → f x = none
  size : ∀ x v, g x = some v → v.size ≤ 8 + 7 * fs.length
theorem DSt.few {ss fs : List ByteArray} {f : ByteArray → Option (List UInt8)} {g : ByteArray → Option ByteArray} {F : List UInt8 → Bool} (h : DSt ss fs f g F) (hset : W.isSet ss = true) : fs.length ≤ 84 :=
  Nat.le_trans (G.nodup_le _ _ h.nodup (fun x hx => by
    obtain ⟨w, hw⟩ := Option.ne_none_iff_exists'.1 ((h.mem x).1 hx)
    exact db_mem hset (h.inv.fR _ _ hw))) (dS_length hset)
theorem DSt.first {ss : List ByteArray} {g : ByteArray → Option ByteArray} (hset : W.isSet ss = true) (h : Puts noF noG (ends0 ss ss.length) g) : DSt ss [] (fun _ => none) g (fun _ => false) := by
  refine ⟨List.nodup_nil, fun x => by simp, first_inv h, fun _ => rfl, fun _ _ _ => rfl, fun x v hv => ?_⟩
  rcases h.1 x v hv with h1 | ⟨h1, _⟩
  · cases h1
  · have := set_size hset (mem_ends0.1 h1).1
    simp
    omega
theorem DSt.next {ss fs : List ByteArray} {f : ByteArray → Option (List UInt8)} {g g' : ByteArray → Option ByteArray} {F : List UInt8 → Bool} {u v : ByteArray} (h : DSt ss fs f g F) (hset : W.isSet ss = true) (hg : g u = some v) (hmin : ∀ y w, g y = some w → le v.data.toList w.data.toList) (hu : u ∉ ss)
    (hP : Puts (markB u F) (delM g u) (endsAt (fun _ => v) (rests ss [u]) ++ endsAt (fun x => v ++ x) (rests [u] ss)) g') :
    DSt ss (fs ++ [u]) (upd f u v.data.toList) g' (marked u F) := by
  have hf := h.sep _ _ hg
  have hmark : ∀ x : ByteArray, (decide (x.data.toList = u.data.toList) || F x.data.toList) = (upd f u v.data.toList x).isSome := fun x => by
    by_cases e : x = u
    · subst e
      rw [upd_same, decide_eq_true rfl]
      rfl
    · rw [upd_other f _ e, h.mark, decide_eq_false (fun e2 => e (data_inj e2))]
      rfl
  have hun : u ∉ fs := fun hm => (h.mem u).1 hm hf
  have hsz : ∀ x v', g' x = some v' → v'.size ≤ 8 + 7 * (fs ++ [u]).length := fun x v' hx => by
    rw [List.length_append, List.length_singleton]
    rcases hP.1 x v' hx with h1 | ⟨h1, _⟩
    · have h1 : (if x = u then none else g x) = some v' := h1
      by_cases e : x = u
      · rw [if_pos e] at h1; cases h1
      · rw [if_neg e] at h1
        have := h.size _ _ h1
        omega
    · have hv := h.size _ _ hg
      rcases List.mem_append.1 h1 with h1 | h1
      · obtain ⟨_, rfl⟩ := mem_endsAt.1 h1
        omega
      · obtain ⟨h9, rfl⟩ := mem_endsAt.1 h1
        obtain ⟨t, ht, hx1⟩ := mem_rests2.1 h9
        have h7 := db_size hset ((h.inv.oR u v.data.toList ⟨v, hg, rfl⟩).on ht hx1)
        rw [ByteArray.size_append]
        omega
  refine ⟨?_, fun x => ?_, round_inv h.inv hg hmin hf hu hmark hP, hmark, fun x v' hx => ?_, hsz⟩
  · rw [List.nodup_append]
    exact ⟨h.nodup, by simp, fun a ha b hb e => by
      rw [List.mem_singleton] at hb
      subst hb
      subst e
      exact hun ha⟩
  · rw [List.mem_append, List.mem_singleton]
    by_cases e : x = u
    · subst e
      rw [upd_same]
      simp
    · rw [upd_other f _ e, ← h.mem]
      simp [e]
  · rcases hP.1 x v' hx with h1 | ⟨_, h1⟩
    · have h1 : (if x = u then none else g x) = some v' := h1
      by_cases e : x = u
      · rw [if_pos e] at h1; cases h1
      · rw [if_neg e] at h1
        rw [upd_other f _ e]
        exact h.sep _ _ h1
    · have h1 : (decide (x.data.toList = u.data.toList) || F x.data.toList) = false := h1
      rw [hmark] at h1
      cases hq : upd f u v.data.toList x with
      | none => rfl
      | some z => rw [hq] at h1; cases h1

def FDx (ss : List ByteArray) (x : ByteArray) (ok : Bool) : Prop := FD ss (cond ok (some x.data.toList) none)
def GivesDouble (w0 : World) (ss : List ByteArray) (e : Ending) (w' : World) : Prop :=
  ∃ (x : ByteArray) (ok : Bool), e = .returned (.tuple #[.string x, .bool ok]) ∧ FDx ss x ok ∧ x.size ≤ 1000 ∧ Below w0.heap.size w0 w'


end Go.Proofs.YtiemoocdffobgaaDoor
