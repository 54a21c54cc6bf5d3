/-
  WHAT THIS FILE PROVES: plain facts on a search for the first word with two readings that follows the least end first; no program in sight; in the namespace Mt the same for a search for the first word with which two readings end together, one of them ahead by given ends at first.
-/
import Derived.Test.YtjopbmhldpcpdaaGreatDoorFirst
import Derived.Test.YtjopbmhldpcpdaaGreatDoorHas
import Derived.Deep.LoopGhost
namespace Go.Proofs.YtjopbmhldpcpdaaGreatDoor
open Go.RowKit Go.ChangeMaps Go.Maps Go.Shelf
open W (le)

theorem entries_str {w : World} {b n : Nat} {D : DataW Unit} (h : w.ownsMap Tryz.prog 9 (plainElem Tryz.prog 9) b n D) : ∃ es, D = .map es ∧ ∀ p ∈ es, ∃ s : ByteArray, p.1 = .string s.data.toList := by
  obtain ⟨es, clock, _, F, _, rfl⟩ := h
  refine ⟨_, rfl, fun p hp => ?_⟩
  obtain ⟨x, hx, rfl⟩ := List.mem_map.1 (mem_sorted.1 hp)
  obtain ⟨y, hy⟩ := F.reads x hx
  rw [WideElems.rg_of hy]
  obtain ⟨s, _, h2, _⟩ := key_str_inv (WideElems.rd_key hy)
  exact ⟨s, h2⟩
theorem opens_size {w : World} {b n : Nat} {g : ByteArray → Option ByteArray} {D : DataW Unit} (h1 : w.ownsMap Tryz.prog 9 (plainElem Tryz.prog 9) b n D) (h2 : ∀ (x : ByteArray) z, D.atKey (.string x.data.toList) z = glW (g x) z) :
    (Maps.size D = 0 → ∀ x, g x = none) ∧ (Maps.size D ≠ 0 → ∃ x v, g x = some v) := by
  have hh := OpenAt.has h2
  obtain ⟨es, rfl, hes⟩ := entries_str h1
  refine ⟨fun h0 x => ?_, fun h0 => ?_⟩
  · have e : es = [] := List.eq_nil_of_length_eq_zero h0
    subst e
    have := hh x
    cases hg : g x with
    | none => rfl
    | some v =>
      rw [hg] at this
      cases this
  · cases es with
    | nil => exact absurd rfl h0
    | cons p r =>
      obtain ⟨s, hs⟩ := hes p (List.mem_cons_self ..)
      have := hh s
      have h3 : Maps.has (DataW.map (p :: r)) (.string s.data.toList) = true := by
        rw [Maps.has_eq, List.any_cons, hs]
        simp [Lit.sameKey]
      rw [h3] at this
      obtain ⟨v, hv⟩ := Option.isSome_iff_exists.1 this.symm
      exact ⟨s, v, hv⟩
def opn (g : ByteArray → Option ByteArray) (x : ByteArray) (w : List UInt8) : Prop := ∃ v, g x = some v ∧ v.data.toList = w
theorem mem_ends0 {ss : List ByteArray} {x v : ByteArray} : (x, v) ∈ ends0 ss ss.length ↔ v ∈ ss ∧ x ∈ rests ss [v] := by
  unfold ends0 endsAt
  rw [List.take_length]
  simp only [List.mem_flatMap, List.mem_map, Prod.mk.injEq]
  constructor
  · rintro ⟨s, hs, y, hy, rfl, rfl⟩
    exact ⟨hs, hy⟩
  · rintro ⟨hv, hx⟩
    exact ⟨v, hv, x, hx, rfl, rfl⟩
theorem mem_endsAt {f : ByteArray → ByteArray} {rs : List ByteArray} {x v : ByteArray} : (x, v) ∈ endsAt f rs ↔ x ∈ rs ∧ v = f x := by
  unfold endsAt
  simp only [List.mem_map, Prod.mk.injEq]
  constructor
  · rintro ⟨y, hy, rfl, rfl⟩
    exact ⟨hy, rfl⟩
  · rintro ⟨hx, rfl⟩
    exact ⟨x, hx, rfl, rfl⟩
theorem mem_rests1 {ss : List ByteArray} {x u : ByteArray} : x ∈ rests ss [u] ↔ ∃ t, t ∈ ss ∧ x ∈ restOf t u := by
  rw [mem_rests]
  simp
theorem mem_rests2 {ss : List ByteArray} {x u : ByteArray} : x ∈ rests [u] ss ↔ ∃ t, t ∈ ss ∧ x ∈ restOf u t := by
  rw [mem_rests]
  simp
theorem first_inv {ss : List ByteArray} {g : ByteArray → Option ByteArray} (h : Puts noF noG (ends0 ss ss.length) g) : DInv ss (fun _ => none) (opn g) none := by
  obtain ⟨h1, _, h3⟩ := h
  refine ⟨fun s t x hs ht hx => ?_, fun _ _ _ _ h => by (cases h), fun _ _ _ _ h => by (cases h), fun _ _ h => by (cases h), fun u w ⟨v, hv, e⟩ => ?_, fun _ h => by (cases h), fun _ _ h => by (cases h), fun _ _ _ _ h => by (cases h)⟩
  · rcases h3 x t (mem_ends0.2 ⟨ht, mem_rests1.2 ⟨s, hs, hx⟩⟩) with h | ⟨v', h4, h5⟩
    · cases h
    · exact .inr (.inl ⟨_, ⟨v', h4, rfl⟩, h5⟩)
  · subst e
    rcases h1 u v hv with h | ⟨h, _⟩
    · cases h
    · obtain ⟨hv, hx⟩ := mem_ends0.1 h
      obtain ⟨s, hs, hx⟩ := mem_rests1.1 hx
      exact .start hs hv hx
theorem app_toList (a b : ByteArray) : (a ++ b).data.toList = a.data.toList ++ b.data.toList := by
  rw [ByteArray.data_append, Array.toList_append]
/-- a round of the search -/
theorem round_inv {ss : List ByteArray} {f : ByteArray → Option (List UInt8)} {g g' : ByteArray → Option ByteArray} {F : ByteArray → Bool} {u v : ByteArray} (h : DInv ss f (opn g) none) (hg : g u = some v) (hmin : ∀ y w, g y = some w → le v.data.toList w.data.toList) (hf : f u = none) (hu : u ∉ ss)
    (hF : ∀ x, F x = (upd f u v.data.toList x).isSome)
    (hP : Puts F (fun y => if y = u then none else g y) (endsAt (fun _ => v) (rests ss [u]) ++ endsAt (fun x => v ++ x) (rests [u] ss)) g') : DInv ss (upd f u v.data.toList) (opn g') none := by
  obtain ⟨h1, h2, h3⟩ := hP
  have hov : opn g u v.data.toList := ⟨v, hg, rfl⟩
  have hm : ∀ y w, opn g y w → le v.data.toList w := fun y w ⟨w', h4, h5⟩ => by subst h5; exact hmin y w' h4
  have cov : ∀ x w, (x, w) ∈ endsAt (fun _ => v) (rests ss [u]) ++ endsAt (fun x => v ++ x) (rests [u] ss) → le v.data.toList w.data.toList → Cov (upd f u v.data.toList) (opn g') none x w.data.toList := fun x w hx hle => by
    rcases h3 x w hx with h4 | ⟨w', h4, h5⟩
    · rw [hF] at h4
      obtain ⟨z, hz⟩ := Option.isSome_iff_exists.1 h4
      refine .inl ⟨z, hz, ?_⟩
      by_cases e : x = u
      · subst e
        rw [upd_same] at hz
        injection hz with hz
        subst hz
        exact hle
      · rw [upd_other f _ e] at hz
        exact W.le_trans (h.mono _ _ _ _ hz hov) hle
    · exact .inr (.inl ⟨_, ⟨w', h4, rfl⟩, h5⟩)
  refine h.step hov hm hf (fun x w ⟨w', h4, h5⟩ hne => ?_) (fun t x ht hx => ?_) (fun t x ht hx => ?_) (fun x w ⟨w', h4, h5⟩ => ?_) (fun v h => by cases h) (fun v h => by cases h) (fun hs => absurd hs hu)
  · subst h5
    obtain ⟨w2, h6, h7⟩ := h2 x w' (show (if x = u then none else g x) = some w' by rw [if_neg hne]; exact h4)
    exact .inl ⟨_, ⟨w2, h6, rfl⟩, h7⟩
  · exact cov x v (List.mem_append_left _ (mem_endsAt.2 ⟨mem_rests1.2 ⟨t, ht, hx⟩, rfl⟩)) (W.le_refl _)
  · have := cov x (v ++ x) (List.mem_append_right _ (mem_endsAt.2 ⟨mem_rests2.2 ⟨t, ht, hx⟩, rfl⟩)) (by rw [app_toList]; exact W.le_append _ _)
    rwa [app_toList] at this
  · subst h5
    rcases h1 x w' h4 with h6 | ⟨h6, _⟩
    · by_cases e : x = u
      · have h6 : (if x = u then none else g x) = some w' := h6
        rw [if_pos e] at h6
        cases h6
      · have h6 : (if x = u then none else g x) = some w' := h6
        rw [if_neg e] at h6
        exact .inl ⟨w', h6, rfl⟩
    · rcases List.mem_append.1 h6 with h6 | h6
      · obtain ⟨h6, e⟩ := mem_endsAt.1 h6
        obtain ⟨t, ht, hx⟩ := mem_rests1.1 h6
        exact .inr (.inl ⟨t, ht, hx, by rw [e]⟩)
      · obtain ⟨h6, e⟩ := mem_endsAt.1 h6
        obtain ⟨t, ht, hx⟩ := mem_rests2.1 h6
        exact .inr (.inr ⟨t, ht, hx, by rw [e, app_toList]⟩)

def marked (u : ByteArray) (F : List UInt8 → Bool) : List UInt8 → Bool := fun x => decide (x = u.data.toList) || F x
def delM (g : ByteArray → Option ByteArray) (u : ByteArray) : ByteArray → Option ByteArray := fun y => if y = u then none else g y
def markB (u : ByteArray) (F : List UInt8 → Bool) : ByteArray → Bool := fun x => marked u F x.data.toList
/-- the state of the search: the ends that have been followed, the words by which, what is open -/
structure DSt (ss fs : List ByteArray) (f : ByteArray → Option (List UInt8)) (g : ByteArray → Option ByteArray) (F : List UInt8 → Bool) : Prop where
  nodup : fs.Nodup
  mem : ∀ x, x ∈ fs ↔ f x ≠ none
  inv : DInv ss f (opn g) none
  mark : ∀ x : ByteArray, F x.data.toList = (f x).isSome
  sep : ∀ x v, g x = some v → f x = none
  size : ∀ x v, g x = some v → v.size ≤ 8 + 7 * fs.length
theorem DSt.few {ss fs : List ByteArray} {f : ByteArray → Option (List UInt8)} {g : ByteArray → Option ByteArray} {F : List UInt8 → Bool} (h : DSt ss fs f g F) (hset : W.isSet ss = true) : fs.length ≤ 84 :=
  Nat.le_trans (G.nodup_le _ _ h.nodup (fun x hx => by
    obtain ⟨w, hw⟩ := Option.ne_none_iff_exists'.1 ((h.mem x).1 hx)
    exact db_mem hset (h.inv.fR _ _ hw))) (dS_length hset)
theorem DSt.first {ss : List ByteArray} {g : ByteArray → Option ByteArray} (hset : W.isSet ss = true) (h : Puts noF noG (ends0 ss ss.length) g) : DSt ss [] (fun _ => none) g (fun _ => false) := by
  refine ⟨List.nodup_nil, fun x => by simp, first_inv h, fun _ => rfl, fun _ _ _ => rfl, fun x v hv => ?_⟩
  rcases h.1 x v hv with h1 | ⟨h1, _⟩
  · cases h1
  · have := set_size hset (mem_ends0.1 h1).1
    simp
    omega
theorem DSt.next {ss fs : List ByteArray} {f : ByteArray → Option (List UInt8)} {g g' : ByteArray → Option ByteArray} {F : List UInt8 → Bool} {u v : ByteArray} (h : DSt ss fs f g F) (hset : W.isSet ss = true) (hg : g u = some v) (hmin : ∀ y w, g y = some w → le v.data.toList w.data.toList) (hu : u ∉ ss)
    (hP : Puts (markB u F) (delM g u) (endsAt (fun _ => v) (rests ss [u]) ++ endsAt (fun x => v ++ x) (rests [u] ss)) g') :
    DSt ss (fs ++ [u]) (upd f u v.data.toList) g' (marked u F) := by
  have hf := h.sep _ _ hg
  have hmark : ∀ x : ByteArray, (decide (x.data.toList = u.data.toList) || F x.data.toList) = (upd f u v.data.toList x).isSome := fun x => by
    by_cases e : x = u
    · subst e
      rw [upd_same, decide_eq_true rfl]
      rfl
    · rw [upd_other f _ e, h.mark, decide_eq_false (fun e2 => e (data_inj e2))]
      rfl
  have hun : u ∉ fs := fun hm => (h.mem u).1 hm hf
  have hsz : ∀ x v', g' x = some v' → v'.size ≤ 8 + 7 * (fs ++ [u]).length := fun x v' hx => by
    rw [List.length_append, List.length_singleton]
    rcases hP.1 x v' hx with h1 | ⟨h1, _⟩
    · have h1 : (if x = u then none else g x) = some v' := h1
      by_cases e : x = u
      · rw [if_pos e] at h1; cases h1
      · rw [if_neg e] at h1
        have := h.size _ _ h1
        omega
    · have hv := h.size _ _ hg
      rcases List.mem_append.1 h1 with h1 | h1
      · obtain ⟨_, rfl⟩ := mem_endsAt.1 h1
        omega
      · obtain ⟨h9, rfl⟩ := mem_endsAt.1 h1
        obtain ⟨t, ht, hx1⟩ := mem_rests2.1 h9
        have h7 := db_size hset ((h.inv.oR u v.data.toList ⟨v, hg, rfl⟩).on ht hx1)
        rw [ByteArray.size_append]
        omega
  refine ⟨?_, fun x => ?_, round_inv h.inv hg hmin hf hu hmark hP, hmark, fun x v' hx => ?_, hsz⟩
  · rw [List.nodup_append]
    exact ⟨h.nodup, by simp, fun a ha b hb e => by
      rw [List.mem_singleton] at hb
      subst hb
      subst e
      exact hun ha⟩
  · rw [List.mem_append, List.mem_singleton]
    by_cases e : x = u
    · subst e
      rw [upd_same]
      simp
    · rw [upd_other f _ e, ← h.mem]
      simp [e]
  · rcases hP.1 x v' hx with h1 | ⟨_, h1⟩
    · have h1 : (if x = u then none else g x) = some v' := h1
      by_cases e : x = u
      · rw [if_pos e] at h1; cases h1
      · rw [if_neg e] at h1
        rw [upd_other f _ e]
        exact h.sep _ _ h1
    · have h1 : (decide (x.data.toList = u.data.toList) || F x.data.toList) = false := h1
      rw [hmark] at h1
      cases hq : upd f u v.data.toList x with
      | none => rfl
      | some z => rw [hq] at h1; cases h1

def FDx (ss : List ByteArray) (x : ByteArray) (ok : Bool) : Prop := FD ss (cond ok (some x.data.toList) none)
def GivesDouble (w0 : World) (ss : List ByteArray) (e : Ending) (w' : World) : Prop :=
  ∃ (x : ByteArray) (ok : Bool), e = .returned (.tuple #[.string x, .bool ok]) ∧ FDx ss x ok ∧ x.size ≤ 1000 ∧ Below w0.heap.size w0 w'


end Go.Proofs.YtjopbmhldpcpdaaGreatDoor

namespace Go.Proofs.YtjopbmhldpcpdaaGreatDoor.Mt
open Go.RowKit Go.ChangeMaps Go.Maps Go.Shelf
open W (le)

/-- a word is written so far in one reading, and the same but for an end in another one; at first as I says -/
inductive Db (ss : List ByteArray) (I : ByteArray → List UInt8 → Prop) : List UInt8 → ByteArray → Prop
  | start {x : ByteArray} {w : List UInt8} : I x w → Db ss I w x
  | off {w : List UInt8} {u t x : ByteArray} : Db ss I w u → t ∈ ss → x ∈ restOf t u → Db ss I w x
  | on {w : List UInt8} {u t x : ByteArray} : Db ss I w u → t ∈ ss → x ∈ restOf u t → Db ss I (w ++ x.data.toList) x
/-- where all ends lie -/
structure Ends (ss : List ByteArray) (I : ByteArray → List UInt8 → Prop) (ES : List ByteArray) : Prop where
  start : ∀ x v, I x v → x ∈ ES ∧ 1 ≤ v.length
  step : ∀ x y, x ∈ ES → dE ss x y → y ∈ ES
  few : ES.length ≤ 92
  size : ∀ x ∈ ES, 1 ≤ x.size ∧ x.size ≤ 8
theorem Ends.mem {ss : List ByteArray} {I : ByteArray → List UInt8 → Prop} {ES : List ByteArray} (h : Ends ss I ES) {w : List UInt8} {x : ByteArray} (hd : Db ss I w x) : x ∈ ES := by
  induction hd with
  | start hi => exact (h.start _ _ hi).1
  | off _ ht hx ih => exact h.step _ _ ih ⟨_, ht, .inl hx⟩
  | on _ ht hx ih => exact h.step _ _ ih ⟨_, ht, .inr hx⟩
theorem Ends.pos {ss : List ByteArray} {I : ByteArray → List UInt8 → Prop} {ES : List ByteArray} (h : Ends ss I ES) {w : List UInt8} {x : ByteArray} (hd : Db ss I w x) : 1 ≤ w.length := by
  induction hd with
  | start hi => exact (h.start _ _ hi).2
  | off _ _ _ ih => exact ih
  | on _ _ _ ih => rw [List.length_append]; omega

structure DInv (ss : List ByteArray) (I : ByteArray → List UInt8 → Prop) (f : ByteArray → Option (List UInt8)) (o : ByteArray → List UInt8 → Prop) (b : Option (List UInt8)) : Prop where
  start : ∀ x v, I x v → Cov f o b x v
  off : ∀ u w t x, f u = some w → t ∈ ss → x ∈ restOf t u → Cov f o b x w
  on : ∀ u w t x, f u = some w → t ∈ ss → x ∈ restOf u t → Cov f o b x (w ++ x.data.toList)
  fR : ∀ u w, f u = some w → Db ss I w u
  oR : ∀ u w, o u w → Db ss I w u
  bR : ∀ w, b = some w → ∃ u, u ∈ ss ∧ Db ss I w u
  hit : ∀ u w, f u = some w → u ∈ ss → ∃ v, b = some v ∧ le v w
  mono : ∀ u w x v, f u = some w → o x v → le w v
section
variable {ss : List ByteArray} {I : ByteArray → List UInt8 → Prop} {f : ByteArray → Option (List UInt8)} {o o' : ByteArray → List UInt8 → Prop} {b b' : Option (List UInt8)}
theorem DInv.cover (h : DInv ss I f o b) {w : List UInt8} {x : ByteArray} (hd : Db ss I w x) : (∃ v, f x = some v ∧ le v w) ∨ (∃ y v, o y v ∧ le v w) ∨ ∃ v, b = some v ∧ le v w := by
  have of : ∀ {x : ByteArray} {w : List UInt8}, Cov f o b x w → (∃ v, f x = some v ∧ le v w) ∨ (∃ y v, o y v ∧ le v w) ∨ ∃ v, b = some v ∧ le v w := fun hc => by
    rcases hc with ⟨w, h1, h2⟩ | ⟨w, h1, h2⟩ | ⟨w, h1, h2⟩
    · exact .inl ⟨w, h1, h2⟩
    · exact .inr (.inl ⟨_, w, h1, h2⟩)
    · exact .inr (.inr ⟨w, h1, h2⟩)
  induction hd with
  | start hi => exact of (h.start _ _ hi)
  | off _ ht hx ih =>
    rcases ih with ⟨v, h1, h2⟩ | ih
    · exact of ((h.off _ _ _ _ h1 ht hx).up h2)
    · exact .inr ih
  | on _ ht hx ih =>
    rcases ih with ⟨v, h1, h2⟩ | ⟨y, v, h1, h2⟩ | ⟨v, h1, h2⟩
    · exact of ((h.on _ _ _ _ h1 ht hx).up (W.le_append_right h2 _))
    · exact .inr (.inl ⟨y, v, h1, W.le_trans h2 (W.le_append _ _)⟩)
    · exact .inr (.inr ⟨v, h1, W.le_trans h2 (W.le_append _ _)⟩)
/-- what a search for the least word with two readings tells -/
def FD (ss : List ByteArray) (I : ByteArray → List UInt8 → Prop) (r : Option (List UInt8)) : Prop :=
  (∀ w, r = some w → (∃ u, u ∈ ss ∧ Db ss I w u) ∧ ∀ v u, Db ss I v u → u ∈ ss → le w v) ∧ (r = none → ∀ v u, Db ss I v u → u ∉ ss)
theorem FD.unique {r r' : Option (List UInt8)} (h : FD ss I r) (h' : FD ss I r') : r = r' := by
  cases r with
  | none =>
    cases r' with
    | none => rfl
    | some w => obtain ⟨⟨u, hu, hd⟩, _⟩ := h'.1 w rfl; exact absurd hu (h.2 rfl _ _ hd)
  | some w =>
    obtain ⟨⟨u, hu, hd⟩, h1⟩ := h.1 w rfl
    cases r' with
    | none => exact absurd hu (h'.2 rfl _ _ hd)
    | some w' =>
      obtain ⟨⟨u', hu', hd'⟩, h1'⟩ := h'.1 w' rfl
      rw [W.le_antisymm (h1 _ _ hd' hu') (h1' _ _ hd hu)]
theorem DInv.found (h : DInv ss I f o none) {u : ByteArray} {w : List UInt8} (ho : o u w) (hmin : ∀ y v, o y v → le w v) (hu : u ∈ ss) : FD ss I (some w) := by
  refine ⟨fun w' e => ?_, fun e => by cases e⟩
  injection e with e
  subst e
  refine ⟨⟨u, hu, h.oR _ _ ho⟩, fun v x hd hx => ?_⟩
  rcases h.cover hd with ⟨v', h1, _⟩ | ⟨y, v', h1, h2⟩ | ⟨v', h1, _⟩
  · obtain ⟨_, h3, _⟩ := h.hit _ _ h1 hx
    cases h3
  · exact W.le_trans (hmin _ _ h1) h2
  · cases h1
theorem DInv.ended (h : DInv ss I f o b) (he : ∀ y v, ¬ o y v) : FD ss I b := by
  refine ⟨fun w e => ⟨h.bR w e, fun v x hd hx => ?_⟩, fun e v x hd hx => ?_⟩
  · rcases h.cover hd with ⟨v', h1, h2⟩ | ⟨y, v', h1, _⟩ | ⟨v', h1, h2⟩
    · obtain ⟨v2, h3, h4⟩ := h.hit _ _ h1 hx
      rw [e] at h3
      injection h3 with h3
      subst h3
      exact W.le_trans h4 h2
    · exact absurd h1 (he _ _)
    · rw [e] at h1
      injection h1 with h1
      subst h1
      exact h2
  · rcases h.cover hd with ⟨v', h1, _⟩ | ⟨y, v', h1, _⟩ | ⟨v', h1, _⟩
    · obtain ⟨v2, h3, _⟩ := h.hit _ _ h1 hx
      rw [e] at h3
      cases h3
    · exact he _ _ h1
    · rw [e] at h1
      cases h1
theorem DInv.step (h : DInv ss I f o b) {u : ByteArray} {w : List UInt8} (ho : o u w) (hmin : ∀ y v, o y v → le w v) (hf : f u = none)
    (keep : ∀ x v, o x v → x ≠ u → (∃ v', o' x v' ∧ le v' v) ∨ ∃ v', b' = some v' ∧ le v' v)
    (off : ∀ t x, t ∈ ss → x ∈ restOf t u → Cov (upd f u w) o' b' x w)
    (on : ∀ t x, t ∈ ss → x ∈ restOf u t → Cov (upd f u w) o' b' x (w ++ x.data.toList))
    (sound : ∀ x v, o' x v → o x v ∨ (∃ t, t ∈ ss ∧ x ∈ restOf t u ∧ v = w) ∨ ∃ t, t ∈ ss ∧ x ∈ restOf u t ∧ v = w ++ x.data.toList)
    (hb : ∀ v, b = some v → ∃ v', b' = some v' ∧ le v' v) (bR : ∀ v, b' = some v → ∃ u, u ∈ ss ∧ Db ss I v u) (hit : u ∈ ss → ∃ v, b' = some v ∧ le v w) : DInv ss I (upd f u w) o' b' := by
  have cov : ∀ x v, Cov f o b x v → Cov (upd f u w) o' b' x v := fun x v hc => by
    rcases hc with ⟨v1, h1, h2⟩ | ⟨v1, h1, h2⟩ | ⟨v1, h1, h2⟩
    · have e : x ≠ u := fun e => by rw [e, hf] at h1; cases h1
      exact .inl ⟨v1, by rw [upd_other f w e]; exact h1, h2⟩
    · by_cases e : x = u
      · subst e
        exact .inl ⟨w, upd_same _ _ _, W.le_trans (hmin _ _ h1) h2⟩
      · rcases keep x v1 h1 e with ⟨v', h3, h4⟩ | ⟨v', h3, h4⟩
        · exact .inr (.inl ⟨v', h3, W.le_trans h4 h2⟩)
        · exact .inr (.inr ⟨v', h3, W.le_trans h4 h2⟩)
    · obtain ⟨v', h3, h4⟩ := hb v1 h1
      exact .inr (.inr ⟨v', h3, W.le_trans h4 h2⟩)
  have old : ∀ {x v}, upd f u w x = some v → (x = u ∧ v = w) ∨ f x = some v := fun {x v} he => by
    by_cases e : x = u
    · subst e
      rw [upd_same] at he
      injection he with he
      exact .inl ⟨rfl, he.symm⟩
    · rw [upd_other f w e] at he
      exact .inr he
  have oR' : ∀ x v, o' x v → Db ss I v x := fun x v hx => by
    rcases sound x v hx with h1 | ⟨t, ht, h1, rfl⟩ | ⟨t, ht, h1, rfl⟩
    · exact h.oR _ _ h1
    · exact (h.oR _ _ ho).off ht h1
    · exact (h.oR _ _ ho).on ht h1
  have low : ∀ x v, o' x v → le w v := fun x v hx => by
    rcases sound x v hx with h1 | ⟨t, ht, h1, rfl⟩ | ⟨t, ht, h1, rfl⟩
    · exact hmin _ _ h1
    · exact W.le_refl _
    · exact W.le_append _ _
  refine ⟨fun x v hi => cov _ _ (h.start x v hi), fun u' w' t x hu ht hx => ?_, fun u' w' t x hu ht hx => ?_, fun u' w' hu => ?_, oR', bR, fun u' w' hu hs => ?_, fun u' w' x v hu hx => ?_⟩
  · rcases old hu with ⟨rfl, rfl⟩ | hu
    · exact off t x ht hx
    · exact cov _ _ (h.off u' w' t x hu ht hx)
  · rcases old hu with ⟨rfl, rfl⟩ | hu
    · exact on t x ht hx
    · exact cov _ _ (h.on u' w' t x hu ht hx)
  · rcases old hu with ⟨rfl, rfl⟩ | hu
    · exact h.oR _ _ ho
    · exact h.fR _ _ hu
  · rcases old hu with ⟨rfl, rfl⟩ | hu
    · exact hit hs
    · obtain ⟨v, h1, h2⟩ := h.hit _ _ hu hs
      obtain ⟨v', h3, h4⟩ := hb v h1
      exact ⟨v', h3, W.le_trans h4 h2⟩
  · rcases old hu with ⟨rfl, rfl⟩ | hu
    · exact low x v hx
    · exact W.le_trans (h.mono _ _ _ _ hu ho) (low x v hx)
end
section
variable {ss : List ByteArray} {I : ByteArray → List UInt8 → Prop}
/-- a round of the search -/
theorem round_inv {f : ByteArray → Option (List UInt8)} {g g' : ByteArray → Option ByteArray} {F : ByteArray → Bool} {u v : ByteArray} (h : DInv ss I f (opn g) none) (hg : g u = some v) (hmin : ∀ y w, g y = some w → le v.data.toList w.data.toList) (hf : f u = none) (hu : u ∉ ss)
    (hF : ∀ x, F x = (upd f u v.data.toList x).isSome)
    (hP : Puts F (fun y => if y = u then none else g y) (endsAt (fun _ => v) (rests ss [u]) ++ endsAt (fun x => v ++ x) (rests [u] ss)) g') : DInv ss I (upd f u v.data.toList) (opn g') none := by
  obtain ⟨h1, h2, h3⟩ := hP
  have hov : opn g u v.data.toList := ⟨v, hg, rfl⟩
  have hm : ∀ y w, opn g y w → le v.data.toList w := fun y w ⟨w', h4, h5⟩ => by subst h5; exact hmin y w' h4
  have cov : ∀ x w, (x, w) ∈ endsAt (fun _ => v) (rests ss [u]) ++ endsAt (fun x => v ++ x) (rests [u] ss) → le v.data.toList w.data.toList → Cov (upd f u v.data.toList) (opn g') none x w.data.toList := fun x w hx hle => by
    rcases h3 x w hx with h4 | ⟨w', h4, h5⟩
    · rw [hF] at h4
      obtain ⟨z, hz⟩ := Option.isSome_iff_exists.1 h4
      refine .inl ⟨z, hz, ?_⟩
      by_cases e : x = u
      · subst e
        rw [upd_same] at hz
        injection hz with hz
        subst hz
        exact hle
      · rw [upd_other f _ e] at hz
        exact W.le_trans (h.mono _ _ _ _ hz hov) hle
    · exact .inr (.inl ⟨_, ⟨w', h4, rfl⟩, h5⟩)
  refine h.step hov hm hf (fun x w ⟨w', h4, h5⟩ hne => ?_) (fun t x ht hx => ?_) (fun t x ht hx => ?_) (fun x w ⟨w', h4, h5⟩ => ?_) (fun v h => by cases h) (fun v h => by cases h) (fun hs => absurd hs hu)
  · subst h5
    obtain ⟨w2, h6, h7⟩ := h2 x w' (show (if x = u then none else g x) = some w' by rw [if_neg hne]; exact h4)
    exact .inl ⟨_, ⟨w2, h6, rfl⟩, h7⟩
  · exact cov x v (List.mem_append_left _ (mem_endsAt.2 ⟨mem_rests1.2 ⟨t, ht, hx⟩, rfl⟩)) (W.le_refl _)
  · have := cov x (v ++ x) (List.mem_append_right _ (mem_endsAt.2 ⟨mem_rests2.2 ⟨t, ht, hx⟩, rfl⟩)) (by rw [app_toList]; exact W.le_append _ _)
    rwa [app_toList] at this
  · subst h5
    rcases h1 x w' h4 with h6 | ⟨h6, _⟩
    · by_cases e : x = u
      · have h6 : (if x = u then none else g x) = some w' := h6
        rw [if_pos e] at h6
        cases h6
      · have h6 : (if x = u then none else g x) = some w' := h6
        rw [if_neg e] at h6
        exact .inl ⟨w', h6, rfl⟩
    · rcases List.mem_append.1 h6 with h6 | h6
      · obtain ⟨h6, e⟩ := mem_endsAt.1 h6
        obtain ⟨t, ht, hx⟩ := mem_rests1.1 h6
        exact .inr (.inl ⟨t, ht, hx, by rw [e]⟩)
      · obtain ⟨h6, e⟩ := mem_endsAt.1 h6
        obtain ⟨t, ht, hx⟩ := mem_rests2.1 h6
        exact .inr (.inr ⟨t, ht, hx, by rw [e, app_toList]⟩)

structure DSt (ss : List ByteArray) (I : ByteArray → List UInt8 → Prop) (fs : List ByteArray) (f : ByteArray → Option (List UInt8)) (g : ByteArray → Option ByteArray) (F : List UInt8 → Bool) : Prop where
  nodup : fs.Nodup
  mem : ∀ x, x ∈ fs ↔ f x ≠ none
  inv : DInv ss I f (opn g) none
  mark : ∀ x : ByteArray, F x.data.toList = (f x).isSome
  sep : ∀ x v, g x = some v → f x = none
  size : ∀ x v, g x = some v → v.size ≤ 8 + 7 * fs.length
theorem DSt.few {fs : List ByteArray} {f : ByteArray → Option (List UInt8)} {g : ByteArray → Option ByteArray} {F : List UInt8 → Bool} (h : DSt ss I fs f g F) {ES : List ByteArray} (hE : Ends ss I ES) : fs.length ≤ 92 :=
  Nat.le_trans (G.nodup_le _ _ h.nodup (fun x hx => by
    obtain ⟨w, hw⟩ := Option.ne_none_iff_exists'.1 ((h.mem x).1 hx)
    exact hE.mem (h.inv.fR _ _ hw))) hE.few
theorem on_size {ss : List ByteArray} (hset : W.isSet ss = true) {u t x : ByteArray} (hu : 1 ≤ u.size) (ht : t ∈ ss) (hx : x ∈ restOf u t) : x.size ≤ 7 := by
  obtain ⟨h1, rfl, _⟩ := restOf_mem hx
  have := (set_size hset ht).2
  rw [drop_size]
  omega
theorem DSt.next {fs : List ByteArray} {f : ByteArray → Option (List UInt8)} {g g' : ByteArray → Option ByteArray} {F : List UInt8 → Bool} {u v : ByteArray} (h : DSt ss I fs f g F) (hset : W.isSet ss = true) {ES : List ByteArray} (hE : Ends ss I ES) (hg : g u = some v) (hmin : ∀ y w, g y = some w → le v.data.toList w.data.toList) (hu : u ∉ ss)
    (hP : Puts (markB u F) (delM g u) (endsAt (fun _ => v) (rests ss [u]) ++ endsAt (fun x => v ++ x) (rests [u] ss)) g') :
    DSt ss I (fs ++ [u]) (upd f u v.data.toList) g' (marked u F) := by
  have hf := h.sep _ _ hg
  have hmark : ∀ x : ByteArray, (decide (x.data.toList = u.data.toList) || F x.data.toList) = (upd f u v.data.toList x).isSome := fun x => by
    by_cases e : x = u
    · subst e
      rw [upd_same, decide_eq_true rfl]
      rfl
    · rw [upd_other f _ e, h.mark, decide_eq_false (fun e2 => e (data_inj e2))]
      rfl
  have hun : u ∉ fs := fun hm => (h.mem u).1 hm hf
  have hsz : ∀ x v', g' x = some v' → v'.size ≤ 8 + 7 * (fs ++ [u]).length := fun x v' hx => by
    rw [List.length_append, List.length_singleton]
    rcases hP.1 x v' hx with h1 | ⟨h1, _⟩
    · have h1 : (if x = u then none else g x) = some v' := h1
      by_cases e : x = u
      · rw [if_pos e] at h1; cases h1
      · rw [if_neg e] at h1
        have := h.size _ _ h1
        omega
    · have hv := h.size _ _ hg
      rcases List.mem_append.1 h1 with h1 | h1
      · obtain ⟨_, rfl⟩ := mem_endsAt.1 h1
        omega
      · obtain ⟨h9, rfl⟩ := mem_endsAt.1 h1
        obtain ⟨t, ht, hx1⟩ := mem_rests2.1 h9
        have h7 := on_size hset (hE.size _ (hE.mem (h.inv.oR u v.data.toList ⟨v, hg, rfl⟩))).1 ht hx1
        rw [ByteArray.size_append]
        omega
  refine ⟨?_, fun x => ?_, round_inv h.inv hg hmin hf hu hmark hP, hmark, fun x v' hx => ?_, hsz⟩
  · rw [List.nodup_append]
    exact ⟨h.nodup, by simp, fun a ha b hb e => by
      rw [List.mem_singleton] at hb
      subst hb
      subst e
      exact hun ha⟩
  · rw [List.mem_append, List.mem_singleton]
    by_cases e : x = u
    · subst e
      rw [upd_same]
      simp
    · rw [upd_other f _ e, ← h.mem]
      simp [e]
  · rcases hP.1 x v' hx with h1 | ⟨_, h1⟩
    · have h1 : (if x = u then none else g x) = some v' := h1
      by_cases e : x = u
      · rw [if_pos e] at h1; cases h1
      · rw [if_neg e] at h1
        rw [upd_other f _ e]
        exact h.sep _ _ h1
    · have h1 : (decide (x.data.toList = u.data.toList) || F x.data.toList) = false := h1
      rw [hmark] at h1
      cases hq : upd f u v.data.toList x with
      | none => rfl
      | some z => rw [hq] at h1; cases h1

end
end Go.Proofs.YtjopbmhldpcpdaaGreatDoor.Mt
