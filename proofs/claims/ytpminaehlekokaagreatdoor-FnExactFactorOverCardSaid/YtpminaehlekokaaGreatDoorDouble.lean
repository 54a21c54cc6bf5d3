/-
  WHAT THIS FILE PROVES: the program's search for the first word with two readings finds it, whatever the order in which its map is ranged over; asked: a slice of texts in memory that is a set.
-/
import Derived.Test.YtpminaehlekokaaGreatDoorFirst
import Derived.Test.YtpminaehlekokaaGreatDoorHas
import Derived.Deep.LoopGhost
namespace Go.Proofs.YtpminaehlekokaaGreatDoor
open Go.RowKit Go.ChangeMaps Go.Maps Go.Shelf
open W (le)

theorem entries_str {w : World} {b n : Nat} {D : DataW Unit} (h : w.ownsMap Tryz.prog 9 (plainElem Tryz.prog 9) b n D) : ∃ es, D = .map es ∧ ∀ p ∈ es, ∃ s : ByteArray, p.1 = .string s.data.toList := by
  obtain ⟨es, clock, _, F, _, rfl⟩ := h
  refine ⟨_, rfl, fun p hp => ?_⟩
  obtain ⟨x, hx, rfl⟩ := List.mem_map.1 (mem_sorted.1 hp)
  obtain ⟨y, hy⟩ := F.reads x hx
  rw [WideElems.rg_of hy]
  obtain ⟨s, _, h2, _⟩ := key_str_inv (WideElems.rd_key hy)
  exact ⟨s, h2⟩
theorem opens_size {w : World} {b n : Nat} {g : ByteArray → Option ByteArray} {D : DataW Unit} (h1 : w.ownsMap Tryz.prog 9 (plainElem Tryz.prog 9) b n D) (h2 : ∀ (x : ByteArray) z, D.atKey (.string x.data.toList) z = glW (g x) z) :
    (Maps.size D = 0 → ∀ x, g x = none) ∧ (Maps.size D ≠ 0 → ∃ x v, g x = some v) := by
  have hh := OpenAt.has h2
  obtain ⟨es, rfl, hes⟩ := entries_str h1
  refine ⟨fun h0 x => ?_, fun h0 => ?_⟩
  · have e : es = [] := List.eq_nil_of_length_eq_zero h0
    subst e
    have := hh x
    cases hg : g x with
    | none => rfl
    | some v =>
      rw [hg] at this
      cases this
  · cases es with
    | nil => exact absurd rfl h0
    | cons p r =>
      obtain ⟨s, hs⟩ := hes p (List.mem_cons_self ..)
      have := hh s
      have h3 : Maps.has (DataW.map (p :: r)) (.string s.data.toList) = true := by
        rw [Maps.has_eq, List.any_cons, hs]
        simp [Lit.sameKey]
      rw [h3] at this
      obtain ⟨v, hv⟩ := Option.isSome_iff_exists.1 this.symm
      exact ⟨s, v, hv⟩
def opn (g : ByteArray → Option ByteArray) (x : ByteArray) (w : List UInt8) : Prop := ∃ v, g x = some v ∧ v.data.toList = w
theorem mem_ends0 {ss : List ByteArray} {x v : ByteArray} : (x, v) ∈ ends0 ss ss.length ↔ v ∈ ss ∧ x ∈ rests ss [v] := by
  unfold ends0 endsAt
  rw [List.take_length]
  simp only [List.mem_flatMap, List.mem_map, Prod.mk.injEq]
  constructor
  · rintro ⟨s, hs, y, hy, rfl, rfl⟩
    exact ⟨hs, hy⟩
  · rintro ⟨hv, hx⟩
    exact ⟨v, hv, x, hx, rfl, rfl⟩
theorem mem_endsAt {f : ByteArray → ByteArray} {rs : List ByteArray} {x v : ByteArray} : (x, v) ∈ endsAt f rs ↔ x ∈ rs ∧ v = f x := by
  unfold endsAt
  simp only [List.mem_map, Prod.mk.injEq]
  constructor
  · rintro ⟨y, hy, rfl, rfl⟩
    exact ⟨hy, rfl⟩
  · rintro ⟨hx, rfl⟩
    exact ⟨x, hx, rfl, rfl⟩
theorem mem_rests1 {ss : List ByteArray} {x u : ByteArray} : x ∈ rests ss [u] ↔ ∃ t, t ∈ ss ∧ x ∈ restOf t u := by
  rw [mem_rests]
  simp
theorem mem_rests2 {ss : List ByteArray} {x u : ByteArray} : x ∈ rests [u] ss ↔ ∃ t, t ∈ ss ∧ x ∈ restOf u t := by
  rw [mem_rests]
  simp
theorem first_inv {ss : List ByteArray} {g : ByteArray → Option ByteArray} (h : Puts noF noG (ends0 ss ss.length) g) : DInv ss (fun _ => none) (opn g) none := by
  obtain ⟨h1, _, h3⟩ := h
  refine ⟨fun s t x hs ht hx => ?_, fun _ _ _ _ h => by (cases h), fun _ _ _ _ h => by (cases h), fun _ _ h => by (cases h), fun u w ⟨v, hv, e⟩ => ?_, fun _ h => by (cases h), fun _ _ h => by (cases h), fun _ _ _ _ h => by (cases h)⟩
  · rcases h3 x t (mem_ends0.2 ⟨ht, mem_rests1.2 ⟨s, hs, hx⟩⟩) with h | ⟨v', h4, h5⟩
    · cases h
    · exact .inr (.inl ⟨_, ⟨v', h4, rfl⟩, h5⟩)
  · subst e
    rcases h1 u v hv with h | ⟨h, _⟩
    · cases h
    · obtain ⟨hv, hx⟩ := mem_ends0.1 h
      obtain ⟨s, hs, hx⟩ := mem_rests1.1 hx
      exact .start hs hv hx
theorem app_toList (a b : ByteArray) : (a ++ b).data.toList = a.data.toList ++ b.data.toList := by
  rw [ByteArray.data_append, Array.toList_append]
/-- a round of the search -/
theorem round_inv {ss : List ByteArray} {f : ByteArray → Option (List UInt8)} {g g' : ByteArray → Option ByteArray} {F : ByteArray → Bool} {u v : ByteArray} (h : DInv ss f (opn g) none) (hg : g u = some v) (hmin : ∀ y w, g y = some w → le v.data.toList w.data.toList) (hf : f u = none) (hu : u ∉ ss)
    (hF : ∀ x, F x = (upd f u v.data.toList x).isSome)
    (hP : Puts F (fun y => if y = u then none else g y) (endsAt (fun _ => v) (rests ss [u]) ++ endsAt (fun x => v ++ x) (rests [u] ss)) g') : DInv ss (upd f u v.data.toList) (opn g') none := by
  obtain ⟨h1, h2, h3⟩ := hP
  have hov : opn g u v.data.toList := ⟨v, hg, rfl⟩
  have hm : ∀ y w, opn g y w → le v.data.toList w := fun y w ⟨w', h4, h5⟩ => by subst h5; exact hmin y w' h4
  have cov : ∀ x w, (x, w) ∈ endsAt (fun _ => v) (rests ss [u]) ++ endsAt (fun x => v ++ x) (rests [u] ss) → le v.data.toList w.data.toList → Cov (upd f u v.data.toList) (opn g') none x w.data.toList := fun x w hx hle => by
    rcases h3 x w hx with h4 | ⟨w', h4, h5⟩
    · rw [hF] at h4
      obtain ⟨z, hz⟩ := Option.isSome_iff_exists.1 h4
      refine .inl ⟨z, hz, ?_⟩
      by_cases e : x = u
      · subst e
        rw [upd_same] at hz
        injection hz with hz
        subst hz
        exact hle
      · rw [upd_other f _ e] at hz
        exact W.le_trans (h.mono _ _ _ _ hz hov) hle
    · exact .inr (.inl ⟨_, ⟨w', h4, rfl⟩, h5⟩)
  refine h.step hov hm hf (fun x w ⟨w', h4, h5⟩ hne => ?_) (fun t x ht hx => ?_) (fun t x ht hx => ?_) (fun x w ⟨w', h4, h5⟩ => ?_) (fun v h => by cases h) (fun v h => by cases h) (fun hs => absurd hs hu)
  · subst h5
    obtain ⟨w2, h6, h7⟩ := h2 x w' (show (if x = u then none else g x) = some w' by rw [if_neg hne]; exact h4)
    exact .inl ⟨_, ⟨w2, h6, rfl⟩, h7⟩
  · exact cov x v (List.mem_append_left _ (mem_endsAt.2 ⟨mem_rests1.2 ⟨t, ht, hx⟩, rfl⟩)) (W.le_refl _)
  · have := cov x (v ++ x) (List.mem_append_right _ (mem_endsAt.2 ⟨mem_rests2.2 ⟨t, ht, hx⟩, rfl⟩)) (by rw [app_toList]; exact W.le_append _ _)
    rwa [app_toList] at this
  · subst h5
    rcases h1 x w' h4 with h6 | ⟨h6, _⟩
    · by_cases e : x = u
      · have h6 : (if x = u then none else g x) = some w' := h6
        rw [if_pos e] at h6
        cases h6
      · have h6 : (if x = u then none else g x) = some w' := h6
        rw [if_neg e] at h6
        exact .inl ⟨w', h6, rfl⟩
    · rcases List.mem_append.1 h6 with h6 | h6
      · obtain ⟨h6, e⟩ := mem_endsAt.1 h6
        obtain ⟨t, ht, hx⟩ := mem_rests1.1 h6
        exact .inr (.inl ⟨t, ht, hx, by rw [e]⟩)
      · obtain ⟨h6, e⟩ := mem_endsAt.1 h6
        obtain ⟨t, ht, hx⟩ := mem_rests2.1 h6
        exact .inr (.inr ⟨t, ht, hx, by rw [e, app_toList]⟩)

def marked (u : ByteArray) (F : List UInt8 → Bool) : List UInt8 → Bool := fun x => decide (x = u.data.toList) || F x
def delM (g : ByteArray → Option ByteArray) (u : ByteArray) : ByteArray → Option ByteArray := fun y => if y = u then none else g y
def markB (u : ByteArray) (F : List UInt8 → Bool) : ByteArray → Bool := fun x => marked u F x.data.toList
/-- the state of the search: the ends that have been followed, the words by which, what is open -/
structure DSt (ss fs : List ByteArray) (f : ByteArray → Option (List UInt8)) (g : ByteArray → Option ByteArray) (F : List UInt8 → Bool) : Prop where
  nodup : fs.Nodup
  mem : ∀ x, x ∈ fs ↔ f x ≠ none
  inv : DInv ss f (opn g) none
  mark : ∀ x : ByteArray, F x.data.toList = (f x).isSome
  sep : ∀ x v, g x = some v → f x = none
  size : ∀ x v, g x = some v → v.size ≤ 8 + 7 * fs.length
theorem DSt.few {ss fs : List ByteArray} {f : ByteArray → Option (List UInt8)} {g : ByteArray → Option ByteArray} {F : List UInt8 → Bool} (h : DSt ss fs f g F) (hset : W.isSet ss = true) : fs.length ≤ 84 :=
  Nat.le_trans (G.nodup_le _ _ h.nodup (fun x hx => by
    obtain ⟨w, hw⟩ := Option.ne_none_iff_exists'.1 ((h.mem x).1 hx)
    exact db_mem hset (h.inv.fR _ _ hw))) (dS_length hset)
theorem DSt.first {ss : List ByteArray} {g : ByteArray → Option ByteArray} (hset : W.isSet ss = true) (h : Puts noF noG (ends0 ss ss.length) g) : DSt ss [] (fun _ => none) g (fun _ => false) := by
  refine ⟨List.nodup_nil, fun x => by simp, first_inv h, fun _ => rfl, fun _ _ _ => rfl, fun x v hv => ?_⟩
  rcases h.1 x v hv with h1 | ⟨h1, _⟩
  · cases h1
  · have := set_size hset (mem_ends0.1 h1).1
    simp
    omega
theorem DSt.next {ss fs : List ByteArray} {f : ByteArray → Option (List UInt8)} {g g' : ByteArray → Option ByteArray} {F : List UInt8 → Bool} {u v : ByteArray} (h : DSt ss fs f g F) (hset : W.isSet ss = true) (hg : g u = some v) (hmin : ∀ y w, g y = some w → le v.data.toList w.data.toList) (hu : u ∉ ss)
    (hP : Puts (markB u F) (delM g u) (endsAt (fun _ => v) (rests ss [u]) ++ endsAt (fun x => v ++ x) (rests [u] ss)) g') :
    DSt ss (fs ++ [u]) (upd f u v.data.toList) g' (marked u F) := by
  have hf := h.sep _ _ hg
  have hmark : ∀ x : ByteArray, (decide (x.data.toList = u.data.toList) || F x.data.toList) = (upd f u v.data.toList x).isSome := fun x => by
    by_cases e : x = u
    · subst e
      rw [upd_same, decide_eq_true rfl]
      rfl
    · rw [upd_other f _ e, h.mark, decide_eq_false (fun e2 => e (data_inj e2))]
      rfl
  have hun : u ∉ fs := fun hm => (h.mem u).1 hm hf
  have hsz : ∀ x v', g' x = some v' → v'.size ≤ 8 + 7 * (fs ++ [u]).length := fun x v' hx => by
    rw [List.length_append, List.length_singleton]
    rcases hP.1 x v' hx with h1 | ⟨h1, _⟩
    · have h1 : (if x = u then none else g x) = some v' := h1
      by_cases e : x = u
      · rw [if_pos e] at h1; cases h1
      · rw [if_neg e] at h1
        have := h.size _ _ h1
        omega
    · have hv := h.size _ _ hg
      rcases List.mem_append.1 h1 with h1 | h1
      · obtain ⟨_, rfl⟩ := mem_endsAt.1 h1
        omega
      · obtain ⟨h9, rfl⟩ := mem_endsAt.1 h1
        obtain ⟨t, ht, hx1⟩ := mem_rests2.1 h9
        have h7 := db_size hset ((h.inv.oR u v.data.toList ⟨v, hg, rfl⟩).on ht hx1)
        rw [ByteArray.size_append]
        omega
  refine ⟨?_, fun x => ?_, round_inv h.inv hg hmin hf hu hmark hP, hmark, fun x v' hx => ?_, hsz⟩
  · rw [List.nodup_append]
    exact ⟨h.nodup, by simp, fun a ha b hb e => by
      rw [List.mem_singleton] at hb
      subst hb
      subst e
      exact hun ha⟩
  · rw [List.mem_append, List.mem_singleton]
    by_cases e : x = u
    · subst e
      rw [upd_same]
      simp
    · rw [upd_other f _ e, ← h.mem]
      simp [e]
  · rcases hP.1 x v' hx with h1 | ⟨_, h1⟩
    · have h1 : (if x = u then none else g x) = some v' := h1
      by_cases e : x = u
      · rw [if_pos e] at h1; cases h1
      · rw [if_neg e] at h1
        rw [upd_other f _ e]
        exact h.sep _ _ h1
    · have h1 : (decide (x.data.toList = u.data.toList) || F x.data.toList) = false := h1
      rw [hmark] at h1
      cases hq : upd f u v.data.toList x with
      | none => rfl
      | some z => rw [hq] at h1; cases h1

def FDx (ss : List ByteArray) (x : ByteArray) (ok : Bool) : Prop := FD ss (cond ok (some x.data.toList) none)
def GivesDouble (w0 : World) (ss : List ByteArray) (e : Ending) (w' : World) : Prop :=
  ∃ (x : ByteArray) (ok : Bool), e = .returned (.tuple #[.string x, .bool ok]) ∧ FDx ss x ok ∧ x.size ≤ 1000 ∧ Below w0.heap.size w0 w'

set_option maxHeartbeats 6400000 in
theorem impl_firstDouble (A : Option Addr) (ss : List ByteArray) (c : Nat) (w : World) (h : Row w w.heap.size A (strs ss)) (hset : W.isSet ss = true) :
    Calls Tryz.prog 34 #[.slice A ss.length c] w (GivesDouble w ss) := by
  have h12 := W.isSet_len ss hset
  have hq1 := Lib.hid (impl_firstEnds A ss c w h h12 (fun s hs => (set_size hset hs).2))
  replace h := Lib.hid h
  have Hset := Lib.hid hset
  have hmm := @run_makeMap Tryz.prog
  clear hset
  go_enter Tryz.func34, Tryz.ntmps34
  go_wp2_with fail
  refine hq1.out.mono ?_
  rintro e w1 ⟨bo, g0, rfl, hbo, hO0, hP0, hB0⟩
  have H1 := Lib.hid (And.intro hO0 (And.intro (DSt.first Hset.out hP0) hB0))
  have hbo2 := hO0.lt
  clear hO0 hP0 hB0 hq1
  go_wp2_with fail
  go_loopg [16] 85 (fun gk _ wr => ∃ (fs : List ByteArray) (f : ByteArray → Option (List UInt8)) (g : ByteArray → Option ByteArray) (F : List UInt8 → Bool), Hid (fs.length + gk = 85) ∧ DSt ss fs f g F ∧ OpenAt wr bo (4096 + 24 * fs.length) g ∧ SeenAt wr w1.heap.size fs.length F ∧ Below w.heap.size w wr)
  case atStart => exact ⟨[], fun _ => none, g0, fun _ => false, rfl, H1.out.2.1, (H1.out.1.kept (World.grownBy_alloc _ _ none) (by simp)), seen_made w1, H1.out.2.2.alloc H1.out.2.2.size _⟩
  case round =>
    obtain ⟨fs, f, g, F, hk, hD, hO, hS, hB⟩ := hrel
    have hfew := hD.few Hset.out
    have hb0 := hB.size
    have hne : Hid (some bo ≠ some w1.heap.size) := fun e => by injection e with e; omega
    obtain ⟨D, ho1, ho2⟩ := hO
    have hsize := Lib.hid (opens_size ho1 ho2)
    have H2 := Lib.hid (And.intro hD (And.intro hS hB))
    have HO := Lib.hid (And.intro ho1 ho2)
    clear hD hS hB ho1 ho2 H1 hmm
    by_cases h0 : Maps.size D = 0
    · have hfd := Lib.hid (H2.out.1.inv.ended (fun y v ⟨v', hv, _⟩ => by rw [hsize.out.1 h0 y] at hv; cases hv))
      have h0' : ¬ (0 : Int) < (Maps.size D : Int) := by omega
      clear h0
      go_wp2_with (at_len; refine wpList_len_own _ rfl _ 65 rfl 9 9 Tryz.underlying65 _ bo _ D rfl HO.out.1 ?_)
      go_wp2
      go_ret2
      exact ⟨_, false, rfl, hfd.out, by decide, H2.out.2.2⟩
    · have hne2 := Lib.hid (hsize.out.2 h0)
      have h0' : (0 : Int) < (Maps.size D : Int) := by omega
      clear h0
      have hcall := Lib.hid (impl_takeFirst bo (4096 + 24 * fs.length) g wr ⟨D, HO.out.1, HO.out.2⟩ (fun x v hv => by
          have := db_pos Hset.out (H2.out.1.inv.oR x v.data.toList ⟨v, hv, rfl⟩)
          rwa [← Lib.size_eq] at this) (fun x v hv => by
          have := db_size Hset.out (H2.out.1.inv.oR x v.data.toList ⟨v, hv, rfl⟩)
          unfold maxLen
          omega) hne2.out)
      go_wp2_with (at_len; refine wpList_len_own _ rfl _ 65 rfl 9 9 Tryz.underlying65 _ bo _ D rfl HO.out.1 ?_)
      go_wp2_with fail
      refine hcall.out.mono ?_
      rintro e w2 ⟨u, v, rfl, hgu, hmin, hO2, hg2⟩
      replace hO2 : OpenAt w2 bo (4096 + 24 * fs.length) (delM g u) := hO2
      have hS2 := H2.out.2.1.kept hg2 (fun e => hne.out e.symm)
      have hB2 := H2.out.2.2.grown hg2 H2.out.2.2.size (fun j hj => by injection hj with hj; omega)
      have hvs := H2.out.1.size _ _ hgu
      have hu7 := db_size Hset.out (H2.out.1.inv.oR u v.data.toList ⟨v, hgu, rfl⟩)
      have H3 := Lib.hid (And.intro H2.out.1 (And.intro hgu (And.intro hmin (And.intro hO2 (And.intro hS2 hB2)))))
      have hz2 := hB2.size
      clear hgu hmin hO2 hS2 hB2 hg2 hcall H2 HO hsize hne2 h0'
      have hct := Lib.hid (contains_any A ss c u w2 ((h.out.below H3.out.2.2.2.2.2).more hz2) (by omega))
      cases hu : hasB ss u
      · rw [hu] at hct
        have Hu := Lib.hid (show u ∉ ss from fun hm => by rw [hasB_mem.2 hm] at hu; cases hu)
        clear hu
        obtain ⟨D2, hM1, hM2, hM3⟩ := H3.out.2.2.2.2.1
        have HM := Lib.hid (And.intro hM1 (And.intro hM2 hM3))
        clear hM1 hM2 hM3
        go_wp2_with fail
        refine hct.out.mono ?_
        rintro e w3 ⟨rfl, rfl⟩
        go_wp2_with (at_mapUpdate; refine wpList_mapUpdate_own _ rfl _ _ _ 67 rfl 9 4 (Maps.string_keyed Tryz.underlying9) Tryz.underlying67 _ w1.heap.size fs.length D2 rfl HM.out.1 (by unfold maxLen; omega) (.string u) (.bool true) (.string u.data.toList) rfl rfl (WideMaps.keyOf_string_mk Tryz.underlying9 (by unfold maxLen; omega)) (.lit (.bool true)) [] (plainElem_bool Tryz.underlying4 true) ?_)
        intro w4 hmap4 hg4
        have hS4 : SeenAt w4 w1.heap.size (fs.length + 1) (marked u F) := SeenAt.put HM.out.2.1 HM.out.2.2 u.data.toList hmap4
        have hO4 := H3.out.2.2.2.1.kept hg4 hne.out
        have hB4 := H3.out.2.2.2.2.2.grown hg4 H3.out.2.2.2.2.2.size (fun j hj => by injection hj with hj; omega)
        have hz4 := hB4.size
        have H4 := Lib.hid (And.intro hO4 (And.intro hS4 hB4))
        have HI := Lib.hid (And.intro H3.out.1 (And.intro H3.out.2.1 H3.out.2.2.1))
        clear hS4 hO4 hB4 hmap4 hg4 H3 HM hct
        have hbf4 := H4.out.2.1.lt
        have hBa := Lib.hid (H4.out.2.2.alloc H4.out.2.2.size (.cells #[.string u] 9))
        have hq1 := Lib.hid (impl_restsOf A ss c (some ⟨w4.heap.size, 0, none⟩) [u] 1 (w4.alloc (.cells #[.string u] 9)) ((h.out.below hBa.out).more hBa.out.size) (row_text w4 u) (by omega) (by simp))
        have hrl := rests_len ss [u]
        have hr8 := Lib.hid (fun x (hx : x ∈ rests ss [u]) => rest_small (n := 7) hx (fun t ht => by rw [List.mem_singleton.1 ht]; omega))
        rw [List.length_singleton, Nat.mul_one] at hrl
        have hpz : (w4.alloc (.cells #[.string u] 9)).heap.size = w4.heap.size + 1 := by simp
        go_wp2_with fail
        refine hq1.out.mono ?_
        rintro e w5 ⟨A5, c5, rfl, ho5, hB5⟩
        have hc5 := (hB5.cell (p := ⟨w4.heap.size, 0, none⟩) (by rw [hpz]; exact Nat.lt_succ_self _)).trans (show (w4.alloc (.cells #[.string u] 9)).cell? ⟨w4.heap.size, 0, none⟩ = some (.string u) by rw [World.cell?_alloc_at _ _ _ _ rfl]; rfl)
        have hO5 := (H4.out.1.kept (World.grownBy_alloc w4 (.cells #[.string u] 9) none) (by simp)).below hB5
        have hS5 := (H4.out.2.1.kept (World.grownBy_alloc w4 (.cells #[.string u] 9) none) (by simp)).below hB5
        have H5 := Lib.hid (And.intro hO5 (And.intro hS5 (And.intro (hBa.out.trans (hB5.mono hBa.out.size)) (And.intro ho5 hc5))))
        clear hO5 hS5 ho5 hB5 hc5 hq1 hBa H4
        go_wp2_with fail
        generalize hrs : rests ss [u] = rs at H5 hr8 hrl
        replace hrs := Lib.hid hrs
        have hE := Lib.hid (fun (j : Nat) hj => endsAt_succ (fun _ => v) rs j hj)
        go_loopw [36] (fun i wr' => ∃ (j : Nat) (g' : ByteArray → Option ByteArray), j ≤ rs.length ∧ i = .int .i64 j ∧ OpenAt wr' bo (4096 + 24 * fs.length + j) g' ∧ Puts (markB u F) (delM g u) (endsAt (fun _ => v) (rs.take j)) g' ∧ SeenAt wr' w1.heap.size (fs.length + 1) (marked u F) ∧ Below w.heap.size w wr' ∧ wr'.ownsRow (w4.heap.size + 1) 9 1 (.slice A5 rs.length c5) rs.length (strs rs) ∧ wr'.cell? ⟨w4.heap.size, 0, none⟩ = some (.string u))
          (fun i _ => rs.length - (intOf i).toNat)
        case atStart => exact ⟨0, delM g u, Nat.zero_le _, rfl, H5.out.1, by simpa [endsAt] using Puts.nil _ _, H5.out.2.1, H5.out.2.2.1, by have := H5.out.2.2.2.1; rwa [hpz] at this, H5.out.2.2.2.2⟩
        case round =>
          clear H5
          obtain ⟨j, g', hj, rfl, hO, hP, hS, hB, ho, hc⟩ := hrel
          have H6 := Lib.hid (And.intro hO (And.intro hP (And.intro hS (And.intro hB (And.intro ho hc)))))
          clear hO hP hS hB ho hc
          by_cases hlj : j < rs.length
          · obtain ⟨b', off', rfl, hb', hcc'⟩ := Row.of_own H6.out.2.2.2.2.1 (by rw [strs_length]; omega)
            have hlj' : (j : Int) < (rs.length : Int) := by omega
            have c2' := hcc' j _ (strs_nth rs j hlj)
            have hx8 := hr8.out _ (nth_mem hlj)
            have hE2 := Lib.hid (hE.out j hlj)
            clear hcc'
            generalize W.nth rs j = x at c2' hx8 hE2
            have hlk := seen_look H6.out.2.2.1 x (by unfold maxLen; omega)
            cases hm : marked u F x.data.toList
            · rw [hm] at hlk
              have Hm : Hid (markB u F x = false) := hm
              clear hm
              have hq := Lib.hid (impl_put bo (4096 + 24 * fs.length + j) g' x v _ H6.out.1 (by unfold maxLen; omega) (by unfold maxLen; omega) (by unfold maxLen; omega))
              go_wp2_with fail
              refine hq.out.mono ?_
              rintro e w7 ⟨rfl, hO7, hg7⟩
              have ho7 := H6.out.2.2.2.2.1.kept hg7 (own_ne H6.out.2.2.2.2.1 (fun g hg => by injection hg with hg; omega))
              have hB7 := H6.out.2.2.2.1.grown hg7 H6.out.2.2.2.1.size (fun g hg => by injection hg with hg; omega)
              have hS7 := H6.out.2.2.1.kept hg7 (fun e => hne.out e.symm)
              have hc7 := (World.cell?_of_block (a := ⟨w4.heap.size, 0, none⟩) (hg7.block w4.heap.size (World.block_lt_of_cell? _ _ H6.out.2.2.2.2.2) (fun e => by injection e with e; omega))).trans H6.out.2.2.2.2.2
              have hP7 : Puts (markB u F) (delM g u) (endsAt (fun _ => v) (rs.take (j + 1))) (putM g' x v) := by
                rw [hE2.out]
                exact H6.out.2.1.put Hm.out v
              have H7 := Lib.hid (And.intro hO7 (And.intro hP7 (And.intro hS7 (And.intro hB7 (And.intro ho7 hc7)))))
              clear hO7 hP7 hS7 hB7 ho7 hc7 hg7 hq hlk H6
              go_wp2
              go_roundw
              case rel => exact ⟨j + 1, _, by omega, by go_num, H7.out⟩
              case measure => simp [intOf]; omega
            · rw [hm] at hlk
              have Hm : Hid (markB u F x = true) := hm
              clear hm
              have hP7 : Puts (markB u F) (delM g u) (endsAt (fun _ => v) (rs.take (j + 1))) g' := by
                rw [hE2.out]
                exact H6.out.2.1.skip Hm.out v
              have H7 := Lib.hid (And.intro (H6.out.1.mono (Nat.le_succ _)) (And.intro hP7 H6.out.2.2))
              clear hP7 H6
              go_wp2
              go_roundw
              case rel => exact ⟨j + 1, g', by omega, by go_num, H7.out⟩
              case measure => simp [intOf]; omega
          · have hje : j = rs.length := by omega
            subst hje
            have hPa := H6.out.2.1
            rw [List.take_length] at hPa
            have H7 := Lib.hid (And.intro H6.out.1 (And.intro hPa (And.intro H6.out.2.2.1 (And.intro H6.out.2.2.2.1 H6.out.2.2.2.2.2))))
            have hz7 := H6.out.2.2.2.1.size
            clear hPa H6 hE hr8
            have hq2 := Lib.hid (impl_restsOf (some ⟨w4.heap.size, 0, none⟩) [u] 1 A ss c wr (row_one H7.out.2.2.2.2) ((h.out.below H7.out.2.2.2.1).more hz7) (by simp) (by omega))
            have hrl2 := rests_len [u] ss
            go_wp2_with fail
            refine hq2.out.mono ?_
            rintro e w8 ⟨A8, c8, rfl, ho8, hB8⟩
            have hr8 := Lib.hid (fun x (hx : x ∈ rests [u] ss) => rest_small (n := 8) hx (fun t ht => (set_size Hset.out ht).2))
            rw [List.length_singleton, Nat.one_mul] at hrl2
            have H8 := Lib.hid (And.intro (H7.out.1.below hB8) (And.intro H7.out.2.1 (And.intro (H7.out.2.2.1.below hB8) (And.intro (H7.out.2.2.2.1.trans (hB8.mono hz7)) ho8))))
            have hwz : w4.heap.size < wr.heap.size := World.block_lt_of_cell? _ _ H7.out.2.2.2.2
            clear ho8 hB8 hq2 H7
            generalize hrs2 : rests [u] ss = rs2 at H8 hr8 hrl2
            replace hrs2 := Lib.hid hrs2
            have hE := Lib.hid (fun (j : Nat) hj => endsAt_succ (fun x => v ++ x) rs2 j hj)
            go_wp2_with fail
            go_loopw [53] (fun i wr' => ∃ (j : Nat) (g' : ByteArray → Option ByteArray), j ≤ rs2.length ∧ i = .int .i64 j ∧ OpenAt wr' bo (4096 + 24 * fs.length + rs.length + j) g' ∧ Puts (markB u F) (delM g u) (endsAt (fun _ => v) rs ++ endsAt (fun x => v ++ x) (rs2.take j)) g' ∧ SeenAt wr' w1.heap.size (fs.length + 1) (marked u F) ∧ Below w.heap.size w wr' ∧ wr'.ownsRow wr.heap.size 9 1 (.slice A8 rs2.length c8) rs2.length (strs rs2))
              (fun i _ => rs2.length - (intOf i).toNat)
            case atStart => exact ⟨0, g', Nat.zero_le _, rfl, H8.out.1, by have := H8.out.2.1; simpa [endsAt] using this, H8.out.2.2.1, H8.out.2.2.2.1, H8.out.2.2.2.2⟩
            case round =>
              clear H8
              obtain ⟨j, g'', hj, rfl, hO, hP, hS, hB, ho⟩ := hrel
              have H6 := Lib.hid (And.intro hO (And.intro hP (And.intro hS (And.intro hB ho))))
              clear hO hP hS hB ho
              by_cases hlj : j < rs2.length
              · obtain ⟨b', off', rfl, hb', hcc'⟩ := Row.of_own H6.out.2.2.2.2 (by rw [strs_length]; omega)
                have hlj' : (j : Int) < (rs2.length : Int) := by omega
                have c2' := hcc' j _ (strs_nth rs2 j hlj)
                have hx8 := hr8.out _ (nth_mem hlj)
                have hE2 := Lib.hid (hE.out j hlj)
                clear hcc'
                generalize W.nth rs2 j = x at c2' hx8 hE2
                have hlk := seen_look H6.out.2.2.1 x (by unfold maxLen; omega)
                have hvx : (v ++ x).size ≤ 1000 := by rw [ByteArray.size_append]; omega
                cases hm : marked u F x.data.toList
                · rw [hm] at hlk
                  have Hm : Hid (markB u F x = false) := hm
                  clear hm
                  have hq := Lib.hid (fun W h => impl_put bo (4096 + 24 * fs.length + rs.length + j) g'' x (v ++ x) W h (by unfold maxLen; omega) (by unfold maxLen; omega) (by unfold maxLen; omega))
                  go_wp2_with fail
                  refine (hq.out _ H6.out.1).mono ?_
                  rintro e w7 ⟨rfl, hO7, hg7⟩
                  have ho7 := H6.out.2.2.2.2.kept hg7 (own_ne H6.out.2.2.2.2 (fun g hg => by injection hg with hg; omega))
                  have hB7 := H6.out.2.2.2.1.grown hg7 H6.out.2.2.2.1.size (fun g hg => by injection hg with hg; omega)
                  have hS7 := H6.out.2.2.1.kept hg7 (fun e => hne.out e.symm)
                  have hP7 : Puts (markB u F) (delM g u) (endsAt (fun _ => v) rs ++ endsAt (fun x => v ++ x) (rs2.take (j + 1))) (putM g'' x (v ++ x)) := by
                    rw [hE2.out, ← List.append_assoc]
                    exact H6.out.2.1.put Hm.out (v ++ x)
                  have H7 := Lib.hid (And.intro hO7 (And.intro hP7 (And.intro hS7 (And.intro hB7 ho7))))
                  clear hO7 hP7 hS7 hB7 ho7 hg7 hq hlk H6
                  go_wp2
                  go_roundw
                  case rel => exact ⟨j + 1, _, by omega, by go_num, H7.out⟩
                  case measure => simp [intOf]; omega
                · rw [hm] at hlk
                  have Hm : Hid (markB u F x = true) := hm
                  clear hm
                  have hP7 : Puts (markB u F) (delM g u) (endsAt (fun _ => v) rs ++ endsAt (fun x => v ++ x) (rs2.take (j + 1))) g'' := by
                    rw [hE2.out, ← List.append_assoc]
                    exact H6.out.2.1.skip Hm.out (v ++ x)
                  have H7 := Lib.hid (And.intro (H6.out.1.mono (Nat.le_succ _)) (And.intro hP7 H6.out.2.2))
                  clear hP7 H6
                  go_wp2
                  go_roundw
                  case rel => exact ⟨j + 1, g'', by omega, by go_num, H7.out⟩
                  case measure => simp [intOf]; omega
              · have hje : j = rs2.length := by omega
                subst hje
                have hPa := H6.out.2.1
                rw [List.take_length, ← hrs.out, ← hrs2.out] at hPa
                have hD' := Lib.hid (HI.out.1.next Hset.out HI.out.2.1 HI.out.2.2 Hu.out hPa)
                have hlen' : (fs ++ [u]).length = fs.length + 1 := by simp
                have hkk := hk.out
                have H7 := Lib.hid (And.intro (H6.out.1.mono (n' := 4096 + 24 * (fs.length + 1)) (by omega)) (And.intro H6.out.2.2.1 H6.out.2.2.2.1))
                clear hPa H6
                go_wp2
                go_roundg (gk - 1)
                case measure => omega
                case rel => exact ⟨fs ++ [u], _, g'', _, by show _ = _; rw [hlen']; omega, hD'.out, by rw [hlen']; exact H7.out.1, by rw [hlen']; exact H7.out.2.1, H7.out.2.2⟩
      · rw [hu] at hct
        have hfd := Lib.hid (H3.out.1.inv.found ⟨v, H3.out.2.1, rfl⟩ (fun y z ⟨z', h1, h2⟩ => by subst h2; exact H3.out.2.2.1 y z' h1) (hasB_mem.1 hu))
        clear hu
        go_wp2_with fail
        refine hct.out.mono ?_
        rintro e w3 ⟨rfl, rfl⟩
        go_wp2
        go_ret2
        exact ⟨v, true, rfl, hfd.out, by omega, H3.out.2.2.2.2.2⟩

end Go.Proofs.YtpminaehlekokaaGreatDoor
