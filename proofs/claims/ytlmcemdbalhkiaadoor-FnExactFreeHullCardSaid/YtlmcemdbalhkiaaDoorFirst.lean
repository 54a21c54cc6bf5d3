/-
  WHAT THIS FILE PROVES: the ends by which one word of a set is ahead of another one, in a map; asked: a slice of short texts in memory.
-/
import Derived.Test.YtlmcemdbalhkiaaDoorTake
import Derived.Test.YtlmcemdbalhkiaaDoorQuot
namespace Go.Proofs.YtlmcemdbalhkiaaDoor
open Go.RowKit Go.ChangeMaps Go.Maps Go.Shelf
open W (le)

/-- entries are put, one after the other, but for those at marked keys -/
def Puts (F : ByteArray → Bool) (g : ByteArray → Option ByteArray) (L : List (ByteArray × ByteArray)) (g' : ByteArray → Option ByteArray) : Prop :=
  (∀ x v, g' x = some v → g x = some v ∨ ((x, v) ∈ L ∧ F x = false)) ∧ (∀ x v, g x = some v → ∃ v', g' x = some v' ∧ le v'.data.toList v.data.toList) ∧
  (∀ x v, (x, v) ∈ L → F x = true ∨ ∃ v', g' x = some v' ∧ le v'.data.toList v.data.toList)
theorem Puts.nil (F : ByteArray → Bool) (g : ByteArray → Option ByteArray) : Puts F g [] g := ⟨fun _ _ h => .inl h, fun _ v h => ⟨v, h, W.le_refl _⟩, fun _ _ h => by simp at h⟩
theorem Puts.skip {F : ByteArray → Bool} {g g' : ByteArray → Option ByteArray} {L : List (ByteArray × ByteArray)} (h : Puts F g L g') {x : ByteArray} (hF : F x = true) (v : ByteArray) : Puts F g (L ++ [(x, v)]) g' := by
  obtain ⟨h1, h2, h3⟩ := h
  refine ⟨fun y u hy => ?_, h2, fun y u hy => ?_⟩
  · rcases h1 y u hy with h | ⟨h, h'⟩
    · exact .inl h
    · exact .inr ⟨List.mem_append_left _ h, h'⟩
  · rcases List.mem_append.1 hy with hy | hy
    · exact h3 y u hy
    · simp only [List.mem_singleton, Prod.mk.injEq] at hy
      rw [hy.1]
      exact .inl hF
theorem Puts.put {F : ByteArray → Bool} {g g' : ByteArray → Option ByteArray} {L : List (ByteArray × ByteArray)} (h : Puts F g L g') {x : ByteArray} (hF : F x = false) (v : ByteArray) : Puts F g (L ++ [(x, v)]) (putM g' x v) := by
  obtain ⟨h1, h2, h3⟩ := h
  have keep : ∀ y u, g' y = some u → ∃ u', putM g' x v y = some u' ∧ le u'.data.toList u.data.toList := fun y u hy => by
    by_cases e : y = x
    · subst e
      rw [putM_same, hy]
      exact ⟨_, rfl, keepM_old _ _⟩
    · rw [putM_other g' v e]
      exact ⟨u, hy, W.le_refl _⟩
  refine ⟨fun y u hy => ?_, fun y u hy => ?_, fun y u hy => ?_⟩
  · by_cases e : y = x
    · subst e
      rw [putM_same] at hy
      injection hy with hy
      subst hy
      rcases keepM_or (g' y) v with e2 | e2
      · exact .inr ⟨List.mem_append_right _ (by rw [e2]; exact List.mem_singleton.2 rfl), hF⟩
      · rcases h1 y _ e2 with h | ⟨h, h'⟩
        · exact .inl h
        · exact .inr ⟨List.mem_append_left _ h, h'⟩
    · rw [putM_other g' v e] at hy
      rcases h1 y u hy with h | ⟨h, h'⟩
      · exact .inl h
      · exact .inr ⟨List.mem_append_left _ h, h'⟩
  · obtain ⟨u', h4, h5⟩ := h2 y u hy
    obtain ⟨u2, h6, h7⟩ := keep y u' h4
    exact ⟨u2, h6, W.le_trans h7 h5⟩
  · rcases List.mem_append.1 hy with hy | hy
    · rcases h3 y u hy with h | ⟨u', h4, h5⟩
      · exact .inl h
      · obtain ⟨u2, h6, h7⟩ := keep y u' h4
        exact .inr ⟨u2, h6, W.le_trans h7 h5⟩
    · simp only [List.mem_singleton, Prod.mk.injEq] at hy
      obtain ⟨rfl, rfl⟩ := hy
      rw [putM_same]
      exact .inr ⟨_, rfl, keepM_le _ _⟩
theorem Puts.trans {F : ByteArray → Bool} {g g' g'' : ByteArray → Option ByteArray} {L L' : List (ByteArray × ByteArray)} (h : Puts F g L g') (h' : Puts F g' L' g'') : Puts F g (L ++ L') g'' := by
  obtain ⟨h1, h2, h3⟩ := h
  obtain ⟨k1, k2, k3⟩ := h'
  refine ⟨fun x v hx => ?_, fun x v hx => ?_, fun x v hx => ?_⟩
  · rcases k1 x v hx with h | ⟨h, h'⟩
    · rcases h1 x v h with h | ⟨h, h'⟩
      · exact .inl h
      · exact .inr ⟨List.mem_append_left _ h, h'⟩
    · exact .inr ⟨List.mem_append_right _ h, h'⟩
  · obtain ⟨u, h4, h5⟩ := h2 x v hx
    obtain ⟨u2, h6, h7⟩ := k2 x u h4
    exact ⟨u2, h6, W.le_trans h7 h5⟩
  · rcases List.mem_append.1 hx with hx | hx
    · rcases h3 x v hx with h | ⟨u', h4, h5⟩
      · exact .inl h
      · obtain ⟨u2, h6, h7⟩ := k2 x u' h4
        exact .inr ⟨u2, h6, W.le_trans h7 h5⟩
    · exact k3 x v hx

/-- the ends behind a word, with the words written by then -/
def endsAt (v : ByteArray → ByteArray) (rs : List ByteArray) : List (ByteArray × ByteArray) := rs.map fun x => (x, v x)
def ends0 (ss : List ByteArray) (k : Nat) : List (ByteArray × ByteArray) := (ss.take k).flatMap fun s => endsAt (fun _ => s) (rests ss [s])
theorem endsAt_succ (v : ByteArray → ByteArray) (rs : List ByteArray) (k : Nat) (h : k < rs.length) : endsAt v (rs.take (k + 1)) = endsAt v (rs.take k) ++ [(W.nth rs k, v (W.nth rs k))] := by
  unfold endsAt
  rw [List.take_succ_eq_append_getElem h, List.map_append, W.nth_lt rs k h]
  rfl
theorem ends0_succ (ss : List ByteArray) (k : Nat) (h : k < ss.length) : ends0 ss (k + 1) = ends0 ss k ++ endsAt (fun _ => W.nth ss k) (rests ss [W.nth ss k]) := by
  unfold ends0
  rw [List.take_succ_eq_append_getElem h, List.flatMap_append, W.nth_lt ss k h]
  simp
def noF : ByteArray → Bool := fun _ => false
def noG : ByteArray → Option ByteArray := fun _ => none
def GivesOpen (w0 : World) (ss : List ByteArray) (e : Ending) (w' : World) : Prop :=
  ∃ b g, e = .returned (.map (some b)) ∧ w0.heap.size ≤ b ∧ OpenAt w' b 4096 g ∧ Puts noF noG (ends0 ss ss.length) g ∧ Below w0.heap.size w0 w'

theorem rest_small {ss ts : List ByteArray} {x : ByteArray} {n : Nat} (hx : x ∈ rests ss ts) (h : ∀ t ∈ ts, t.size ≤ n) : x.size ≤ n := by
  obtain ⟨s, _, t, ht, hx⟩ := mem_rests.1 hx
  obtain ⟨_, rfl, _⟩ := restOf_mem hx
  have := h t ht
  have := drop_size t s.size
  omega
theorem nth_mem {l : List ByteArray} {j : Nat} (h : j < l.length) : W.nth l j ∈ l := by
  rw [W.nth_lt l j h]
  exact List.getElem_mem h
theorem row_text (w : World) (s : ByteArray) : Row (w.alloc (.cells #[.string s] 9)) (w.alloc (.cells #[.string s] 9)).heap.size (some ⟨w.heap.size, 0, none⟩) (strs [s]) :=
  row_one (by rw [World.cell?_alloc_at _ _ _ _ rfl]; rfl)

end Go.Proofs.YtlmcemdbalhkiaaDoor
