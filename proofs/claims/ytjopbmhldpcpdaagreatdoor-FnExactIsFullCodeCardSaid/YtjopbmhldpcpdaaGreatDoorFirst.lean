/-
  WHAT THIS FILE PROVES: the ends by which one word of a set is ahead of another one, in a map; asked: a slice of short texts in memory.
-/
import Derived.Test.YtjopbmhldpcpdaaGreatDoorTake
import Derived.Test.YtjopbmhldpcpdaaGreatDoorQuot
namespace Go.Proofs.YtjopbmhldpcpdaaGreatDoor
open Go.RowKit Go.ChangeMaps Go.Maps Go.Shelf
open W (le)

/-- entries are put, one after the other, but for those at marked keys -/
def Puts (F : ByteArray → Bool) (g : ByteArray → Option ByteArray) (L : List (ByteArray × ByteArray)) (g' : ByteArray → Option ByteArray) : Prop :=
  (∀ x v, g' x = some v → g x = some v ∨ ((x, v) ∈ L ∧ F x = false)) ∧ (∀ x v, g x = some v → ∃ v', g' x = some v' ∧ le v'.data.toList v.data.toList) ∧
  (∀ x v, (x, v) ∈ L → F x = true ∨ ∃ v', g' x = some v' ∧ le v'.data.toList v.data.toList)
theorem Puts.nil (F : ByteArray → Bool) (g : ByteArray → Option ByteArray) : Puts F g [] g := ⟨fun _ _ h => .inl h, fun _ v h => ⟨v, h, W.le_refl _⟩, fun _ _ h => by simp at h⟩
theorem Puts.skip {F : ByteArray → Bool} {g g' : ByteArray → Option ByteArray} {L : List (ByteArray × ByteArray)} (h : Puts F g L g') {x : ByteArray} (hF : F x = true) (v : ByteArray) : Puts F g (L ++ [(x, v)]) g' := by
  obtain ⟨h1, h2, h3⟩ := h
  refine ⟨fun y u hy => ?_, h2, fun y u hy => ?_⟩
  · rcases h1 y u hy with h | ⟨h, h'⟩
    · exact .inl h
    · exact .inr ⟨List.mem_append_left _ h, h'⟩
  · rcases List.mem_append.1 hy with hy | hy
    · exact h3 y u hy
    · simp only [List.mem_singleton, Prod.mk.injEq] at hy
      rw [hy.1]
      exact .inl hF
theorem Puts.put {F : ByteArray → Bool} {g g' : ByteArray → Option ByteArray} {L : List (ByteArray × ByteArray)} (h : Puts F g L g') {x : ByteArray} (hF : F x = false) (v : ByteArray) : Puts F g (L ++ [(x, v)]) (putM g' x v) := by
  obtain ⟨h1, h2, h3⟩ := h
  have keep : ∀ y u, g' y = some u → ∃ u', putM g' x v y = some u' ∧ le u'.data.toList u.data.toList := fun y u hy => by
    by_cases e : y = x
    · subst e
      rw [putM_same, hy]
      exact ⟨_, rfl, keepM_old _ _⟩
    · rw [putM_other g' v e]
      exact ⟨u, hy, W.le_refl _⟩
  refine ⟨fun y u hy => ?_, fun y u hy => ?_, fun y u hy => ?_⟩
  · by_cases e : y = x
    · subst e
      rw [putM_same] at hy
      injection hy with hy
      subst hy
      rcases keepM_or (g' y) v with e2 | e2
      · exact .inr ⟨List.mem_append_right _ (by rw [e2]; exact List.mem_singleton.2 rfl), hF⟩
      · rcases h1 y _ e2 with h | ⟨h, h'⟩
        · exact .inl h
        · exact .inr ⟨List.mem_append_left _ h, h'⟩
    · rw [putM_other g' v e] at hy
      rcases h1 y u hy with h | ⟨h, h'⟩
      · exact .inl h
      · exact .inr ⟨List.mem_append_left _ h, h'⟩
  · obtain ⟨u', h4, h5⟩ := h2 y u hy
    obtain ⟨u2, h6, h7⟩ := keep y u' h4
    exact ⟨u2, h6, W.le_trans h7 h5⟩
  · rcases List.mem_append.1 hy with hy | hy
    · rcases h3 y u hy with h | ⟨u', h4, h5⟩
      · exact .inl h
      · obtain ⟨u2, h6, h7⟩ := keep y u' h4
        exact .inr ⟨u2, h6, W.le_trans h7 h5⟩
    · simp only [List.mem_singleton, Prod.mk.injEq] at hy
      obtain ⟨rfl, rfl⟩ := hy
      rw [putM_same]
      exact .inr ⟨_, rfl, keepM_le _ _⟩
theorem Puts.trans {F : ByteArray → Bool} {g g' g'' : ByteArray → Option ByteArray} {L L' : List (ByteArray × ByteArray)} (h : Puts F g L g') (h' : Puts F g' L' g'') : Puts F g (L ++ L') g'' := by
  obtain ⟨h1, h2, h3⟩ := h
  obtain ⟨k1, k2, k3⟩ := h'
  refine ⟨fun x v hx => ?_, fun x v hx => ?_, fun x v hx => ?_⟩
  · rcases k1 x v hx with h | ⟨h, h'⟩
    · rcases h1 x v h with h | ⟨h, h'⟩
      · exact .inl h
      · exact .inr ⟨List.mem_append_left _ h, h'⟩
    · exact .inr ⟨List.mem_append_right _ h, h'⟩
  · obtain ⟨u, h4, h5⟩ := h2 x v hx
    obtain ⟨u2, h6, h7⟩ := k2 x u h4
    exact ⟨u2, h6, W.le_trans h7 h5⟩
  · rcases List.mem_append.1 hx with hx | hx
    · rcases h3 x v hx with h | ⟨u', h4, h5⟩
      · exact .inl h
      · obtain ⟨u2, h6, h7⟩ := k2 x u' h4
        exact .inr ⟨u2, h6, W.le_trans h7 h5⟩
    · exact k3 x v hx

/-- the ends behind a word, with the words written by then -/
def endsAt (v : ByteArray → ByteArray) (rs : List ByteArray) : List (ByteArray × ByteArray) := rs.map fun x => (x, v x)
def ends0 (ss : List ByteArray) (k : Nat) : List (ByteArray × ByteArray) := (ss.take k).flatMap fun s => endsAt (fun _ => s) (rests ss [s])
theorem endsAt_succ (v : ByteArray → ByteArray) (rs : List ByteArray) (k : Nat) (h : k < rs.length) : endsAt v (rs.take (k + 1)) = endsAt v (rs.take k) ++ [(W.nth rs k, v (W.nth rs k))] := by
  unfold endsAt
  rw [List.take_succ_eq_append_getElem h, List.map_append, W.nth_lt rs k h]
  rfl
theorem ends0_succ (ss : List ByteArray) (k : Nat) (h : k < ss.length) : ends0 ss (k + 1) = ends0 ss k ++ endsAt (fun _ => W.nth ss k) (rests ss [W.nth ss k]) := by
  unfold ends0
  rw [List.take_succ_eq_append_getElem h, List.flatMap_append, W.nth_lt ss k h]
  simp
def noF : ByteArray → Bool := fun _ => false
def noG : ByteArray → Option ByteArray := fun _ => none
def GivesOpen (w0 : World) (ss : List ByteArray) (e : Ending) (w' : World) : Prop :=
  ∃ b g, e = .returned (.map (some b)) ∧ w0.heap.size ≤ b ∧ OpenAt w' b 4096 g ∧ Puts noF noG (ends0 ss ss.length) g ∧ Below w0.heap.size w0 w'

theorem rest_small {ss ts : List ByteArray} {x : ByteArray} {n : Nat} (hx : x ∈ rests ss ts) (h : ∀ t ∈ ts, t.size ≤ n) : x.size ≤ n := by
  obtain ⟨s, _, t, ht, hx⟩ := mem_rests.1 hx
  obtain ⟨_, rfl, _⟩ := restOf_mem hx
  have := h t ht
  have := drop_size t s.size
  omega
theorem nth_mem {l : List ByteArray} {j : Nat} (h : j < l.length) : W.nth l j ∈ l := by
  rw [W.nth_lt l j h]
  exact List.getElem_mem h
theorem row_text (w : World) (s : ByteArray) : Row (w.alloc (.cells #[.string s] 9)) (w.alloc (.cells #[.string s] 9)).heap.size (some ⟨w.heap.size, 0, none⟩) (strs [s]) :=
  row_one (by rw [World.cell?_alloc_at _ _ _ _ rfl]; rfl)
set_option maxHeartbeats 3200000 in
theorem impl_firstEnds (A : Option Addr) (ss : List ByteArray) (c : Nat) (w : World) (h : Row w w.heap.size A (strs ss)) (h12 : ss.length ≤ 12) (h8 : ∀ s ∈ ss, s.size ≤ 8) :
    Calls Tryz.prog 37 #[.slice A ss.length c] w (GivesOpen w ss) := by
  replace h := Lib.hid h
  replace h8 := Lib.hid h8
  have hmm := @run_makeMap Tryz.prog
  go_enter Tryz.func37, Tryz.ntmps37
  go_wp2_with fail
  go_loopw [11] (fun i wr => ∃ (k : Nat) (g : ByteArray → Option ByteArray), k ≤ ss.length ∧ i = .int .i64 k ∧ OpenAt wr w.heap.size (12 * k) g ∧ Puts noF noG (ends0 ss k) g ∧ Below w.heap.size w wr)
    (fun i _ => ss.length - (intOf i).toNat)
  case atStart => exact ⟨0, noG, Nat.zero_le _, rfl, opens_made w, Puts.nil _ _, (Below.refl _ _).alloc (Nat.le_refl _) _⟩
  case round =>
    obtain ⟨k, g, hk, rfl, hO, hP, hB⟩ := hrel
    have H := Lib.hid (And.intro hO (And.intro hP hB))
    clear hO hP hB hmm
    by_cases hlt : k < ss.length
    · obtain ⟨b, off, rfl, hb, hcc⟩ := h.out (by rw [strs_length]; omega)
      have hlt' : (k : Int) < (ss.length : Int) := by omega
      have c1 := (H.out.2.2.cell (p := ⟨b, off + k, none⟩) hb).trans (hcc k _ (strs_nth ss k hlt))
      have hs8 := h8.out _ (nth_mem hlt)
      have Hsucc := Lib.hid (ends0_succ ss k hlt)
      clear hcc
      generalize W.nth ss k = s at c1 hs8 Hsucc
      have hBa := Lib.hid (H.out.2.2.alloc H.out.2.2.size (.cells #[.string s] 9))
      have hq1 := Lib.hid (impl_restsOf (some ⟨b, off, none⟩) ss c (some ⟨wr.heap.size, 0, none⟩) [s] 1 (wr.alloc (.cells #[.string s] 9)) ((h.out.below hBa.out).more hBa.out.size) (row_text wr s) (by omega) (by simp))
      have hrl := rests_len ss [s]
      have hr8 := Lib.hid (fun x (hx : x ∈ rests ss [s]) => rest_small (n := 8) hx (fun t ht => by rw [List.mem_singleton.1 ht]; exact hs8))
      rw [List.length_singleton, Nat.mul_one] at hrl
      have hb0 := H.out.2.2.size
      have hbx : Hid (w.heap.size < (wr.alloc (.cells #[.string s] 9)).heap.size) := by
        show w.heap.size < _
        simp
        omega
      generalize rests ss [s] = rs at hq1 hrl hr8 Hsucc
      go_wp2_with fail
      refine hq1.out.mono ?_
      rintro e w2 ⟨A2, c2, rfl, ho2, hB2⟩
      have hO2 := (H.out.1.kept (World.grownBy_alloc wr (.cells #[.string s] 9) none) (by simp)).below hB2
      have H2 := Lib.hid (And.intro hO2 (And.intro (hBa.out.trans (hB2.mono hBa.out.size)) ho2))
      clear hO2 hB2 ho2 hq1 hBa
      go_wp2_with fail
      have hE := Lib.hid (fun (j : Nat) hj => endsAt_succ (fun _ => s) rs j hj)
      go_loopw [20] (fun i wr' => ∃ (j : Nat) (g' : ByteArray → Option ByteArray), j ≤ rs.length ∧ i = .int .i64 j ∧ OpenAt wr' w.heap.size (12 * k + j) g' ∧ Puts noF noG (ends0 ss k ++ endsAt (fun _ => s) (rs.take j)) g' ∧ Below w.heap.size w wr' ∧ wr'.ownsRow (wr.alloc (.cells #[.string s] 9)).heap.size 9 1 (.slice A2 rs.length c2) rs.length (strs rs))
        (fun i _ => rs.length - (intOf i).toNat)
      case atStart => exact ⟨0, g, Nat.zero_le _, rfl, H2.out.1, by simpa [endsAt] using H.out.2.1, H2.out.2.1, H2.out.2.2⟩
      case round =>
        obtain ⟨j, g', hj, rfl, hO, hP, hB, ho⟩ := hrel
        by_cases hlj : j < rs.length
        · obtain ⟨b', off', rfl, hb', hcc'⟩ := Row.of_own ho (by rw [strs_length]; omega)
          have H3 := Lib.hid (And.intro hO (And.intro hP (And.intro hB ho)))
          have hlj' : (j : Int) < (rs.length : Int) := by omega
          have c2' := hcc' j _ (strs_nth rs j hlj)
          have hx8 := hr8.out _ (nth_mem hlj)
          have hE2 := Lib.hid (hE.out j hlj)
          clear hcc' hO hP hB ho H2
          generalize W.nth rs j = x at c2' hx8 hE2
          have hq := Lib.hid (impl_put w.heap.size (12 * k + j) g' x s _ H3.out.1 (by unfold maxLen; omega) (by unfold maxLen; omega) (by unfold maxLen; omega))
          go_wp2_with fail
          refine hq.out.mono ?_
          rintro e w4 ⟨rfl, hO4, hg4⟩
          have ho4 := H3.out.2.2.2.kept hg4 (own_ne H3.out.2.2.2 (fun g hg => by injection hg with hg; subst hg; exact hbx.out))
          have hB4 := H3.out.2.2.1.grown hg4 H3.out.2.2.1.size (fun g hg => by injection hg with hg; omega)
          have hP4 : Puts noF noG (ends0 ss k ++ endsAt (fun _ => s) (rs.take (j + 1))) (putM g' x s) := by
            rw [hE2.out, ← List.append_assoc]
            exact H3.out.2.1.put rfl s
          have H4 := Lib.hid (And.intro hO4 (And.intro hP4 (And.intro hB4 ho4)))
          clear hO4 hg4 ho4 hB4 hP4 H3
          go_wp2
          go_roundw
          case rel => exact ⟨j + 1, _, by omega, by go_num, H4.out.1, H4.out.2.1, H4.out.2.2.1, H4.out.2.2.2⟩
          case measure => simp [intOf]; omega
        · have hje : j = rs.length := by omega
          subst hje
          have H3 := Lib.hid (And.intro hO (And.intro hP (And.intro hB ho)))
          clear hO hP hB ho H2
          go_wp2
          go_roundw
          case rel => exact ⟨k + 1, g', by omega, by go_num, H3.out.1.mono (by omega), by have := H3.out.2.1; rw [List.take_length] at this; rw [Hsucc.out]; exact this, H3.out.2.2.1⟩
          case measure => simp [intOf]; omega
    · have hke : k = ss.length := by omega
      subst hke
      go_wp2
      go_ret
      exact ⟨_, g, rfl, Nat.le_refl _, H.out.1.mono (by omega), H.out.2.1, H.out.2.2⟩

end Go.Proofs.YtjopbmhldpcpdaaGreatDoor
