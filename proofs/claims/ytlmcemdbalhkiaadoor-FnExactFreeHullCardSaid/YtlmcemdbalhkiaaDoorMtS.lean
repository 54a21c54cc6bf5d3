/-
  WHAT THIS FILE PROVES: whether a word can meet in a set: the specification's functions, which list all ends that it leads to, tell it; asked: a slice of texts in memory, lengths that an int holds.
-/
import Derived.Test.YtlmcemdbalhkiaaDoorMtC
import Derived.Test.YtlmcemdbalhkiaaDoorPair
import Derived.Test.YtlmcemdbalhkiaaDoorLg
namespace Go.Proofs.YtlmcemdbalhkiaaDoor
open Go.RowKit Go.Shelf

/-- the ends that a word leads to -/
inductive Rc (ss : List ByteArray) (r : ByteArray) : ByteArray → Prop
  | here : Rc ss r r
  | step {u x : ByteArray} : Rc ss r u → dE ss u x → Rc ss r x
theorem rc_db {ss : List ByteArray} {r u : ByteArray} (h : Rc ss r u) : ∃ w, Mt.Db ss (only r) w u := by
  induction h with
  | here => exact ⟨_, .start ⟨rfl, rfl⟩⟩
  | step _ he ih =>
    obtain ⟨w, hw⟩ := ih
    obtain ⟨t, ht, hx | hx⟩ := he
    · exact ⟨_, hw.off ht hx⟩
    · exact ⟨_, hw.on ht hx⟩
theorem db_rc {ss : List ByteArray} {r u : ByteArray} {w : List UInt8} (h : Mt.Db ss (only r) w u) : Rc ss r u := by
  induction h with
  | start hi => obtain ⟨rfl, _⟩ := hi; exact .here
  | off _ ht hx ih => exact ih.step ⟨_, ht, .inl hx⟩
  | on _ ht hx ih => exact ih.step ⟨_, ht, .inr hx⟩
/-- what the list of ends holds -/
structure RcL (ss : List ByteArray) (r : ByteArray) (L : List ByteArray) : Prop where
  nodup : L.Nodup
  rc : ∀ x ∈ L, Rc ss r x
  here : r ∈ L
theorem RcL.few {ss : List ByteArray} {r : ByteArray} {L : List ByteArray} (h : RcL ss r L) (hset : W.isSet ss = true) (h1 : 1 ≤ r.size) (h8 : r.size ≤ 8) : L.length ≤ 92 :=
  Nat.le_trans (G.nodup_le _ _ h.nodup (fun x hx => by
    obtain ⟨w, hw⟩ := rc_db (h.rc x hx)
    exact (ends_only hset h1 h8).mem hw)) (ends_only hset h1 h8).few
theorem RcL.size {ss : List ByteArray} {r : ByteArray} {L : List ByteArray} (h : RcL ss r L) (hset : W.isSet ss = true) (h1 : 1 ≤ r.size) (h8 : r.size ≤ 8) {x : ByteArray} (hx : x ∈ L) : 1 ≤ x.size ∧ x.size ≤ 8 := by
  obtain ⟨w, hw⟩ := rc_db (h.rc x hx)
  exact (ends_only hset h1 h8).size _ ((ends_only hset h1 h8).mem hw)
theorem RcL.add {ss : List ByteArray} {r : ByteArray} {L : List ByteArray} (h : RcL ss r L) {u x : ByteArray} (hu : u ∈ L) (hx : dE ss u x) (hn : hasB L x = false) : RcL ss r (L ++ [x]) := by
  refine ⟨?_, fun y hy => ?_, List.mem_append_left _ h.here⟩
  · rw [List.nodup_append]
    refine ⟨h.nodup, by simp, fun a ha b hb e => ?_⟩
    rw [List.mem_singleton] at hb
    subst hb e
    rw [hasB_mem.2 ha] at hn
    cases hn
  · rcases List.mem_append.1 hy with hy | hy
    · exact h.rc y hy
    · rw [List.mem_singleton] at hy
      subst hy
      exact (h.rc u hu).step hx
theorem RcL.one (ss : List ByteArray) (r : ByteArray) : RcL ss r [r] := ⟨by simp, fun x hx => by rw [List.mem_singleton] at hx; subst hx; exact .here, by simp⟩
/-- the words with an index below j have been tried on u -/
def Tried (ss : List ByteArray) (u : ByteArray) (j : Nat) (L : List ByteArray) : Prop := ∀ i, i < j → W.nth ss i ≠ u ∧ ∀ x, (x ∈ restOf (W.nth ss i) u ∨ x ∈ restOf u (W.nth ss i)) → x ∈ L
theorem Tried.more {ss : List ByteArray} {u : ByteArray} {j : Nat} {L M : List ByteArray} (h : Tried ss u j L) : Tried ss u j (L ++ M) := fun i hi => ⟨(h i hi).1, fun x hx => List.mem_append_left _ ((h i hi).2 x hx)⟩
theorem Tried.next {ss : List ByteArray} {u : ByteArray} {j : Nat} {L : List ByteArray} (h : Tried ss u j L) (h1 : W.nth ss j ≠ u) (h2 : ∀ x, (x ∈ restOf (W.nth ss j) u ∨ x ∈ restOf u (W.nth ss j)) → x ∈ L) : Tried ss u (j + 1) L := fun i hi => by
  by_cases e : i = j
  · subst e; exact ⟨h1, h2⟩
  · exact h i (by omega)
/-- the first k ends have been tried -/
def TriedTo (ss : List ByteArray) (k : Nat) (L : List ByteArray) : Prop := ∀ i, i < k → Tried ss (W.nth L i) ss.length L
theorem nth_more {L M : List ByteArray} {i : Nat} (h : i < L.length) : W.nth (L ++ M) i = W.nth L i := by
  rw [W.nth_lt _ i (by rw [List.length_append]; omega), W.nth_lt _ i h, List.getElem_append_left h]
theorem TriedTo.more {ss : List ByteArray} {k : Nat} {L M : List ByteArray} (hk : k ≤ L.length) (h : TriedTo ss k L) : TriedTo ss k (L ++ M) := fun i hi => by
  rw [nth_more (by omega)]
  exact (h i hi).more
theorem TriedTo.next {ss : List ByteArray} {k : Nat} {L : List ByteArray} (h : TriedTo ss k L) (h1 : Tried ss (W.nth L k) ss.length L) : TriedTo ss (k + 1) L := fun i hi => by
  by_cases e : i = k
  · subst e; exact h1
  · exact h i (by omega)
/-- all ends tried, none a word of the set -/
theorem tried_all {ss : List ByteArray} {r : ByteArray} {L : List ByteArray} (hr : RcL ss r L) (h : TriedTo ss L.length L) : mtB ss r = false := by
  have key : ∀ u, Rc ss r u → u ∈ L := fun u hu => by
    induction hu with
    | here => exact hr.here
    | step _ he ih =>
      obtain ⟨i, hi, e⟩ := List.getElem_of_mem ih
      obtain ⟨t, ht, hx⟩ := he
      obtain ⟨j, hj, e2⟩ := List.getElem_of_mem ht
      have h2 := (h i hi j hj).2
      rw [W.nth_lt L i hi, e, W.nth_lt ss j hj, e2] at h2
      exact h2 _ hx
  refine mtB_no fun ⟨w, u, hd, hu⟩ => ?_
  obtain ⟨i, hi, e⟩ := List.getElem_of_mem (key u (db_rc hd))
  obtain ⟨j, hj, e2⟩ := List.getElem_of_mem hu
  have h2 := (h i hi j hj).1
  rw [W.nth_lt L i hi, e, W.nth_lt ss j hj, e2] at h2
  exact h2 rfl
theorem met {ss : List ByteArray} {r u : ByteArray} {L : List ByteArray} (hr : RcL ss r L) (hu : u ∈ L) (hs : u ∈ ss) : mtB ss r = true := by
  obtain ⟨w, hw⟩ := rc_db (hr.rc u hu)
  exact mtB_yes ⟨w, u, hw, hs⟩
theorem pre_eq {s t : ByteArray} (h : Lib.hasPrefix t.data.toList s.data.toList = true) (hs : t.size ≤ s.size) : t = s := by
  apply data_inj
  have h1 := W.prefix_take h
  rw [List.take_of_length_le (by rw [← Lib.size_eq, ← Lib.size_eq]; exact hs)] at h1
  exact h1
theorem restOf_no {s t : ByteArray} (h : Lib.hasPrefix t.data.toList s.data.toList = false) : restOf s t = [] := by unfold restOf; rw [h]; rfl
theorem restOf_no2 {s t : ByteArray} (h : t.size ≤ s.size) : restOf s t = [] := by
  unfold restOf
  rw [decide_eq_false (by omega), Bool.and_false]
  rfl
theorem restOf_one {s t : ByteArray} (h : Lib.hasPrefix t.data.toList s.data.toList = true) (hs : s.size < t.size) : restOf s t = [t.extract s.size t.size] := by
  unfold restOf
  rw [h, decide_eq_true hs]
  rfl
theorem pre_le {s t : ByteArray} (h : Lib.hasPrefix t.data.toList s.data.toList = true) : s.size ≤ t.size := by
  have := congrArg List.length (W.prefix_take h)
  rw [List.length_take, ← Lib.size_eq, ← Lib.size_eq] at this
  omega
theorem empty_toList (x : ByteArray) : (x.toList == ([] : List UInt8)) = decide (x.size = 0) := by
  rw [Lib.toList_data, Lib.size_eq]
  cases x.data.toList <;> rfl

set_option maxHeartbeats 6400000 in
set_option maxRecDepth 100000 in
theorem spec_bsMeets (A : Option Addr) (ss : List ByteArray) (c : Nat) (r : ByteArray) (w : World) (h : Row w w.heap.size A (strs ss)) (hset : W.isSet ss = true) (h1 : 1 ≤ r.size) (h8 : r.size ≤ 8) :
    Calls Tryd.prog 46 #[.slice A ss.length c, .string r] w fun e w' => e = .returned (.bool (mtB ss r)) ∧ Below w.heap.size w w' := by
  have h12 := W.isSet_len ss hset
  obtain ⟨i0, hi, hz0, hz1, hz2⟩ := info_parts infoStr
  have HR := Lib.hid (And.intro hi (And.intro hz0 (And.intro hz1 hz2)))
  have Hset := Lib.hid hset
  obtain ⟨q, hq⟩ : ∃ q, q = mtB ss r := ⟨_, rfl⟩
  rw [← hq]
  replace hq := Lib.hid hq
  replace h := Lib.hid h
  have hown0 := Lib.hid (show (w.alloc (.cells #[.string r] 9)).ownsRow w.heap.size 9 1 (.slice (some ⟨w.heap.size, 0, none⟩) 1 1) 1 (strs [r]) by
    have := World.ownsRow_lit (base := w.heap.size) (e := 9) (size := 1) w #[.string r] 1 (Nat.le_refl _) (by unfold maxLen; omega) rfl
    simpa [strs] using this)
  clear hi hz0 hz1 hz2 hset
  go_enter Tryd.func46, Tryd.ntmps46
  go_wp2
  go_loopw [5, 6] (fun v i wr => ∃ (k : Nat) (L : List ByteArray), k ≤ L.length ∧ i = .int .i64 k ∧ Hid (RcL ss r L ∧ TriedTo ss k L) ∧ wr.ownsRow w.heap.size 9 1 v L.length (strs L) ∧ Below w.heap.size w wr)
    (fun _ i _ => 93 - (intOf i).toNat)
  case atStart => exact ⟨0, [r], Nat.zero_le _, rfl, ⟨RcL.one ss r, fun i hi => absurd hi (Nat.not_lt_zero _)⟩, hown0.out, (Below.refl _ _).alloc (Nat.le_refl _) _⟩
  case round =>
    obtain ⟨k, L, hk, rfl, hL, ho, hB⟩ := hrel
    obtain ⟨Ar, cr, rfl⟩ := own_slice ho
    have hO := Lib.hid (And.intro ho hB)
    clear ho hB hown0
    have hfew := hL.out.1.few Hset.out h1 h8
    by_cases hlt : k < L.length
    · obtain ⟨g0, rfl, hg0, hg1⟩ := own_form hO.out.1 (by omega)
      have hlt' : (k : Int) < (L.length : Int) := by omega
      have c1 := hO.out.1.cellAt k (by omega)
      rw [strs_at L k hlt, ← W.nth_lt L k hlt] at c1
      have hmem : W.nth L k ∈ L := by rw [W.nth_lt L k hlt]; exact List.getElem_mem hlt
      have husz := hL.out.1.size Hset.out h1 h8 hmem
      obtain ⟨u, hu⟩ : ∃ u, u = W.nth L k := ⟨_, rfl⟩
      rw [← hu] at c1 hmem husz
      replace hu := Lib.hid hu
      have hL0 : Hid (RcL ss r L ∧ TriedTo ss k L ∧ W.nth L k = u ∧ k < L.length ∧ u ∈ L ∧ Tried ss u 0 L) := ⟨hL.out.1, hL.out.2, hu.out.symm, hlt, hmem, fun i hi => absurd hi (Nat.not_lt_zero _)⟩
      clear hmem
      go_wp2_with fail
      generalize wr = wk at hO c1 hg1 ⊢
      go_loopw [5, 25] (fun v i wr => ∃ (j : Nat) (M : List ByteArray), j ≤ ss.length ∧ i = .int .i64 j ∧ Hid (RcL ss r M ∧ TriedTo ss k M ∧ W.nth M k = u ∧ k < M.length ∧ u ∈ M ∧ Tried ss u j M) ∧ wr.ownsRow w.heap.size 9 1 v M.length (strs M) ∧ Below w.heap.size w wr)
        (fun _ i _ => ss.length - (intOf i).toNat)
      case atStart => exact ⟨0, L, Nat.zero_le _, rfl, hL0, hO.out⟩
      case round =>
        obtain ⟨j, M, hj, rfl, hM, hom, hBm⟩ := hrel
        obtain ⟨Am, cm, rfl⟩ := own_slice hom
        have HM := Lib.hid (And.intro hom hBm)
        have hMf := hM.out.1.few Hset.out h1 h8
        clear hom hBm hL0 hO c1
        by_cases hltj : j < ss.length
        · obtain ⟨b, off, rfl, hb, hcc⟩ := h.out (by rw [strs_length]; omega)
          have hltj' : (j : Int) < (ss.length : Int) := by omega
          have c2 := (HM.out.2.cell (p := ⟨b, off + j, none⟩) hb).trans (hcc j _ (strs_nth ss j hltj))
          clear hcc
          have htm : Hid (W.nth ss j ∈ ss) := by
            show W.nth ss j ∈ ss
            rw [W.nth_lt ss j hltj]
            exact List.getElem_mem hltj
          have hts := set_size Hset.out htm.out
          obtain ⟨t, ht⟩ : ∃ t, t = W.nth ss j := ⟨_, rfl⟩
          rw [← ht] at c2 hts htm
          replace ht := Lib.hid ht.symm
          have hbA := fun W' => spec_wdBegins t u W'
          have hbB := fun W' => spec_wdBegins u t W'
          cases hp : Lib.hasPrefix t.data.toList u.data.toList
          · rw [hp] at hbA
            replace hbA := Lib.hid hbA
            have hne : t ≠ u := fun e => by rw [e, hasPrefix_self] at hp; cases hp
            have hr2 := Lib.hid (restOf_no (s := u) (t := t) hp)
            cases hp2 : Lib.hasPrefix u.data.toList t.data.toList
            · rw [hp2] at hbB
              replace hbB := Lib.hid hbB
              have hr1 := Lib.hid (restOf_no (s := t) (t := u) hp2)
              have hT2 := Lib.hid (hM.out.2.2.2.2.2.next (by rw [ht.out]; exact hne) (fun x hx => by
                rw [ht.out, hr1.out, hr2.out] at hx
                simp at hx))
              clear hp hp2 hne
              go_wp2_with fail
              refine (hbA.out _).mono ?_
              rintro e w1 ⟨rfl, rfl⟩
              go_wp2_with fail
              refine (hbB.out _).mono ?_
              rintro e w1 ⟨rfl, rfl⟩
              go_wp2
              go_roundw
              case rel => exact ⟨j + 1, M, by omega, by go_num, ⟨hM.out.1, hM.out.2.1, hM.out.2.2.1, hM.out.2.2.2.1, hM.out.2.2.2.2.1, hT2.out⟩, HM.out⟩
              case measure => simp [intOf]; omega
            · rw [hp2] at hbB
              replace hbB := Lib.hid hbB
              have hle := pre_le hp2
              have hlt2 : t.size < u.size := by
                rcases Nat.lt_or_ge t.size u.size with h | h
                · exact h
                · exact absurd (pre_eq hp2 h).symm hne
              have hr1 := Lib.hid (restOf_one hp2 hlt2)
              have hi1 : (t.size : Int) ≤ (u.size : Int) := by omega
              clear hp hp2
              have hx0 : ((u.extract t.size u.size).toList == ([] : List UInt8)) = false := by
                rw [empty_toList]
                exact decide_eq_false (by rw [drop_size]; omega)
              have hdE : dE ss u (u.extract t.size u.size) := ⟨t, htm.out, .inl (by rw [hr1.out]; simp)⟩
              have hres : Hid (∀ N, u.extract t.size u.size ∈ N → Tried ss u (j + 1) N ∨ ¬ Tried ss u j N) := fun N hN => by
                by_cases hT : Tried ss u j N
                · left
                  refine hT.next (by rw [ht.out]; exact hne) (fun x hx => ?_)
                  rw [ht.out, hr1.out, hr2.out] at hx
                  simp at hx
                  rw [hx]
                  exact hN
                · exact .inr hT
              have hnx : Hid (∀ N, u.extract t.size u.size ∈ N → Tried ss u j N → Tried ss u (j + 1) N) := fun N hN hT => (hres.out N hN).resolve_right (fun h => h hT)
              clear hres
              have hwh := Lib.hid (spec_wdHas Am M cm (u.extract t.size u.size) wr (Row.of_own HM.out.1) (by omega))
              cases hhas : hasB M (u.extract t.size u.size)
              · have hrc := Lib.hid (hM.out.1.add hM.out.2.2.2.2.1 hdE hhas)
                rw [hhas] at hwh
                clear hhas hdE
                go_wp2_with fail
                refine (hbA.out _).mono ?_
                rintro e w1 ⟨rfl, rfl⟩
                go_wp2_with fail
                refine (hbB.out _).mono ?_
                rintro e w1 ⟨rfl, rfl⟩
                go_wp2_with fail
                refine hwh.out.mono ?_
                rintro e w2 ⟨rfl, rfl⟩
                go_wp2_with (at_builtin; refine wpList_append_own _ rfl _ _ 22 rfl w.heap.size 9 i0 (.string ByteArray.empty) 1 16 Tryd.underlying22 HR.out.1 HR.out.2.1 HR.out.2.2.1 HR.out.2.2.2 rfl (by decide) _ _ _ rfl (HM.out.1.alloc _) ⟨wr.heap.size, 0, none⟩ 1 1 [.string (u.extract t.size u.size)] rfl rfl ?c1 ?c2 ?c3 ?c4 ?c5 ?_)
                case c1 => exact cell_one_new _ _ _
                case c2 => exact one_text _
                case c3 => unfold maxLen; omega
                case c4 => omega
                case c5 => have := HM.out.2.size; simp; omega
                intro v' w4 hown' hgrow _
                have hlt4 := HM.out.1.lt
                have hO4 := Lib.hid (And.intro hown' ((HM.out.2.alloc HM.out.2.size _).grown hgrow (by have := HM.out.2.size; simp; omega) (fun g hg => (hlt4 g hg).1)))
                clear hown' hgrow hlt4
                go_wp2
                go_roundw
                case rel =>
                  refine ⟨j + 1, M ++ [u.extract t.size u.size], by omega, by go_num, ⟨hrc.out, hM.out.2.1.more (by have := hM.out.2.2.2.1; omega), by rw [nth_more hM.out.2.2.2.1]; exact hM.out.2.2.1, by rw [List.length_append]; have := hM.out.2.2.2.1; omega, List.mem_append_left _ hM.out.2.2.2.2.1, hnx.out _ (by simp) hM.out.2.2.2.2.2.more⟩, own_nx hO4.out.1 ?_ ?_, hO4.out.2⟩
                  · rw [List.length_append]
                    rfl
                  · rw [strs_snoc]
                case measure => simp [intOf]; omega
              · have hin := Lib.hid (hasB_mem.1 hhas)
                rw [hhas] at hwh
                clear hhas hdE
                go_wp2_with fail
                refine (hbA.out _).mono ?_
                rintro e w1 ⟨rfl, rfl⟩
                go_wp2_with fail
                refine (hbB.out _).mono ?_
                rintro e w1 ⟨rfl, rfl⟩
                go_wp2_with fail
                refine hwh.out.mono ?_
                rintro e w2 ⟨rfl, rfl⟩
                go_wp2
                go_roundw
                case rel => exact ⟨j + 1, M, by omega, by go_num, ⟨hM.out.1, hM.out.2.1, hM.out.2.2.1, hM.out.2.2.2.1, hM.out.2.2.2.2.1, hnx.out _ hin.out hM.out.2.2.2.2.2⟩, HM.out⟩
                case measure => simp [intOf]; omega
          · rw [hp] at hbA
            replace hbA := Lib.hid hbA
            have hle := pre_le hp
            have hi1 : (u.size : Int) ≤ (t.size : Int) := by omega
            by_cases hsz : u.size = t.size
            · have hut := pre_eq hp (by omega)
              have hmt := Lib.hid ((met hM.out.1 hM.out.2.2.2.2.1 (by rw [← hut]; exact htm.out)).symm.trans hq.out.symm)
              have hx0 : ((t.extract u.size t.size).toList == ([] : List UInt8)) = true := by
                rw [empty_toList]
                exact decide_eq_true (by rw [drop_size]; omega)
              clear hp hut
              go_wp2_with fail
              refine (hbA.out _).mono ?_
              rintro e w1 ⟨rfl, rfl⟩
              go_wp2
              go_ret
              refine ⟨?_, HM.out.2⟩
              rw [← hmt.out]
              rfl
            · have hlt2 : u.size < t.size := by omega
              have hne : t ≠ u := fun e => by rw [e] at hlt2; omega
              have hr1 := Lib.hid (restOf_one hp hlt2)
              have hr2 := Lib.hid (restOf_no2 (s := t) (t := u) (by omega))
              clear hp hsz
              have hx0 : ((t.extract u.size t.size).toList == ([] : List UInt8)) = false := by
                rw [empty_toList]
                exact decide_eq_false (by rw [drop_size]; omega)
              have hdE : dE ss u (t.extract u.size t.size) := ⟨t, htm.out, .inr (by rw [hr1.out]; simp)⟩
              have hres : Hid (∀ N, t.extract u.size t.size ∈ N → Tried ss u (j + 1) N ∨ ¬ Tried ss u j N) := fun N hN => by
                by_cases hT : Tried ss u j N
                · left
                  refine hT.next (by rw [ht.out]; exact hne) (fun x hx => ?_)
                  rw [ht.out, hr2.out, hr1.out] at hx
                  simp at hx
                  rw [hx]
                  exact hN
                · exact .inr hT
              have hnx : Hid (∀ N, t.extract u.size t.size ∈ N → Tried ss u j N → Tried ss u (j + 1) N) := fun N hN hT => (hres.out N hN).resolve_right (fun h => h hT)
              clear hres
              have hwh := Lib.hid (spec_wdHas Am M cm (t.extract u.size t.size) wr (Row.of_own HM.out.1) (by omega))
              cases hhas : hasB M (t.extract u.size t.size)
              · have hrc := Lib.hid (hM.out.1.add hM.out.2.2.2.2.1 hdE hhas)
                rw [hhas] at hwh
                clear hhas hdE
                go_wp2_with fail
                refine (hbA.out _).mono ?_
                rintro e w1 ⟨rfl, rfl⟩
                go_wp2_with fail
                refine hwh.out.mono ?_
                rintro e w2 ⟨rfl, rfl⟩
                go_wp2_with (at_builtin; refine wpList_append_own _ rfl _ _ 22 rfl w.heap.size 9 i0 (.string ByteArray.empty) 1 16 Tryd.underlying22 HR.out.1 HR.out.2.1 HR.out.2.2.1 HR.out.2.2.2 rfl (by decide) _ _ _ rfl (HM.out.1.alloc _) ⟨wr.heap.size, 0, none⟩ 1 1 [.string (t.extract u.size t.size)] rfl rfl ?c1 ?c2 ?c3 ?c4 ?c5 ?_)
                case c1 => exact cell_one_new _ _ _
                case c2 => exact one_text _
                case c3 => unfold maxLen; omega
                case c4 => omega
                case c5 => have := HM.out.2.size; simp; omega
                intro v' w4 hown' hgrow _
                have hlt4 := HM.out.1.lt
                have hO4 := Lib.hid (And.intro hown' ((HM.out.2.alloc HM.out.2.size _).grown hgrow (by have := HM.out.2.size; simp; omega) (fun g hg => (hlt4 g hg).1)))
                clear hown' hgrow hlt4
                go_wp2
                go_roundw
                case rel =>
                  refine ⟨j + 1, M ++ [t.extract u.size t.size], by omega, by go_num, ⟨hrc.out, hM.out.2.1.more (by have := hM.out.2.2.2.1; omega), by rw [nth_more hM.out.2.2.2.1]; exact hM.out.2.2.1, by rw [List.length_append]; have := hM.out.2.2.2.1; omega, List.mem_append_left _ hM.out.2.2.2.2.1, hnx.out _ (by simp) hM.out.2.2.2.2.2.more⟩, own_nx hO4.out.1 ?_ ?_, hO4.out.2⟩
                  · rw [List.length_append]
                    rfl
                  · rw [strs_snoc]
                case measure => simp [intOf]; omega
              · have hin := Lib.hid (hasB_mem.1 hhas)
                rw [hhas] at hwh
                clear hhas hdE
                go_wp2_with fail
                refine (hbA.out _).mono ?_
                rintro e w1 ⟨rfl, rfl⟩
                go_wp2_with fail
                refine hwh.out.mono ?_
                rintro e w2 ⟨rfl, rfl⟩
                go_wp2
                go_roundw
                case rel => exact ⟨j + 1, M, by omega, by go_num, ⟨hM.out.1, hM.out.2.1, hM.out.2.2.1, hM.out.2.2.2.1, hM.out.2.2.2.2.1, hnx.out _ hin.out hM.out.2.2.2.2.2⟩, HM.out⟩
                case measure => simp [intOf]; omega
        · have hje : j = ss.length := by omega
          subst hje
          have hT2 := Lib.hid (hM.out.2.1.next (by rw [hM.out.2.2.1]; exact hM.out.2.2.2.2.2))
          go_wp2
          go_roundw
          case rel => exact ⟨k + 1, M, hM.out.2.2.2.1, by go_num, ⟨hM.out.1, hT2.out⟩, HM.out⟩
          case measure => simp [intOf]; omega
    · have hke : k = L.length := by omega
      subst hke
      have hf := Lib.hid ((tried_all hL.out.1 hL.out.2).symm.trans hq.out.symm)
      go_wp2
      go_ret
      refine ⟨?_, hO.out.2⟩
      rw [← hf.out]
      rfl

set_option maxHeartbeats 1600000 in
theorem spec_CanMeet (A : Option Addr) (ss : List ByteArray) (c : Nat) (r : ByteArray) (w : World) (h : Row w w.heap.size A (strs ss)) (hl : ss.length ≤ 9223372036854775807) (hs : ∀ s ∈ ss, s.size ≤ 9223372036854775807) (hr : r.size ≤ 9223372036854775807) :
    Calls Tryd.prog 27 #[.slice A ss.length c, .string r] w fun e w' => e = .returned (.tuple #[.bool (cmB ss r), .bool (cmOk2 ss r)]) ∧ Below w.heap.size w w' := by
  have hc := spec_wdSet A ss c w h hl hs
  have hf := fun u => spec_wdShort r u hr
  unfold cmB
  cases hq : W.isSet ss
  · rw [show cmOk2 ss r = false by unfold cmOk2; rw [hq]; rfl]
    rw [hq] at hc
    replace hc := Lib.hid hc
    clear hq h hs hf
    go_enter Tryd.func27, Tryd.ntmps27
    go_wp2_with (go_at_call 29; refine hc.out.mono ?_; rintro e w' ⟨rfl, rfl⟩)
    go_ret2
    exact ⟨rfl, Below.refl _ _⟩
  · rw [hq] at hc
    cases hq2 : W.short r
    · rw [show cmOk2 ss r = false by unfold cmOk2; rw [hq2]; simp]
      rw [hq2] at hf
      replace hc := Lib.hid hc
      replace hf := Lib.hid hf
      clear hq hq2 h hs
      go_enter Tryd.func27, Tryd.ntmps27
      go_wp2_with fail
      refine hc.out.mono ?_
      rintro e w1 ⟨rfl, rfl⟩
      go_wp2_with fail
      refine (hf.out _).mono ?_
      rintro e w2 ⟨rfl, rfl⟩
      go_wp2
      go_ret2
      exact ⟨rfl, Below.refl _ _⟩
    · rw [show cmOk2 ss r = true by unfold cmOk2; rw [hq, hq2]; rfl, if_pos rfl]
      rw [hq2] at hf
      have hsz := W.short_size _ hq2
      have hm := spec_bsMeets A ss c r w h hq hsz.1 hsz.2
      generalize mtB ss r = q at hm ⊢
      replace hc := Lib.hid hc
      replace hf := Lib.hid hf
      replace hm := Lib.hid hm
      clear hq hq2 hs h
      go_enter Tryd.func27, Tryd.ntmps27
      go_wp2_with fail
      refine hc.out.mono ?_
      rintro e w1 ⟨rfl, rfl⟩
      go_wp2_with fail
      refine (hf.out _).mono ?_
      rintro e w2 ⟨rfl, rfl⟩
      go_wp2_with fail
      refine hm.out.mono ?_
      rintro e w3 ⟨rfl, hB3⟩
      have HB3 := Lib.hid hB3
      clear hB3
      go_wp2
      go_ret2
      exact ⟨rfl, HB3.out⟩
end Go.Proofs.YtlmcemdbalhkiaaDoor
