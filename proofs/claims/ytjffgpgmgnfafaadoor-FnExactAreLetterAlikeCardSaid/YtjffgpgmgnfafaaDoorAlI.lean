/-
  WHAT THIS FILE PROVES: whether two sets have the same counts, each as often: the program tells it by sorted words of sorted letters; asked: slices in memory, lengths that an int holds.
-/
import Derived.Test.YtjffgpgmgnfafaaDoorAlS
import Derived.Test.YtjffgpgmgnfafaaDoorSlB
import Derived.Test.YtjffgpgmgnfafaaDoorLof
import Derived.Sort.OwnSorted
import Derived.Lib.OwnBridge
namespace Go.Proofs.YtjffgpgmgnfafaaDoor
open Go.RowKit Go.Shelf Go.Sort

/-- the words of a list as letters in order -/
def raS (a : List ByteArray) : List (List UInt8) := a.map fun s => W.srt s.data.toList
/-- the same, in order -/
def moS (a : List ByteArray) : List (List UInt8) := (raS a).mergeSort fun x y => decide (x ≤ y)
def slL (a : List ByteArray) : List ByteArray := (moS a).map fun x => ⟨x.toArray⟩
theorem moS_len (a : List ByteArray) : (moS a).length = a.length := by unfold moS raS; rw [List.length_mergeSort, List.length_map]
theorem slL_len (a : List ByteArray) : (slL a).length = a.length := by unfold slL; rw [List.length_map, moS_len]
theorem slL_inj {a b : List ByteArray} : slL a = slL b ↔ moS a = moS b := by
  constructor
  · intro h
    have h2 := congrArg (List.map fun s : ByteArray => s.data.toList) h
    unfold slL at h2
    rw [List.map_map, List.map_map, show ((fun s : ByteArray => s.data.toList) ∘ fun x : List UInt8 => (⟨x.toArray⟩ : ByteArray)) = id from by funext x; rfl, List.map_id, List.map_id] at h2
    exact h2
  · intro h
    unfold slL
    rw [h]
theorem moS_perm {a b : List ByteArray} : moS a = moS b ↔ (raS a).Perm (raS b) := by
  have hp := fun l : List (List UInt8) => List.mergeSort_perm l (fun x y => decide (x ≤ y))
  have hu : ∀ l : List (List UInt8), (l.mergeSort fun x y => decide (x ≤ y)).Pairwise (fun x y => x ≤ y) := fun l => by
    have h := List.pairwise_mergeSort (le := fun (x y : List UInt8) => decide (x ≤ y)) (fun a b c h1 h2 => by
      rw [decide_eq_true_eq] at h1 h2 ⊢
      exact List.le_trans h1 h2) (fun a b => by
      rw [Bool.or_eq_true, decide_eq_true_eq, decide_eq_true_eq]
      exact List.le_total a b) l
    exact h.imp fun h => of_decide_eq_true h
  constructor
  · intro h
    exact (hp (raS a)).symm.trans ((List.Perm.of_eq h).trans (hp (raS b)))
  · intro h
    exact List.Perm.eq_of_pairwise (le := fun x y : List UInt8 => x ≤ y) (fun _ _ _ _ h1 h2 => List.le_antisymm h1 h2) (hu _) (hu _) ((hp (raS a)).trans (h.trans (hp (raS b)).symm))
theorem cl_count (s : ByteArray) (c : UInt8) : cl s c s.size = ((s.data.toList.count c : Nat) : Int) := by
  unfold cl
  rw [List.take_of_length_le (by rw [← Lib.size_eq]; exact Nat.le_refl _)]
theorem wd_count {l : List UInt8} (h : W.isWd l = true) {c : UInt8} (h1 : c ≠ 97) (h2 : c ≠ 98) (h3 : c ≠ 99) : l.count c = 0 := by
  rw [List.count_eq_zero]
  intro hc
  have := List.all_eq_true.1 h c hc
  rcases W.isL_cases _ this with e | e | e
  · exact h1 e
  · exact h2 e
  · exact h3 e
theorem srt_ltN {s t : ByteArray} (hs : W.isWd s.data.toList = true) (ht : W.isWd t.data.toList = true) : W.srt t.data.toList = W.srt s.data.toList ↔ ltN t = ltN s := by
  rw [W.srt_eq]
  unfold ltN
  simp only [cl_count, List.cons.injEq, and_true]
  constructor
  · intro h
    exact ⟨by rw [h.count_eq], by rw [h.count_eq], by rw [h.count_eq]⟩
  · intro ⟨h1, h2, h3⟩
    rw [List.perm_iff_count]
    intro c
    by_cases e1 : c = 97
    · subst e1; omega
    by_cases e2 : c = 98
    · subst e2; omega
    by_cases e3 : c = 99
    · subst e3; omega
    rw [wd_count hs e1 e2 e3, wd_count ht e1 e2 e3]
theorem count_srt (L : List ByteArray) (s : ByteArray) (hs : W.isWd s.data.toList = true) : (∀ t ∈ L, W.isWd t.data.toList = true) → (raS L).count (W.srt s.data.toList) = cnL (ltN s) L := by
  induction L with
  | nil => intro _; rfl
  | cons t L ih =>
    intro h
    have ih2 := ih (fun u hu => h u (List.mem_cons_of_mem _ hu))
    unfold raS cnL at ih2 ⊢
    rw [List.map_cons, List.map_cons, List.count_cons, List.count_cons, ih2]
    have e := srt_ltN hs (h t List.mem_cons_self)
    by_cases h1 : ltN t = ltN s
    · have h2 := e.2 h1
      simp [h1, h2]
    · have h2 : ¬ W.srt t.data.toList = W.srt s.data.toList := fun h => h1 (e.1 h)
      simp [h1, h2]
theorem set_wd {a : List ByteArray} (h : W.isSet a = true) : ∀ t ∈ a, W.isWd t.data.toList = true := fun t ht => by
  obtain ⟨i, hi, rfl⟩ := List.getElem_of_mem ht
  have := (set_good h i hi).1
  rw [W.nth_lt a i hi] at this
  unfold W.good at this
  rw [Bool.and_eq_true] at this
  exact this.2
theorem alike_iff {a b : List ByteArray} (ha : W.isSet a = true) (hb : W.isSet b = true) : decide (slL a = slL b) = alB a b := by
  have h1 : slL a = slL b ↔ (raS a).Perm (raS b) := slL_inj.trans moS_perm
  unfold alB
  rw [Bool.eq_iff_iff, decide_eq_true_eq, Bool.and_eq_true, decide_eq_true_eq, List.all_eq_true, h1]
  have wa := set_wd ha
  have wb := set_wd hb
  constructor
  · intro hp
    refine ⟨by have := hp.length_eq; unfold raS at this; rwa [List.length_map, List.length_map] at this, fun s hs => ?_⟩
    rw [decide_eq_true_eq, ← count_srt a s (wa s hs) wa, ← count_srt b s (wa s hs) wb]
    exact hp.count_eq _
  · intro ⟨hl, hc⟩
    refine W.perm_of_counts (raS a) (raS b) (by unfold raS; rw [List.length_map, List.length_map]; exact hl) (fun x hx => ?_)
    unfold raS at hx
    obtain ⟨s, hs, rfl⟩ := List.mem_map.1 hx
    have := hc s hs
    rw [decide_eq_true_eq] at this
    rw [count_srt a s (wa s hs) wa, count_srt b s (wa s hs) wb]
    omega
theorem toList_eqA {s t : ByteArray} : (s.toList == t.toList) = decide (s = t) := by
  by_cases h : s = t
  · subst h; simp
  · rw [decide_eq_false h]
    refine beq_eq_false_iff_ne.2 (fun e => h ?_)
    rw [Lib.toList_data, Lib.toList_data] at e
    cases s
    cases t
    simpa using e
set_option maxHeartbeats 1600000 in
theorem eq_texts (A : Option Addr) (xs : List ByteArray) (c : Nat) (B : Option Addr) (ys : List ByteArray) (d : Nat) (w : World) (h : Row w w.heap.size A (strs xs)) (g : Row w w.heap.size B (strs ys)) (hx : xs.length ≤ 1000) (hy : ys.length ≤ 1000) :
    Calls Tryd.prog 18 #[.slice A xs.length c, .slice B ys.length d] w fun e w' => e = .returned (.bool (decide (xs = ys))) ∧ ∃ n, w' = w.drewN n := by
  obtain ⟨r, hr⟩ : ∃ r, r = decide (xs = ys) := ⟨_, rfl⟩
  rw [← hr]
  by_cases hl : xs.length = ys.length
  · have Hno := Lib.hid (show ∀ k (h1 : k < xs.length), W.nth xs k ≠ W.nth ys k → r = false from fun k h1 hne => by
      rw [hr, decide_eq_false_iff_not]
      intro e
      subst e
      exact hne rfl)
    have Hyes := Lib.hid (show xs.take xs.length = ys.take xs.length → r = true from fun e => by
      rw [List.take_length, hl, List.take_length] at e
      rw [hr, decide_eq_true_eq]
      exact e)
    have Hst := Lib.hid (show ∀ k (h1 : k < xs.length), xs.take k = ys.take k → W.nth xs k = W.nth ys k → xs.take (k + 1) = ys.take (k + 1) from fun k h1 e1 e2 => by
      rw [W.nth_lt xs k h1, W.nth_lt ys k (by omega)] at e2
      rw [List.take_succ_eq_append_getElem h1, List.take_succ_eq_append_getElem (show k < ys.length by omega), e1, e2])
    have hne0 : ((xs.length : Int) != (ys.length : Int)) = false := by simp; omega
    have hne1 : ((xs.length : Int) == (ys.length : Int)) = true := by rw [beq_iff_eq]; omega
    have hyl : ys.length = xs.length := hl.symm
    replace hl := Lib.hid hl
    replace h := Lib.hid h
    replace g := Lib.hid g
    replace hyl := Lib.hid hyl
    clear hr
    go_enter Tryd.func18, Tryd.ntmps18
    go_wp2
    go_loopw [13] (fun i wr => ∃ k : Nat, k ≤ xs.length ∧ i = .int .i64 k ∧ Hid (xs.take k = ys.take k) ∧ ∃ n, wr = w.drewN n) (fun i _ => xs.length - (intOf i).toNat)
    case atStart => exact ⟨0, Nat.zero_le _, rfl, rfl, 0, rfl⟩
    case round =>
      obtain ⟨k, hk, rfl, hT, n, rfl⟩ := hrel
      by_cases hlt : k < xs.length
      · have hlt' : (k : Int) < (xs.length : Int) := by omega
        have hlty : (k : Int) < (ys.length : Int) := by have := hl.out; omega
        obtain ⟨b1, o1, rfl, hb1, hc1⟩ := h.out (by rw [strs_length]; omega)
        obtain ⟨b2, o2, rfl, hb2, hc2⟩ := g.out (by rw [strs_length]; have := hl.out; omega)
        have c1 := hc1 k _ (strs_nth xs k hlt)
        have c2 := hc2 k _ (strs_nth ys k (by have := hl.out; omega))
        have hno := Hno.out k hlt
        have hst := Hst.out k hlt hT.out
        clear hc1 hc2
        generalize W.nth xs k = x at c1 hno hst
        generalize W.nth ys k = y at c2 hno hst
        by_cases e : x = y
        · have hN := Lib.hid (hst e)
          subst e
          clear hno hst
          go_wp2
          go_quiet (fail)
          go_wp2
          go_roundw
          case rel => exact ⟨k + 1, by omega, by go_num, hN, n + nq, by first | rfl | (rw [World.drewN_drewN])⟩
          case measure => simp [intOf]; omega
        · have hr := hno e
          subst hr
          have hne : (x.toList == y.toList) = false := by rw [toList_eqA]; exact decide_eq_false e
          clear hno hst
          go_wp2
          go_quiet (fail)
          go_wp2
          go_ret
          exact ⟨rfl, n + nq, by first | rfl | (rw [World.drewN_drewN])⟩
      · obtain rfl : k = xs.length := by omega
        have hr := Hyes.out hT.out
        subst hr
        go_wp2
        go_ret
        exact ⟨rfl, n, rfl⟩
  · have hr2 : r = false := by
      rw [hr, decide_eq_false_iff_not]
      intro e
      subst e
      exact hl rfl
    subst hr2
    have hne0 : ((xs.length : Int) != (ys.length : Int)) = true := by simp; omega
    have hne1 : ((xs.length : Int) == (ys.length : Int)) = false := beq_eq_false_iff_ne.2 (by omega)
    clear hr h g hl
    go_enter Tryd.func18, Tryd.ntmps18
    go_wp2
    go_ret
    exact ⟨rfl, 0, rfl⟩
theorem ra_raw (a : List ByteArray) : (a.map srtB).map (·.data.toList) = raS a := by
  unfold raS
  rw [List.map_map]
  apply List.map_congr_left
  intro x _
  rfl
theorem strs_enc (ts : List (List UInt8)) : strs (ts.map fun x => (⟨x.toArray⟩ : ByteArray)) = ts.map encStr := by
  unfold strs
  rw [List.map_map]
  apply List.map_congr_left
  intro x _
  rfl
theorem makes_sorted {a : List ByteArray} (h : W.isSet a = true) (w : World) : Makes 30 #[] srtB a w := fun k u hk _ =>
  impl_sortedLetters (W.nth a k) u (W.short_size _ (W.isSet_short a h k hk)).1 (by have := (W.short_size _ (W.isSet_short a h k hk)).2; omega)
set_option maxHeartbeats 3200000 in
theorem impl_sortedLettersOf (A : Option Addr) (a : List ByteArray) (c : Nat) (w : World) (h : Row w w.heap.size A (strs a)) (hset : W.isSet a = true) :
    Calls Tryd.prog 19 #[.slice A a.length c] w (GivesStrs w (slL a)) := by
  have h12 := W.isSet_len a hset
  have hli := Lib.hid (listOf_func 30 #[] (enters_of Tryd.func30 (by kernel_rfl) rfl) srtB A a c w h (by omega) (makes_sorted hset w))
  have hraw : strs (a.map srtB) = (raS a).map encStr := by
    rw [← ra_raw, Lib.map_encStr]
    rfl
  have hrl : (raS a).length = a.length := by unfold raS; rw [List.length_map]
  have hsl : (a.map srtB).length = a.length := List.length_map ..
  clear h hset
  go_enter Tryd.func19, Tryd.ntmps19
  go_wp2_with fail
  refine hli.out.mono ?_
  rintro e w1 ⟨A1, c1, rfl, ho, hB⟩
  rw [hsl] at ho ⊢
  have ho' : w1.ownsRow w.heap.size 9 1 (.slice A1 a.length c1) a.length ((raS a).map encStr) := by rw [← hraw]; exact ho
  by_cases hn : a.length = 0
  · have hs := Lib.hid (Tryd.slices_Sort_string_none A1 c1 w1)
    have hfin : GivesStrs w (slL a) (.returned (.slice A1 a.length c1)) w1 := by
      have e1 : slL a = [] := List.eq_nil_of_length_eq_zero (by rw [slL_len]; exact hn)
      have e2 : raS a = [] := List.eq_nil_of_length_eq_zero (by rw [hrl]; exact hn)
      rw [e1]
      rw [e2] at ho'
      exact givesStrs_of (ss := []) (by rw [hn] at ho' ⊢; exact ho') rfl hB
    rw [hn] at hfin ⊢
    replace hfin := Lib.hid hfin
    clear ho ho' hB hraw hrl hsl hn hli
    go_wp2_with fail
    refine hs.out.mono ?_
    rintro e w2 ⟨rfl, rfl⟩
    go_wp2
    go_ret
    exact hfin.out
  · rcases ho'.2 with ⟨e0, _⟩ | ⟨g, cap, cur, e0, hg, hblk, hcap, hmx, hcs, htk⟩
    · injection e0 with _ e0 _
      exact absurd e0 hn
    · injection e0 with e1 e2 e3
      subst e1 e3
      have hgl : g < w1.heap.size := (Array.getElem?_eq_some_iff.1 hblk).1
      rw [Nat.mul_one] at htk
      have hH : Holds encStr w1 g 0 (raS a).toArray := holds_of_block hblk (by rw [hrl]; exact htk)
      have hS := Tryd.slices_Sort_string g 0 c1 (raS a) w1 hH hgl (by rw [hrl]; omega)
      rw [hrl] at hS
      have hml := moS_len a
      have hfin : ∀ n os, GivesStrs w (slL a) (.returned (.slice (some ⟨g, 0, none⟩) a.length c1)) (grow (putRow encStr (Sort.ahead w1 n) g 0 (moS a).toArray) os) := fun n os => by
        have hr := ownsRow_sorted (n := n) (os := os) (ss := raS a) (ts := moS a) (by rw [hml, hrl]) hg hblk (by rw [hrl]; exact hcap) hmx hcs
        rw [hrl] at hr
        exact givesStrs_of (by rw [slL_len]; unfold slL; rw [strs_enc]; exact hr) rfl (hB.grown (grownBy_sorted _) hB.size (fun k hk => by injection hk with hk; omega))
      unfold moS at hfin
      replace hS := Lib.hid hS
      replace hfin := Lib.hid hfin
      clear ho ho' hB hraw hrl hsl hli hH hml htk hblk
      go_wp2_with fail
      refine hS.out.mono ?_
      rintro e w2 ⟨rfl, n, os, rfl⟩
      have hf := Lib.hid (hfin.out n os)
      generalize grow (putRow encStr (Sort.ahead w1 n) g 0 ((raS a).mergeSort fun x y => decide (x ≤ y)).toArray) os = w2 at hf
      go_wp2
      go_ret
      exact hf.out
set_option maxHeartbeats 3200000 in
theorem impl_AreLetterAlike (A : Option Addr) (a : List ByteArray) (c : Nat) (B : Option Addr) (b : List ByteArray) (d : Nat) (w : World) (h : Row w w.heap.size A (strs a)) (hl : a.length ≤ 9223372036854775807) (hs : ∀ s ∈ a, s.size ≤ 9223372036854775807) (h' : Row w w.heap.size B (strs b)) (hl' : b.length ≤ 9223372036854775807) (hs' : ∀ s ∈ b, s.size ≤ 9223372036854775807) :
    Calls Tryd.prog 8 #[.slice A a.length c, .slice B b.length d] w fun e w' => e = .returned (.tuple #[.bool (alOf a b), .bool (alOk a b)]) ∧ Below w.heap.size w w' := by
  have hc := impl_IsSet A a c w h hl hs
  have hc' := fun (u : World) (hu : Below w.heap.size w u) => impl_IsSet B b d u ((h'.below hu).more hu.size) hl' hs'
  cases h1 : W.isSet a
  · have hno : alOk a b = false := by unfold alOk; rw [h1]; rfl
    rw [alOf_no hno, hno]
    rw [h1] at hc
    replace hc := Lib.hid hc
    clear hno h1 h hs h' hs' hc'
    go_enter Tryd.func8, Tryd.ntmps8
    go_wp2_with fail
    refine hc.out.mono ?_
    rintro e w1 ⟨rfl, hB1⟩
    replace hB1 := Lib.hid hB1
    go_wp2
    go_ret2
    exact ⟨rfl, hB1.out⟩
  · rw [h1] at hc
    replace hc := Lib.hid hc
    cases h2 : W.isSet b
    · have hno : alOk a b = false := by unfold alOk; rw [h2]; simp
      rw [alOf_no hno, hno]
      rw [h2] at hc'
      replace hc' := Lib.hid hc'
      clear hno h1 h2 h hs h' hs'
      go_enter Tryd.func8, Tryd.ntmps8
      go_wp2_with fail
      refine hc.out.mono ?_
      rintro e w1 ⟨rfl, hB1⟩
      have hc2 := Lib.hid (hc'.out w1 hB1)
      replace hB1 := Lib.hid hB1
      go_wp2_with fail
      refine hc2.out.mono ?_
      rintro e w2 ⟨rfl, hB2⟩
      have H2 := Lib.hid (hB1.out.trans (hB2.mono hB1.out.size))
      clear hB2
      go_wp2
      go_ret2
      exact ⟨rfl, H2.out⟩
    · rw [h2] at hc'
      replace hc' := Lib.hid hc'
      have hyes : alOk a b = true := by unfold alOk; rw [h1, h2]; rfl
      rw [alOf_yes hyes, hyes, ← alike_iff h1 h2]
      have h12 := W.isSet_len a h1
      have h12b := W.isSet_len b h2
      have hsa := Lib.hid (fun (u : World) (hu : Below w.heap.size w u) => impl_sortedLettersOf A a c u ((h.below hu).more hu.size) h1)
      have hsb := Lib.hid (fun (u : World) (hu : Below w.heap.size w u) => impl_sortedLettersOf B b d u ((h'.below hu).more hu.size) h2)
      have hla := slL_len a
      have hlb := slL_len b
      generalize slL a = X at hsa hla ⊢
      generalize slL b = Y at hsb hlb ⊢
      have heq := Lib.hid (fun (A' : Option Addr) (c' : Nat) (B' : Option Addr) (d' : Nat) (u : World) (g1 : Row u u.heap.size A' (strs X)) (g2 : Row u u.heap.size B' (strs Y)) => eq_texts A' X c' B' Y d' u g1 g2 (by omega) (by omega))
      clear hyes hs hs' h1 h2 hla hlb
      go_enter Tryd.func8, Tryd.ntmps8
      go_wp2_with fail
      refine hc.out.mono ?_
      rintro e w1 ⟨rfl, hB1⟩
      have hc2 := Lib.hid (hc'.out w1 hB1)
      replace hB1 := Lib.hid hB1
      go_wp2_with fail
      refine hc2.out.mono ?_
      rintro e w2 ⟨rfl, hB2⟩
      have H2 := Lib.hid (hB1.out.trans (hB2.mono hB1.out.size))
      have hs2 := Lib.hid (hsa.out w2 H2.out)
      clear hB2
      go_wp2_with fail
      refine hs2.out.mono ?_
      rintro e w3 ⟨A3, c3, rfl, ho3, hB3⟩
      have H3 := Lib.hid (H2.out.trans (hB3.mono H2.out.size))
      have hs3 := Lib.hid (hsb.out w3 H3.out)
      replace ho3 := Lib.hid ho3
      clear hB3
      go_wp2_with fail
      refine hs3.out.mono ?_
      rintro e w4 ⟨A4, c4, rfl, ho4, hB4⟩
      have H4 := Lib.hid (H3.out.trans (hB4.mono H3.out.size))
      have he4 := Lib.hid (heq.out A3 c3 A4 c4 w4 (Row.of_own (own_below ho3.out hB4)) (Row.of_own ho4))
      clear hB4 ho4
      go_wp2_with fail
      refine he4.out.mono ?_
      rintro e w5 ⟨rfl, n, rfl⟩
      go_wp2
      go_ret2
      exact ⟨rfl, below_drewN H4.out n⟩
end Go.Proofs.YtjffgpgmgnfafaaDoor
