/-
  WHAT THIS FILE PROVES: the reading with a given number: the program's functions find the word at whose turn the number passes and hand back the reading with so many before it; asked: a set and its table in memory, a text of at most 60 letters, a number less than that of all readings.
-/
import Derived.Test.YtiemoocdffobgaaDoorCounts
import Derived.Test.YtiemoocdffobgaaDoorReads
import Derived.Test.YtiemoocdffobgaaDoorMemI
namespace Go.Proofs.YtiemoocdffobgaaDoor
open Go.RowKit Go.Shelf

/-- the table of the numbers of readings lies in a block -/
def TblAt (w : World) (B g : Nat) (ss : List ByteArray) (s : ByteArray) : Prop := g < B ∧ ∀ j, j ≤ s.size → w.cell? ⟨g, j, none⟩ = some (.int .i64 ((W.ways ss (s.data.toList.drop j) : Nat) : Int))
theorem TblAt.below {w w' : World} {B g : Nat} {ss : List ByteArray} {s : ByteArray} (h : TblAt w B g ss s) (hB : Below B w w') : TblAt w' B g ss s :=
  ⟨h.1, fun j hj => (hB.cell (p := ⟨g, j, none⟩) h.1).trans (h.2 j hj)⟩
theorem TblAt.more {w : World} {B B' g : Nat} {ss : List ByteArray} {s : ByteArray} (h : TblAt w B g ss s) (hB : B ≤ B') : TblAt w B' g ss s := ⟨Nat.lt_of_lt_of_le h.1 hB, h.2⟩
theorem TblAt.of_own {w : World} {base g : Nat} {ss : List ByteArray} {s : ByteArray} (h : w.ownsRow base 3 1 (.slice (some ⟨g, 0, none⟩) (s.size + 1) (s.size + 1)) (s.size + 1) (ints (W.tfull 0 (W.tab ss s.data.toList)))) : TblAt w w.heap.size g ss s := by
  refine ⟨(h.lt g rfl).2, fun j hj => ?_⟩
  rw [h.cellAt j (by omega)]
  refine ints_get _ _ _ ?_
  unfold W.tfull
  rw [List.replicate_zero, List.nil_append, List.getElem?_map, W.tab_get ss _ j (by rw [← Lib.size_eq]; exact hj)]
  rfl

/-- the word is found at whose turn the number passes -/
def NextAt (w : World) (ss : List ByteArray) (l : List UInt8) (k : Nat) (e : Ending) (w' : World) : Prop :=
  ∃ i p : Nat, e = .returned (.tuple #[.int .i64 i, .int .i64 p]) ∧ i < ss.length ∧ Lib.hasPrefix l (W.nth ss i).data.toList = true ∧ W.psum ss l i = p ∧ p ≤ k ∧ k < p + W.ways ss (l.drop (W.nth ss i).size) ∧ Below w.heap.size w w'

set_option maxHeartbeats 1600000 in
theorem impl_nextIndex (A : Option Addr) (ss : List ByteArray) (c : Nat) (s : ByteArray) (g place k : Nat) (w : World) (h : Row w w.heap.size A (strs ss)) (hset : W.isSet ss = true) (hs : s.size ≤ 60) (ht : TblAt w w.heap.size g ss s)
    (hp : place < s.size) (hk : k < W.ways ss (s.data.toList.drop place)) :
    Calls Tryd.prog 60 #[.agg #[.slice A ss.length c, .string s, .slice (some ⟨g, 0, none⟩) (s.size + 1) (s.size + 1)], .int .i64 place, .int .i64 k] w (NextAt w ss (s.data.toList.drop place) k) := by
  have h12 := W.isSet_len ss hset
  have Hset := Lib.hid hset
  have hkb : k ≤ 1152921504606846976 := by
    have := W.ways_bound hset (s.data.toList.drop place) (by rw [List.length_drop, ← Lib.size_eq]; omega)
    omega
  have HK := Lib.hid hk
  clear hset hk
  replace h := Lib.hid h
  have hgB := ht.1
  replace ht := Lib.hid ht
  have hp0 : (place : Int) < (s.size : Int) := by omega
  have hp1 : place ≤ s.size := by omega
  have hB0 := Lib.hid ((Below.refl w.heap.size w).alloc (Nat.le_refl _) (.cells #[.slice A ss.length c, .string s, .slice (some ⟨g, 0, none⟩) (s.size + 1) (s.size + 1)] 53))
  have Hl : Hid (s.data.toList.length = s.size) := (Lib.size_eq s).symm
  have Hall := Lib.hid (show W.psum ss (s.data.toList.drop place) ss.length = W.ways ss (s.data.toList.drop place) by
    unfold W.psum
    rw [List.take_length]
    unfold W.ways
    rw [W.tab_step ss s.data.toList place (by rw [Hl.out]; exact hp), List.drop_drop]
    rfl)
  have Hsu := Lib.hid (fun k (hk : k < ss.length) => show W.psum ss (s.data.toList.drop place) (k + 1) = W.psum ss (s.data.toList.drop place) k + W.wadd (W.tab ss ((s.data.toList.drop place).drop 1)) (s.data.toList.drop place) (W.nth ss k) from W.wsum_succ _ _ ss k hk)
  have Hbd := Lib.hid (fun k => show W.psum ss (s.data.toList.drop place) k ≤ 1152921504606846976 by
    have := W.wsum_bound Hset.out s.data.toList (by rw [Hl.out]; exact hs) place (by rw [Hl.out]; exact hp) k
    unfold W.psum
    rw [List.drop_drop]
    exact this)
  go_enter Tryd.func60, Tryd.ntmps60
  go_wp2
  go_loop [8, 15] (fun p i => ∃ n : Nat, n ≤ ss.length ∧ i = .int .i64 n ∧ p = .int .i64 ((W.psum ss (s.data.toList.drop place) n : Nat) : Int) ∧ W.psum ss (s.data.toList.drop place) n ≤ k)
    (fun _ i => ss.length - (intOf i).toNat)
  case atStart => exact ⟨0, Nat.zero_le _, rfl, rfl, Nat.zero_le _⟩
  case round =>
    obtain ⟨n, hn, rfl, rfl, hle⟩ := hrel
    by_cases hlt : n < ss.length
    · obtain ⟨b, off, rfl, hb, hcc⟩ := h.out (by rw [strs_length]; omega)
      have hlt' : (n : Int) < (ss.length : Int) := by omega
      have c1 := hcc n _ (strs_nth ss n hlt)
      clear hcc
      have Hs := Lib.hid (Hsu.out n hlt)
      have hpos := W.set_pos Hset.out n hlt
      have Hb0 := Hbd.out n
      have Hb1 := Hbd.out (n + 1)
      rw [Hs.out] at Hb1
      have hc := fun (V : World) => Tryd.strings_HasPrefix (s.extract place s.size) (W.nth ss n) V
      rw [extract_tail] at hc
      have Hfin : Hid (∀ p, Lib.hasPrefix (s.data.toList.drop place) (W.nth ss n).data.toList = true → W.psum ss (s.data.toList.drop place) n = p → p ≤ k → k < p + W.ways ss ((s.data.toList.drop place).drop (W.nth ss n).size) →
          NextAt w ss (s.data.toList.drop place) k (.returned (.tuple #[.int .i64 n, .int .i64 p])) (w.alloc (.cells #[.slice (some ⟨b, off, none⟩) ss.length c, .string s, .slice (some ⟨g, 0, none⟩) (s.size + 1) (s.size + 1)] 53))) := fun p h1 h2 h3 h4 => ⟨n, p, rfl, hlt, h1, h2, h3, h4, hB0.out⟩
      generalize W.nth ss n = t at c1 Hs Hb1 hpos hc Hfin
      cases hq : Lib.hasPrefix (s.data.toList.drop place) t.data.toList
      · rw [hq] at hc
        have Hw := Lib.hid (W.wadd_no (T := W.tab ss ((s.data.toList.drop place).drop 1)) hq)
        clear hq Hfin
        replace hc := Lib.hid hc
        go_wp2_with (go_at_call 59; refine (hc.out _).mono ?_; rintro e w' ⟨rfl, rfl⟩)
        go_round
        case rel => exact ⟨n + 1, by omega, by go_num, by rw [Hs.out, Hw.out, Nat.add_zero], by rw [Hs.out, Hw.out]; exact hle⟩
        case measure => simp [intOf]; omega
      · rw [hq] at hc
        have Hw := Lib.hid (W.wadd_yes (T := W.tab ss ((s.data.toList.drop place).drop 1)) hq)
        have hts : t.size ≤ s.size - place := by
          have := Lib.hasPrefix_le hq
          rw [← Lib.size_eq, List.length_drop, Hl.out] at this
          exact this
        have Hq := Lib.hid hq
        clear hq
        replace hc := Lib.hid hc
        have Hget : Hid ((W.tab ss ((s.data.toList.drop place).drop 1)).getD (t.size - 1) 0 = W.ways ss ((s.data.toList.drop place).drop t.size)) := by
          show List.getD _ _ _ = _
          rw [W.tab_getD _ _ _ (by rw [List.length_drop, List.length_drop, Hl.out]; omega), W.drop_size _ _ hpos]
        rw [Hw.out, Hget.out] at Hs Hb1
        have c2 := ht.out.2 (place + t.size) (by omega)
        rw [← List.drop_drop] at c2
        have Hf := Lib.hid (Hfin.out _ Hq.out rfl hle)
        clear Hfin Hw Hget
        generalize W.ways ss ((s.data.toList.drop place).drop t.size) = y at *
        generalize W.psum ss (s.data.toList.drop place) n = x at *
        by_cases hfound : k < x + y
        · have hfi : (k : Int) < (x : Int) + (y : Int) := by omega
          have HF := Lib.hid (Hf.out hfound)
          go_wp2_with (go_at_call 59; refine (hc.out _).mono ?_; rintro e w' ⟨rfl, rfl⟩)
          go_ret2
          exact HF.out
        · have hfi : ¬ ((k : Int) < (x : Int) + (y : Int)) := by omega
          clear Hf
          go_wp2_with (go_at_call 59; refine (hc.out _).mono ?_; rintro e w' ⟨rfl, rfl⟩)
          go_round
          case rel => exact ⟨n + 1, by omega, by go_num, by rw [Hs.out]; go_num, by rw [Hs.out]; omega⟩
          case measure => simp [intOf]; omega
    · obtain rfl : n = ss.length := by omega
      exfalso
      rw [Hall.out] at hle
      have := HK.out
      omega

theorem reads_step {ss : List ByteArray} {l : List UInt8} {i k p : Nat} (hset : W.isSet ss = true) (hi : i < ss.length) (hl : l ≠ []) (hp : Lib.hasPrefix l (W.nth ss i).data.toList = true) (h0 : W.psum ss l i = p) (h1 : p ≤ k) (h2 : k < p + W.ways ss (l.drop (W.nth ss i).size)) :
    (W.reads ss l)[k]? = ((W.reads ss (l.drop (W.nth ss i).size))[k - p]?).map fun r => (i : Int) :: r := by
  subst h0
  exact W.reads_get ss l i k hi hl (W.set_pos hset i hi) hp h1 h2

set_option maxHeartbeats 1600000 in
theorem impl_reading (A : Option Addr) (ss : List ByteArray) (c : Nat) (s : ByteArray) (g k0 : Nat) (r : List Int) (w : World) (h : Row w w.heap.size A (strs ss)) (hset : W.isSet ss = true) (hs : s.size ≤ 60) (ht : TblAt w w.heap.size g ss s)
    (hk : k0 < W.ways ss s.data.toList) (hr : (W.reads ss s.data.toList)[k0]? = some r) :
    Calls Tryd.prog 43 #[.agg #[.slice A ss.length c, .string s, .slice (some ⟨g, 0, none⟩) (s.size + 1) (s.size + 1)], .int .i64 k0] w (GivesInts w r) := by
  have h12 := W.isSet_len ss hset
  have Hset := Lib.hid hset
  have HK := Lib.hid hk
  have Hr := Lib.hid hr
  clear hset hk hr
  have h' := Lib.hid h
  have ht' := Lib.hid ht
  clear h ht
  have Hl : Hid (s.data.toList.length = s.size) := (Lib.size_eq s).symm
  obtain ⟨i1, hi', hz0', hz1', hz2'⟩ := info_parts infoInt
  have HI := Lib.hid (And.intro hi' (And.intro hz0' (And.intro hz1' hz2')))
  clear hi' hz0' hz1' hz2'
  obtain ⟨w0, hw0⟩ : ∃ w0, w0 = w.alloc (.cells #[.slice A ss.length c, .string s, .slice (some ⟨g, 0, none⟩) (s.size + 1) (s.size + 1)] 53) := ⟨_, rfl⟩
  have hz0 : w0.heap.size = w.heap.size + 1 := by rw [hw0]; simp
  have hB0 : Below w.heap.size w w0 := by rw [hw0]; exact (Below.refl w.heap.size w).alloc (Nat.le_refl _) _
  have hblk : w0.heap[w.heap.size]? = some (.cells #[.slice A ss.length c, .string s, .slice (some ⟨g, 0, none⟩) (s.size + 1) (s.size + 1)] 53 (0, 0)) := by rw [hw0]; exact heap_alloc_new w _
  have k0c : w0.cell? ⟨w.heap.size, 0, none⟩ = some (.slice A ss.length c) := cell_of_row w0 _ 0 _ _ _ hblk
  have k1c : w0.cell? ⟨w.heap.size, 1, none⟩ = some (.string s) := cell_of_row w0 _ 1 _ _ _ hblk
  have k2c : w0.cell? ⟨w.heap.size, 2, none⟩ = some (.slice (some ⟨g, 0, none⟩) (s.size + 1) (s.size + 1)) := cell_of_row w0 _ 2 _ _ _ hblk
  have K := Lib.hid (And.intro k0c (And.intro k1c k2c))
  have hrow := Lib.hid ((h'.out.below hB0).more (show w.heap.size ≤ w0.heap.size by omega))
  have htbl := Lib.hid ((ht'.out.below hB0).more (show w.heap.size ≤ w0.heap.size by omega))
  have Z0 := Lib.hid hz0
  have HB0 := Lib.hid hB0
  clear k0c k1c k2c hblk hz0 hB0 h' ht'
  replace hw0 := Lib.hid hw0
  go_enter Tryd.func43, Tryd.ntmps43
  go_wp2
  go_loopw [1, 5, 6] (fun kv v pv wr => ∃ (place kk : Nat) (m : List Int), place ≤ s.size ∧ pv = .int .i64 place ∧ kv = .int .i64 kk ∧ kk < W.ways ss (s.data.toList.drop place) ∧ m.length ≤ place ∧ wr.ownsRow w0.heap.size 3 1 v m.length (ints m) ∧ Below w0.heap.size w0 wr ∧
      Hid (((W.reads ss (s.data.toList.drop place))[kk]?).map (fun q => m ++ q) = some r)) (fun _ _ pv _ => s.size - (intOf pv).toNat)
  case atStart => exact ⟨0, k0, [], Nat.zero_le _, rfl, rfl, HK.out, Nat.zero_le _, World.ownsRow_nil _ _ _ _, by rw [← hw0.out]; exact Below.refl _ _, by
    show Option.map _ _ = _
    rw [List.drop_zero, Hr.out]
    rfl⟩
  case round =>
    clear hw0 HK Hr
    obtain ⟨place, kk, m, hpl, rfl, rfl, hkk, hml, ho, hB, hget⟩ := hrel
    obtain ⟨Am, cm, rfl⟩ := own_slice ho
    have hO := Lib.hid (And.intro ho hB)
    have hkb : kk ≤ 1152921504606846976 := by
      have := W.ways_bound Hset.out (s.data.toList.drop place) (by rw [List.length_drop, Hl.out]; omega)
      omega
    have hz := Z0.out
    have e0 := (hB.cell (p := ⟨w.heap.size, 0, none⟩) (by show w.heap.size < w0.heap.size; omega)).trans K.out.1
    have e1 := (hB.cell (p := ⟨w.heap.size, 1, none⟩) (by show w.heap.size < w0.heap.size; omega)).trans K.out.2.1
    have e2 := (hB.cell (p := ⟨w.heap.size, 2, none⟩) (by show w.heap.size < w0.heap.size; omega)).trans K.out.2.2
    have hsz := hB.size
    replace hz := Lib.hid hz
    clear ho hB
    by_cases hlt : place < s.size
    · have hlt' : (place : Int) < (s.size : Int) := by omega
      have hne : Hid (s.data.toList.drop place ≠ []) := by
        show _ ≠ _
        intro e
        have := congrArg List.length e
        rw [List.length_drop, Hl.out] at this
        simp at this
        omega
      have hN := Lib.hid (impl_nextIndex A ss c s g place kk wr ((hrow.out.below hO.out.2).more hsz) Hset.out hs ((htbl.out.below hO.out.2).more hsz) hlt hkk)
      go_wp2_with fail
      refine hN.out.mono ?_
      rintro e w1 ⟨i, p, rfl, hi, hp, hps, hpk, hkp, hB1⟩
      have hi' : (i : Int) < (ss.length : Int) := by omega
      have HS := Lib.hid (reads_step Hset.out hi hne.out hp hps hpk hkp)
      have hts : (W.nth ss i).size ≤ s.size - place := by
        have := Lib.hasPrefix_le hp
        rw [← Lib.size_eq, List.length_drop, Hl.out] at this
        exact this
      have hpos := W.set_pos Hset.out i hi
      have hkp2 := Lib.hid (show kk - p < W.ways ss ((s.data.toList.drop place).drop (W.nth ss i).size) by omega)
      have hO1 := Lib.hid (And.intro (own_below hO.out.1 hB1) (hO.out.2.trans (hB1.mono hsz)))
      have hsz1 := hB1.size
      obtain ⟨b, off, rfl, hb, hcc⟩ := hrow.out (by rw [strs_length]; omega)
      have Hcc := Lib.hid (hcc i _ (strs_nth ss i hi))
      clear hcc hB1 hp hps hkp hN e0 e1 e2
      generalize W.nth ss i = t at Hcc HS hts hpos hkp2
      go_wp2_with (at_builtin; refine wpList_append_own _ rfl _ _ 37 rfl w0.heap.size 3 i1 (.int .i64 0) 1 8 Tryd.underlying37 HI.out.1 HI.out.2.1 HI.out.2.2.1 HI.out.2.2.2 rfl (by decide) _ _ _ rfl (hO1.out.1.alloc _) ⟨w1.heap.size, 0, none⟩ 1 1 [.int .i64 i] rfl rfl ?c1 ?c2 ?c3 ?c4 ?c5 ?_)
      case c1 => exact cell_one_new _ _ _
      case c2 => exact one_cell _
      case c3 => unfold maxLen; omega
      case c4 => omega
      case c5 => simp; omega
      intro v' w2 hown' hgrow _
      have hlt1 := hO1.out.1.lt
      have hB2 := (hO1.out.2.alloc (by omega) _).grown hgrow (by simp; omega) (fun g hg => (hlt1 g hg).1)
      have g0 := (hB2.cell (p := ⟨w.heap.size, 0, none⟩) (by have := hz.out; show w.heap.size < w0.heap.size; omega)).trans K.out.1
      have g1 := (hB2.cell (p := ⟨b, off + i, none⟩) hb).trans Hcc.out
      have hsub : (kk : Int) - (p : Int) = ((kk - p : Nat) : Int) := by omega
      have hadd : (place : Int) + (t.size : Int) = ((place + t.size : Nat) : Int) := by omega
      have hF := Lib.hid (And.intro hown' hB2)
      have hgn := Lib.hid (show ((W.reads ss (s.data.toList.drop (place + t.size)))[kk - p]?).map (fun q => (m ++ [(i : Int)]) ++ q) = some r by
        have := hget.out
        rw [HS.out, List.drop_drop, Option.map_map] at this
        rw [← this]
        congr 1
        funext q
        simp)
      have hkp3 := hkp2.out
      rw [List.drop_drop] at hkp3
      replace hkp3 := Lib.hid hkp3
      replace hsub := Lib.hid hsub
      replace hadd := Lib.hid hadd
      clear hown' hgrow hB2 hkp2 HS hget hlt1
      go_wp2
      go_roundw
      case rel => exact ⟨place + t.size, kk - p, m ++ [(i : Int)], by omega, by rw [← hadd.out], by rw [← hsub.out], hkp3.out, by rw [List.length_append, List.length_singleton]; omega, by rw [List.length_append, ints_snoc]; exact hF.out.1, hF.out.2, hgn.out⟩
      case measure => simp [intOf]; omega
    · obtain rfl : place = s.size := by omega
      have hk0 : kk = 0 := by
        rw [List.drop_of_length_le (by rw [Hl.out]; exact Nat.le_refl _), W.ways_nil] at hkk
        omega
      subst hk0
      have hmr : Hid (m = r) := by
        show m = r
        have := hget.out
        rw [List.drop_of_length_le (by rw [Hl.out]; exact Nat.le_refl _), W.reads_nil] at this
        simpa using this
      go_wp2
      go_ret
      rw [← hmr.out]
      exact givesInts_of (own_base hO.out.1 (by have := hz.out; omega : w.heap.size ≤ w0.heap.size)) rfl (HB0.out.trans (hO.out.2.mono (by have := hz.out; omega)))

end Go.Proofs.YtiemoocdffobgaaDoor
