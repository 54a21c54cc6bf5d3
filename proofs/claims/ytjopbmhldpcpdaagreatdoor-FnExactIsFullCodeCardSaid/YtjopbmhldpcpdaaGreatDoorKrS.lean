/-
  WHAT THIS FILE PROVES: the specification's tests of sets and lengths with so many letters, and Kraft's sums: they give what the plain ones say; asked: slices in memory, lengths that an int holds.
-/
import Derived.Test.YtjopbmhldpcpdaaGreatDoorArith
import Derived.Test.YtjopbmhldpcpdaaGreatDoorIn
import Derived.OwnWalk
import Derived.Maps.AppendAt
namespace Go.Proofs.YtjopbmhldpcpdaaGreatDoor
open Go.RowKit Go.Shelf

theorem spec_krLetters (L : Int) (w : World) :
    Calls Tryz.prog 9 #[.int .i64 L] w fun e w' => e = .returned (.bool (W.krLet L)) ∧ w = w' := by
  have hin := fun W => spec_l1In L 2 3 W
  rw [show decide ((2 : Int) ≤ L ∧ L ≤ 3) = W.krLet L from rfl] at hin
  generalize W.krLet L = r at hin ⊢
  replace hin := Lib.hid hin
  go_enter Tryz.func9, Tryz.ntmps9
  go_wp2_with (go_at_call 16; refine (hin.out _).mono ?_; rintro e w' ⟨rfl, rfl⟩)
  go_ret
  exact ⟨rfl, rfl⟩

theorem wd_letter {l : List UInt8} (h : W.isWd l = true) (k : Nat) (hk : k < l.length) : 97 ≤ l[k].toNat ∧ l[k].toNat ≤ 99 := by
  have := List.all_eq_true.1 h l[k] (List.getElem_mem hk)
  unfold W.isL at this
  rwa [decide_eq_true_eq] at this
theorem krWd_take (L : Int) (l : List UInt8) (k : Nat) (h : k < l.length) : W.krWd L (l.take (k + 1)) = (W.krWd L (l.take k) && decide (97 ≤ l[k].toNat ∧ (l[k].toNat : Int) < 97 + L)) := by
  unfold W.krWd
  rw [List.take_succ_eq_append_getElem h, List.all_append]
  simp
theorem krWd_no (L : Int) (l : List UInt8) (k : Nat) (h : W.krWd L (l.take k) = false) : W.krWd L l = false := by
  unfold W.krWd at h ⊢
  rw [List.all_eq_false] at h ⊢
  obtain ⟨x, hx, hp⟩ := h
  exact ⟨x, List.mem_of_mem_take hx, hp⟩
set_option maxHeartbeats 800000 in
theorem spec_krWord (s : ByteArray) (L : Int) (w : World) (hs : s.size ≤ 1000) (hw : W.isWd s.data.toList = true) :
    Calls Tryz.prog 18 #[.string s, .int .i64 L] w fun e w' => e = .returned (.bool (W.krWd L s.data.toList)) ∧ w = w' := by
  have hsl : s.data.toList.length = s.size := (Lib.size_eq s).symm
  have Hlet := Lib.hid (show ∀ k (hk : k < s.size), 97 ≤ s[k].toNat ∧ s[k].toNat ≤ 99 from fun k hk => wd_letter hw k (by rw [hsl]; exact hk))
  have Hstep := Lib.hid (show ∀ k (hk : k < s.size), W.krWd L (s.data.toList.take (k + 1)) = (W.krWd L (s.data.toList.take k) && decide (97 ≤ s[k].toNat ∧ (s[k].toNat : Int) < 97 + L)) from fun k hk => krWd_take L _ k (by rw [hsl]; exact hk))
  have Hno := Lib.hid (fun k e => krWd_no L s.data.toList k e)
  have Hall := Lib.hid (show W.krWd L (s.data.toList.take s.size) = W.krWd L s.data.toList by rw [List.take_of_length_le (by omega)])
  clear hw hsl
  generalize W.krWd L s.data.toList = r at Hno Hall ⊢
  go_enter Tryz.func18, Tryz.ntmps18
  go_wp2
  go_loop [5] (fun i => ∃ k : Nat, k ≤ s.size ∧ i = .int .i64 k ∧ Hid (W.krWd L (s.data.toList.take k) = true)) (fun i => s.size - (intOf i).toNat)
  case atStart => exact ⟨0, Nat.zero_le _, rfl, rfl⟩
  case round =>
    obtain ⟨k, hk, rfl, hT⟩ := hrel
    by_cases hlt : k < s.size
    · have hl := Hlet.out k hlt
      have hst := Lib.hid (Hstep.out k hlt)
      have hb := s[k].toNat_lt
      have hsub : ((s[k].toNat : Int) - 97) % 256 = (s[k].toNat : Int) - 97 := by omega
      by_cases hc : (s[k].toNat : Int) < 97 + L
      · have hT2 : Hid (W.krWd L (s.data.toList.take (k + 1)) = true) := by show _ = _; rw [hst.out, hT.out, decide_eq_true ⟨hl.1, hc⟩]; rfl
        have hc2 : ¬ (L ≤ (s[k].toNat : Int) - 97) := by omega
        clear hst hc
        go_wp2
        go_round
        case rel => exact ⟨k + 1, by omega, by go_num, hT2⟩
        case measure => simp [intOf]; omega
      · have hr := Hno.out (k + 1) (by rw [hst.out, decide_eq_false (fun h => hc h.2)]; simp)
        subst hr
        have hc2 : L ≤ (s[k].toNat : Int) - 97 := by omega
        clear hst hc
        go_wp2
        go_ret
        exact ⟨rfl, rfl⟩
    · obtain rfl : k = s.size := by omega
      have hr := Hall.out
      rw [hT.out] at hr
      subst hr
      go_wp2
      go_ret
      exact ⟨rfl, rfl⟩

/-- the first k words have the first L letters alone -/
def krTo (ss : List ByteArray) (L : Int) (k : Nat) : Bool := (List.range k).all fun i => W.krWd L (W.nth ss i).data.toList
theorem krTo_succ (ss : List ByteArray) (L : Int) (k : Nat) : krTo ss L (k + 1) = (krTo ss L k && W.krWd L (W.nth ss k).data.toList) := by
  unfold krTo
  rw [List.range_succ, List.all_append]
  simp
theorem krTo_no (ss : List ByteArray) (L : Int) (k n : Nat) (h : k ≤ n) (hf : krTo ss L k = false) : krTo ss L n = false := W.all_mono _ k n h hf
theorem krTo_all (ss : List ByteArray) (L : Int) : krTo ss L ss.length = ss.all fun s => W.krWd L s.data.toList := by
  rw [Bool.eq_iff_iff]
  unfold krTo
  rw [List.all_eq_true, List.all_eq_true]
  constructor
  · intro h x hx
    obtain ⟨i, hi, rfl⟩ := List.mem_iff_getElem.1 hx
    have := h i (by simpa using hi)
    rwa [W.nth_lt ss i hi] at this
  · intro h i hi
    have hi : i < ss.length := by simpa using hi
    rw [W.nth_lt ss i hi]
    exact h _ (List.getElem_mem hi)
theorem krSet_no_let {ss : List ByteArray} {L : Int} (h : W.krLet L = false) : W.krSet ss L = false := by unfold W.krSet; rw [h]; rfl
theorem krSet_no_set {ss : List ByteArray} {L : Int} (h : W.isSet ss = false) : W.krSet ss L = false := by unfold W.krSet; rw [h]; simp
theorem krSet_rest {ss : List ByteArray} {L : Int} (h1 : W.krLet L = true) (h2 : W.isSet ss = true) : W.krSet ss L = krTo ss L ss.length := by unfold W.krSet; rw [h1, h2, krTo_all]; rfl
set_option maxHeartbeats 1600000 in
theorem spec_krSet (A : Option Addr) (ss : List ByteArray) (c : Nat) (L : Int) (w : World) (h : Row w w.heap.size A (strs ss)) (hl : ss.length ≤ 9223372036854775807) (hs : ∀ s ∈ ss, s.size ≤ 9223372036854775807) :
    Calls Tryz.prog 10 #[.slice A ss.length c, .int .i64 L] w fun e w' => e = .returned (.bool (W.krSet ss L)) ∧ w = w' := by
  have hk := spec_krLetters L w
  have hc := spec_wdSet A ss c w h hl hs
  cases h1 : W.krLet L
  · rw [krSet_no_let h1]
    rw [h1] at hk
    replace hk := Lib.hid hk
    clear hc h hs h1
    go_enter Tryz.func10, Tryz.ntmps10
    go_wp2_with (go_at_call 9; refine hk.out.mono ?_; rintro e w' ⟨rfl, rfl⟩)
    go_ret
    exact ⟨rfl, rfl⟩
  · rw [h1] at hk
    replace hk := Lib.hid hk
    cases h2 : W.isSet ss
    · rw [krSet_no_set h2]
      rw [h2] at hc
      replace hc := Lib.hid hc
      clear h hs h1 h2
      go_enter Tryz.func10, Tryz.ntmps10
      go_wp2_with (first | (go_at_call 9; refine hk.out.mono ?_; rintro e w' ⟨rfl, rfl⟩) | (go_at_call 17; refine hc.out.mono ?_; rintro e w' ⟨rfl, rfl⟩))
      go_ret
      exact ⟨rfl, rfl⟩
    · rw [h2] at hc
      replace hc := Lib.hid hc
      have h12 := W.isSet_len ss h2
      rw [krSet_rest h1 h2]
      obtain ⟨r, hr⟩ : ∃ r, r = krTo ss L ss.length := ⟨_, rfl⟩
      rw [← hr]
      replace hr := Lib.hid hr
      have hwd := Lib.hid (fun k (hk : k < ss.length) => spec_krWord (W.nth ss k) L w (by have := (W.short_size _ (W.isSet_short ss h2 k hk)).2; omega) (by
        have := W.isSet_short ss h2 k hk
        unfold W.short at this
        rw [Bool.and_eq_true] at this
        exact this.2))
      replace h := Lib.hid h
      clear hs h1 h2
      go_enter Tryz.func10, Tryz.ntmps10
      go_wp2_with (first | (go_at_call 9; refine hk.out.mono ?_; rintro e w' ⟨rfl, rfl⟩) | (go_at_call 17; refine hc.out.mono ?_; rintro e w' ⟨rfl, rfl⟩))
      go_loop [17] (fun i => ∃ k : Nat, k ≤ ss.length ∧ i = .int .i64 k ∧ Hid (krTo ss L k = true)) (fun i => ss.length - (intOf i).toNat)
      case atStart => exact ⟨0, Nat.zero_le _, rfl, rfl⟩
      case round =>
        obtain ⟨k, hk, rfl, hT⟩ := hrel
        by_cases hlt : k < ss.length
        · obtain ⟨b, off, rfl, hb, hcc⟩ := h.out (by rw [strs_length]; omega)
          have hlt' : (k : Int) < (ss.length : Int) := by omega
          have c1 := hcc k _ (strs_nth ss k hlt)
          clear hcc
          have hst := Lib.hid (krTo_succ ss L k)
          have hno := Lib.hid (fun (e : krTo ss L (k + 1) = false) => hr.out.trans (krTo_no ss L (k + 1) ss.length hlt e))
          have hq := hwd.out k hlt
          generalize W.nth ss k = x at c1 hq hst
          cases hd : W.krWd L x.data.toList
          · have hf := hno.out (by rw [hst.out, hd]; simp)
            subst hf
            rw [hd] at hq
            replace hq := Lib.hid hq
            clear hd hst hno
            go_wp2_with (go_at_call 18; refine hq.out.mono ?_; rintro e w' ⟨rfl, rfl⟩)
            go_ret
            exact ⟨rfl, rfl⟩
          · have hT2 : Hid (krTo ss L (k + 1) = true) := by show _ = _; rw [hst.out, hT.out, hd]; rfl
            rw [hd] at hq
            replace hq := Lib.hid hq
            clear hd hst hno
            go_wp2_with (go_at_call 18; refine hq.out.mono ?_; rintro e w' ⟨rfl, rfl⟩)
            go_round
            case rel => exact ⟨k + 1, by omega, by go_num, hT2⟩
            case measure => simp [intOf]; omega
        · obtain rfl : k = ss.length := by omega
          have hf := hr.out
          rw [hT.out] at hf
          subst hf
          go_wp2
          go_ret
          exact ⟨rfl, rfl⟩

set_option maxHeartbeats 1600000 in
theorem spec_krLengths (A : Option Addr) (ss : List ByteArray) (c : Nat) (w : World) (h : Row w w.heap.size A (strs ss)) (h12 : ss.length ≤ 12) (hz : ∀ k, k < ss.length → (W.nth ss k).size ≤ 8) :
    Calls Tryz.prog 13 #[.slice A ss.length c] w (GivesInts w (W.lens ss)) := by
  obtain ⟨i0, hi, hz0, hz1, hz2⟩ := info_parts infoInt
  have HR := Lib.hid (And.intro hi (And.intro hz0 (And.intro hz1 hz2)))
  have Hz := Lib.hid hz
  replace h := Lib.hid h
  clear hi hz0 hz1 hz2 hz
  go_enter Tryz.func13, Tryz.ntmps13
  go_wp2
  go_loopw [3, 8] (fun v i wr => ∃ k : Nat, k ≤ ss.length ∧ i = .int .i64 k ∧ wr.ownsRow w.heap.size 3 1 v k (ints (W.lens (ss.take k))) ∧ Below w.heap.size w wr)
    (fun _ i _ => ss.length - (intOf i).toNat)
  case atStart => exact ⟨0, Nat.zero_le _, rfl, World.ownsRow_nil _ _ _ _, Below.refl _ _⟩
  case round =>
    obtain ⟨k, hk, rfl, ho, hB⟩ := hrel
    have hO := Lib.hid (And.intro ho hB)
    clear ho hB
    by_cases hlt : k < ss.length
    · obtain ⟨b, off, rfl, hb, hcc⟩ := h.out (by rw [strs_length]; omega)
      have hlt' : (k : Int) < (ss.length : Int) := by omega
      have c1 := (hO.out.2.cell (p := ⟨b, off + k, none⟩) hb).trans (hcc k _ (strs_nth ss k hlt))
      clear hcc
      have hx := Hz.out k hlt
      have Hs := Lib.hid (W.lens_succ ss k hlt)
      generalize W.nth ss k = x at c1 hx Hs
      go_wp2_with (at_builtin; refine wpList_append_own _ rfl _ _ 34 rfl w.heap.size 3 i0 (.int .i64 0) 1 8 Tryz.underlying34 HR.out.1 HR.out.2.1 HR.out.2.2.1 HR.out.2.2.2 rfl (by decide) _ _ _ rfl (hO.out.1.alloc _) ⟨wr.heap.size, 0, none⟩ 1 1 [.int .i64 x.size] rfl rfl (cell_one_new _ _ _) (one_cell _) (by unfold maxLen; omega) (by omega) (by have := hO.out.2.size; simp; omega) ?_)
      intro v' w1 hown' hgrow _
      have hO2 := Lib.hid (And.intro hown' hgrow)
      clear hown' hgrow
      go_wp2
      go_roundw
      case rel =>
        refine ⟨k + 1, by omega, by go_num, ?_, ?_⟩
        · rw [Hs.out, ints_snoc]
          exact hO2.out.1
        · have hlt := hO.out.1.lt
          exact (hO.out.2.alloc hO.out.2.size _).grown hO2.out.2 (by have := hO.out.2.size; simp; omega) (fun g hg => (hlt g hg).1)
      case measure => simp [intOf]; omega
    · obtain rfl : k = ss.length := by omega
      go_wp2
      go_ret
      have hfin := hO.out.1
      rw [List.take_length] at hfin
      exact givesInts_of (by rw [show (W.lens ss).length = ss.length by simp [W.lens]]; exact hfin) rfl hO.out.2

theorem lens_all {ss : List ByteArray} (h : W.isSet ss = true) : W.lenAll (W.lens ss) = true := by
  unfold W.lenAll W.lens
  rw [List.all_map, List.all_eq_true]
  intro x hx
  have hx' : W.short x = true := by
    obtain ⟨i, hi, rfl⟩ := List.mem_iff_getElem.1 hx
    rw [← W.nth_lt ss i hi]
    exact W.isSet_short ss h i hi
  have := W.short_size x hx'
  exact decide_eq_true (show (1 : Int) ≤ (x.size : Int) ∧ (x.size : Int) ≤ 8 by omega)
theorem lens_len (ss : List ByteArray) : (W.lens ss).length = ss.length := by simp [W.lens]


set_option maxHeartbeats 1600000 in
theorem spec_krShares (A : Option Addr) (z : List Int) (c L : Nat) (w : World) (h : Row w w.heap.size A (ints z)) (h12 : z.length ≤ 12) (hz : W.lenAll z = true) (h2 : 2 ≤ L) (h3 : L ≤ 3) :
    Calls Tryz.prog 22 #[.slice A z.length c, .int .i64 L] w fun e w' => e = .returned (.int .i64 ((W.shares L z : Nat) : Int)) ∧ w = w' := by
  obtain ⟨r, hr⟩ : ∃ r, r = W.shares L z := ⟨_, rfl⟩
  rw [← hr]
  have Hst := Lib.hid (fun k (hk : k < z.length) => W.shares_succ L z k hk)
  have Hle := Lib.hid (fun k => Nat.le_trans (W.shares_take_le L z k) (W.shares_le L h2 h3 z hz))
  have Hz := Lib.hid (fun k (hk : k < z.length) => W.lenAll_at hz k hk)
  have Hpl := Lib.hid (fun k (hk : k < z.length) => W.part_le L h2 h3 z[k] (W.lenAll_at hz k hk).1)
  have Hall := Lib.hid (show W.shares L (z.take z.length) = r by rw [hr, List.take_length])
  have Hpw := Lib.hid (fun (l : Int) (h1 : 1 ≤ l) (h8 : l ≤ 8) => by
    have hc := spec_krPower L (8 - l.toNat) w (pow_small L _ h3 (by omega)) (by omega)
    rw [show ((8 - l.toNat : Nat) : Int) = 8 - l by omega, show L ^ (8 - l.toNat) = W.part L l from rfl] at hc
    exact hc)
  replace h := Lib.hid h
  clear hz hr
  go_enter Tryz.func22, Tryz.ntmps22
  go_wp2
  go_loop [5, 10] (fun s i => ∃ k q : Nat, k ≤ z.length ∧ i = .int .i64 k ∧ s = .int .i64 q ∧ Hid (q = W.shares L (z.take k))) (fun _ i => z.length - (intOf i).toNat)
  case atStart => exact ⟨0, 0, Nat.zero_le _, rfl, rfl, rfl⟩
  case round =>
    obtain ⟨k, q, hk, rfl, rfl, hq⟩ := hrel
    have hq4 := Hle.out k
    rw [← hq.out] at hq4
    by_cases hlt : k < z.length
    · obtain ⟨b, off, rfl, hb, hcc⟩ := Row.int_at h.out (by omega)
      have hlt' : (k : Int) < (z.length : Int) := by omega
      have c1 := hcc k hlt
      clear hcc
      have hl := Hz.out k hlt
      have hs := Hst.out k hlt
      have hp := Hpl.out k hlt
      have hpw := Hpw.out _ hl.1 hl.2
      generalize z[k] = l at c1 hl hs hp hpw
      have hl1 := hl.1
      have hl8 := hl.2
      rw [← hq.out] at hs
      generalize W.part L l = p at hs hp hpw
      replace hs := Lib.hid hs
      replace hpw := Lib.hid hpw
      go_wp2_with (go_at_call 23; refine hpw.out.mono ?_; rintro e w' ⟨rfl, rfl⟩)
      go_round
      case rel => exact ⟨k + 1, q + p, by omega, by go_num, by go_num, hs.out.symm⟩
      case measure => simp [intOf]; omega
    · obtain rfl : k = z.length := by omega
      obtain rfl := hq.out.trans Hall.out
      go_wp2
      go_ret
      exact ⟨rfl, rfl⟩

/-- Kraft's sum lies in a struct -/
abbrev sumV (L : Nat) (z : List Int) : Value := ratV ((W.krSum L z).1 : Nat) ((W.krSum L z).2 : Nat)
theorem shares_26 {L : Nat} {z : List Int} (h2 : 2 ≤ L) (h3 : L ≤ 3) (h12 : z.length ≤ 12) (hz : W.lenAll z = true) : W.shares L z ≤ 26244 := by
  have := W.shares_le L h2 h3 z hz
  omega
theorem spec_krSum (A : Option Addr) (z : List Int) (c L : Nat) (w : World) (h : Row w w.heap.size A (ints z)) (h12 : z.length ≤ 12) (hz : W.lenAll z = true) (h2 : 2 ≤ L) (h3 : L ≤ 3) :
    Calls Tryz.prog 12 #[.slice A z.length c, .int .i64 L] w fun e w' => e = .returned (sumV L z) ∧ Below w.heap.size w w' := by
  have hs := fun (u : World) (g : Row u u.heap.size A (ints z)) => spec_krShares A z c L u g h12 hz h2 h3
  have hp := fun u => spec_krPower L 8 u (pow_small L _ h3 (by omega)) (by omega)
  have hr := fun u => spec_krRatio (W.shares L z) (L ^ 8) u (by have := shares_26 h2 h3 h12 hz; omega) (by have := W.whole_le L h3; omega) (W.whole_pos L h2)
  unfold sumV W.krSum
  generalize W.shares L z = S at hs hr ⊢
  generalize L ^ 8 = D at hp hr ⊢
  generalize (W.low S D) = lw at hr ⊢
  obtain ⟨p, q⟩ := lw
  replace hs := Lib.hid hs
  replace hp := Lib.hid hp
  replace hr := Lib.hid hr
  have hB := Lib.hid ((Below.refl w.heap.size w).alloc (Nat.le_refl _) (.cells #[.int .i64 0, .int .i64 0] 32))
  have hs1 := Lib.hid (hs.out (w.alloc (.cells #[.int .i64 0, .int .i64 0] 32)) ((h.below hB.out).more hB.out.size))
  clear h
  go_enter Tryz.func12, Tryz.ntmps12
  go_wp2_with (first | (go_at_call 22; refine hs1.out.mono ?_; rintro e w' ⟨rfl, rfl⟩) | (go_at_call 23; refine (hp.out _).mono ?_; rintro e w' ⟨rfl, rfl⟩))
  go_wp2_with fail
  refine (hr.out _).mono ?_
  rintro e w2 ⟨rfl, hB2⟩
  have hB3 := Lib.hid (hB.out.trans (hB2.mono hB.out.size))
  obtain ⟨c0, c1, f0, f1⟩ := res_cells hB2
  clear hB2
  go_wp2
  exact bodyPost_ret (v := ratV p q) (by simp [results, Tryz.results12, go_sem, c0, c1]) rfl ⟨rfl, (hB3.out.setCell (Nat.le_refl _) _).setCell (Nat.le_refl _) _⟩

end Go.Proofs.YtjopbmhldpcpdaaGreatDoor
