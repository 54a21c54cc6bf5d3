/-
  WHAT THIS FILE PROVES: how many readings a text has: the specification's function gives the number of the table; asked: a set in memory, a text of at most 60 letters.
-/
import Derived.Test.YtiemoocdffobgaaDoorIsSet
import Derived.Test.YtiemoocdffobgaaDoorMemI
import Derived.Test.YtiemoocdffobgaaDoorWays
import Derived.Deep.OwnRows
import Derived.BigRegion
namespace Go.Proofs.YtiemoocdffobgaaDoor
open Go.RowKit Go.Shelf

theorem extract_tail (s : ByteArray) (k : Nat) : (s.extract k s.size).data.toList = s.data.toList.drop k := by
  rw [Lib.extract_eq]
  show (List.take (s.size - k) (List.drop k s.data.toList)) = _
  exact List.take_of_length_le (by simp)
theorem made_last (n : Nat) : (madeCells #[Value.int .i64 0] (n + 1))[n]? = some (.int .i64 0) := by
  have := toList_madeCells_one (.int .i64 0) (n + 1)
  rw [← Array.getElem?_toList, this]
  simp
/-- the table as the call makes it, its last number laid -/
theorem table_made (w : World) (ss : List ByteArray) (s : ByteArray) (B : Nat) (hB : B ≤ w.heap.size) (hs : s.size ≤ 60) :
    (w.alloc (.cells ((madeCells #[.int .i64 0] (s.size + 1)).setIfInBounds s.size (.int .i64 1)) 3)).ownsRow B 3 1 (.slice (some ⟨w.heap.size, 0, none⟩) (s.size + 1) (s.size + 1)) (s.size + 1)
      (ints (W.tfull s.size (W.tab ss (s.data.toList.drop s.size)))) := by
  have h0 := World.ownsRow_lit (base := B) (e := 3) (size := 1) w ((madeCells #[.int .i64 0] (s.size + 1)).setIfInBounds s.size (.int .i64 1)) (s.size + 1) hB (by unfold maxLen; omega) (by rw [Array.size_setIfInBounds, size_madeCells]; omega)
  have e : ((madeCells #[.int .i64 0] (s.size + 1)).setIfInBounds s.size (.int .i64 1)).toList = ints (W.tfull s.size (W.tab ss (s.data.toList.drop s.size))) := by
    have := W.tfull_start ss s.data.toList
    rw [← Lib.size_eq] at this
    rw [← this, Array.toList_setIfInBounds, toList_madeCells_one]
    unfold ints
    rw [List.map_set, List.map_replicate]
  rw [← e]
  exact h0
theorem tab_len (ss : List ByteArray) (s : ByteArray) (m : Nat) (h : m < s.size) : m + 1 + (W.tab ss (s.data.toList.drop (m + 1))).length = s.size + 1 := by
  rw [W.tab_length, List.length_drop, ← Lib.size_eq]
  omega
theorem ints_get (xs : List Int) (k : Nat) (x : Int) (h : xs[k]? = some x) : (ints xs)[k]? = some (.int .i64 x) := by
  unfold ints
  rw [List.getElem?_map, h]
  rfl

theorem part_set (m x y : Nat) (T : List Nat) : (ints (W.tpart m x T)).set m (.int .i64 ((x : Int) + (y : Int))) = ints (W.tpart m (x + y) T) := by
  rw [← W.tpart_set m x (x + y) T]
  unfold ints
  rw [List.map_set, Int.natCast_add]

set_option maxHeartbeats 1600000 in
theorem spec_dcCount (A : Option Addr) (ss : List ByteArray) (c : Nat) (s : ByteArray) (w : World) (h : Row w w.heap.size A (strs ss)) (hset : W.isSet ss = true) (hs : s.size ≤ 60) :
    Calls Tryd.prog 58 #[.slice A ss.length c, .string s] w fun e w' => e = .returned (.int .i64 ((W.ways ss s.data.toList : Nat) : Int)) ∧ Below w.heap.size w w' := by
  have hmk : ∀ w : World, (Instr.makeSlice 37 (.int .i64 ((s.size : Int) + 1)) (.int .i64 ((s.size : Int) + 1))).run Tryd.prog w = .ok (.slice (some ⟨w.heap.size, 0, none⟩) (s.size + 1) (s.size + 1)) (w.alloc (.cells (madeCells #[.int .i64 0] (s.size + 1)) 3)) :=
    fun w => run_make_row' (P := Tryd.prog) 37 3 (.int .i64 0) 8 Tryd.underlying37 infoInt rfl .i64 .i64 (s.size + 1) (by omega) (by omega) w
  have h12 := W.isSet_len ss hset
  have Hset := Lib.hid hset
  clear hset
  replace h := Lib.hid h
  have Hst := Lib.hid (table_made w ss s w.heap.size (Nat.le_refl _) hs)
  have hml := made_last s.size
  have hs2 : (s.size : Int) ≤ 60 := by omega
  have Hl : Hid (s.data.toList.length = s.size) := (Lib.size_eq s).symm
  go_enter Tryd.func58, Tryd.ntmps58
  go_wp2_with fail
  go_loopw [6] (fun i wr => ∃ j : Nat, j ≤ s.size ∧ i = .int .i64 ((j : Int) - 1) ∧
      wr.ownsRow w.heap.size 3 1 (.slice (some ⟨w.heap.size, 0, none⟩) (s.size + 1) (s.size + 1)) (s.size + 1) (ints (W.tfull j (W.tab ss (s.data.toList.drop j)))) ∧ Below w.heap.size w wr) (fun i _ => (intOf i + 1).toNat)
  case atStart => exact ⟨s.size, Nat.le_refl _, rfl, Hst.out, (Below.refl _ _).alloc (Nat.le_refl _) _⟩
  case round =>
    clear hmk hml Hst
    obtain ⟨j, hj, rfl, ho, hB⟩ := hrel
    have hO := Lib.hid (And.intro ho hB)
    clear ho hB
    by_cases h0 : 0 < j
    · obtain ⟨m, rfl⟩ : ∃ m, j = m + 1 := ⟨j - 1, by omega⟩
      have hm0 : (0 : Int) ≤ (m : Int) := by omega
      have hm1 : (m : Int) ≤ 60 := by omega
      have he : (((m + 1 : Nat) : Int) - 1) = (m : Int) := by omega
      rw [he]
      clear he
      have Htl := Lib.hid (tab_len ss s m (by omega))
      have Hbd := Lib.hid (fun k => W.wsum_bound Hset.out s.data.toList (by rw [Hl.out]; exact hs) m (by rw [Hl.out]; omega) k)
      have Hsu := Lib.hid (fun k hk => W.wsum_succ (W.tab ss (s.data.toList.drop (m + 1))) (s.data.toList.drop m) ss k hk)
      have Hfull := Lib.hid (W.tpart_full ss s.data.toList m (by rw [Hl.out]; omega))
      have hO2 := hO.out
      rw [W.tfull_part] at hO2
      replace hO2 := Lib.hid hO2
      clear hO
      generalize W.tab ss (s.data.toList.drop (m + 1)) = T at hO2 Htl Hbd Hsu Hfull
      have hms : m ≤ s.size := by omega
      go_wp2_with fail
      go_loopw [26] (fun i wr => ∃ k : Nat, k ≤ ss.length ∧ i = .int .i64 k ∧
          wr.ownsRow w.heap.size 3 1 (.slice (some ⟨w.heap.size, 0, none⟩) (s.size + 1) (s.size + 1)) (s.size + 1) (ints (W.tpart m (W.wsum T (s.data.toList.drop m) (ss.take k)) T)) ∧ Below w.heap.size w wr) (fun i _ => ss.length - (intOf i).toNat)
      case atStart => exact ⟨0, Nat.zero_le _, rfl, hO2.out⟩
      case round =>
        clear hO2
        obtain ⟨k, hk, rfl, ho, hB⟩ := hrel
        have hO := Lib.hid (And.intro ho hB)
        clear ho hB
        by_cases hlt : k < ss.length
        · obtain ⟨b, off, rfl, hb, hcc⟩ := h.out (by rw [strs_length]; omega)
          have hlt' : (k : Int) < (ss.length : Int) := by omega
          have c1 := (hO.out.2.cell (p := ⟨b, off + k, none⟩) hb).trans (hcc k _ (strs_nth ss k hlt))
          clear hcc
          have Hs := Lib.hid (Hsu.out k hlt)
          have Hb0 := Hbd.out k
          have Hb1 := Hbd.out (k + 1)
          have hpos := W.set_pos Hset.out k hlt
          have hsz8 := (W.short_size _ (W.isSet_short ss Hset.out k hlt)).2
          rw [Hs.out] at Hb1
          generalize W.nth ss k = t at c1 Hs Hb1 hpos hsz8
          have hc := fun W => spec_wdBegins (s.extract m s.size) t W
          rw [extract_tail] at hc
          have Hhere := Lib.hid (ints_get _ _ _ (W.tpart_here m (W.wsum T (s.data.toList.drop m) (ss.take k)) T))
          cases hq : Lib.hasPrefix (s.data.toList.drop m) t.data.toList
          · rw [hq] at hc
            have Hw := Lib.hid (W.wadd_no (T := T) hq)
            clear hq
            replace hc := Lib.hid hc
            go_wp2_with (go_at_call 54; refine (hc.out _).mono ?_; rintro e w' ⟨rfl, rfl⟩)
            go_roundw
            case rel => exact ⟨k + 1, by omega, by go_num, by rw [Hs.out, Hw.out, Nat.add_zero]; exact hO.out.1, hO.out.2⟩
            case measure => simp [intOf]; omega
          · rw [hq] at hc
            have Hw := Lib.hid (W.wadd_yes (T := T) hq)
            have hts : t.size ≤ s.size - m := by
              have := Lib.hasPrefix_le hq
              rw [← Lib.size_eq, List.length_drop, Hl.out] at this
              exact this
            clear hq
            replace hc := Lib.hid hc
            rw [Hw.out] at Hs Hb1
            have Hthere := Lib.hid (ints_get _ _ _ (W.tpart_there m (W.wsum T (s.data.toList.drop m) (ss.take k)) T t.size hpos (by have := Htl.out; omega)))
            generalize T.getD (t.size - 1) 0 = y at Hs Hb1 Hthere
            generalize W.wsum T (s.data.toList.drop m) (ss.take k) = x at *
            have c2 := (hO.out.1.cellAt m (by omega)).trans Hhere.out
            have c3 := (hO.out.1.cellAt (m + t.size) (by omega)).trans Hthere.out
            have hf := hO.out.1.frozenAt m
            have hst := hO.out.1.stored m (.int .i64 ((x : Int) + (y : Int)))
            rw [part_set] at hst
            replace hst := Lib.hid (And.intro hst.1 (hO.out.2.grown hst.2 hO.out.2.size (fun g hg => by injection hg with hg; omega)).drew)
            go_wp2_with (go_at_call 54; refine (hc.out _).mono ?_; rintro e w' ⟨rfl, rfl⟩)
            go_region
            go_wp2
            go_roundw
            case rel =>
              exact ⟨k + 1, by omega, by go_num, by rw [Hs.out]; exact hst.out.1, hst.out.2⟩
            case measure => simp [intOf]; omega
        · obtain rfl : k = ss.length := by omega
          have hO2 := hO.out
          rw [List.take_length, Hfull.out] at hO2
          replace hO2 := Lib.hid hO2
          clear hO
          go_wp2
          go_roundw
          case rel => exact ⟨m, by omega, rfl, hO2.out⟩
          case measure => simp [intOf]
    · obtain rfl : j = 0 := by omega
      have c1 := hO.out.1.cellAt 0 (by omega)
      have Hh := W.tfull_head ss s.data.toList
      rw [ints_get _ _ _ Hh] at c1
      clear Hh
      go_wp2
      go_ret
      exact ⟨rfl, hO.out.2⟩

end Go.Proofs.YtiemoocdffobgaaDoor
