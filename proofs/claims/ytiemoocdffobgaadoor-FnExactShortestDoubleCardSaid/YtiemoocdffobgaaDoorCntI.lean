/-
  WHAT THIS FILE PROVES: the program's table of the numbers of readings of all ends of a text: it reads as the plain table; asked: a set in memory, a text of at most 60 letters.
-/
import Derived.Test.YtiemoocdffobgaaDoorCntS
import Derived.Test.YtiemoocdffobgaaDoorSSMem
namespace Go.Proofs.YtiemoocdffobgaaDoor
open Go.RowKit Go.Shelf

/-- the table is handed back with its set and its text -/
def HasTable (w0 : World) (A : Option Addr) (ss : List ByteArray) (c : Nat) (s : ByteArray) (e : Ending) (w' : World) : Prop :=
  ∃ g, e = .returned (.agg #[.slice A ss.length c, .string s, .slice (some ⟨g, 0, none⟩) (s.size + 1) (s.size + 1)]) ∧
    w'.ownsRow w0.heap.size 3 1 (.slice (some ⟨g, 0, none⟩) (s.size + 1) (s.size + 1)) (s.size + 1) (ints (W.tfull 0 (W.tab ss s.data.toList))) ∧ Below w0.heap.size w0 w'

/-- the result's place and the struct's, the table's block between them -/
def Around (w : World) (A : Option Addr) (ss : List ByteArray) (c : Nat) (s : ByteArray) (wr : World) : Prop :=
  Below w.heap.size w wr ∧ wr.heap[w.heap.size]? = some (.cells #[.slice none 0 0, .string { data := #[] }, .slice none 0 0] 53 (0, 0)) ∧
    wr.heap[w.heap.size + 1 + 1]? = some (.cells #[.slice A ss.length c, .string s, .slice (some ⟨w.heap.size + 1, 0, none⟩) (s.size + 1) (s.size + 1)] 53 (0, 0))
theorem Around.field {w : World} {A : Option Addr} {ss : List ByteArray} {c : Nat} {s : ByteArray} {wr : World} (h : Around w A ss c s wr) : wr.cell? ⟨w.heap.size + 1 + 1, 2, none⟩ = some (.slice (some ⟨w.heap.size + 1, 0, none⟩) (s.size + 1) (s.size + 1)) := by
  rw [cell_of_row wr _ 2 _ _ _ h.2.2]
  rfl
theorem Around.set {w : World} {A : Option Addr} {ss : List ByteArray} {c : Nat} {s : ByteArray} {wr : World} (h : Around w A ss c s wr) (j : Nat) (v : Value) : Around w A ss c s (wr.setCell ⟨w.heap.size + 1, j, none⟩ v).drew := by
  refine ⟨(h.1.setCell (show w.heap.size ≤ w.heap.size + 1 by omega) v).drew, ?_, ?_⟩
  · exact (Below.heap_setCell wr ⟨w.heap.size + 1, j, none⟩ v _ (by show w.heap.size ≠ w.heap.size + 1; omega)).trans h.2.1
  · exact (Below.heap_setCell wr ⟨w.heap.size + 1, j, none⟩ v _ (by show w.heap.size + 1 + 1 ≠ w.heap.size + 1; omega)).trans h.2.2
theorem around_start (w : World) (A : Option Addr) (ss : List ByteArray) (c : Nat) (s : ByteArray) (hs : s.size ≤ 60) :
    let V := ((w.alloc (.cells #[.slice none 0 0, .string { data := #[] }, .slice none 0 0] 53)).alloc
      (.cells ((madeCells #[.int .i64 0] (s.size + 1)).setIfInBounds s.size (.int .i64 1)) 3)).alloc
      (.cells #[.slice A ss.length c, .string s, .slice (some ⟨w.heap.size + 1, 0, none⟩) (s.size + 1) (s.size + 1)] 53)
    V.ownsRow w.heap.size 3 1 (.slice (some ⟨w.heap.size + 1, 0, none⟩) (s.size + 1) (s.size + 1)) (s.size + 1) (ints (W.tfull s.size (W.tab ss (s.data.toList.drop s.size)))) ∧ Around w A ss c s V := by
  intro V
  have h1 := table_made (w.alloc (.cells #[.slice none 0 0, .string { data := #[] }, .slice none 0 0] 53)) ss s w.heap.size (by simp) hs
  have e : (w.alloc (.cells #[.slice none 0 0, .string { data := #[] }, .slice none 0 0] 53)).heap.size = w.heap.size + 1 := Array.size_push ..
  rw [e] at h1
  refine ⟨h1.alloc _, (((Below.refl _ _).alloc (Nat.le_refl _) _).alloc (by rw [e]; omega) _).alloc (by simp; omega) _, ?_, ?_⟩
  · exact (Below.heap_alloc _ _ _ (by simp; omega)).trans ((Below.heap_alloc _ _ _ (by simp)).trans (heap_alloc_new w _))
  · have e2 : ((w.alloc (.cells #[.slice none 0 0, .string { data := #[] }, .slice none 0 0] 53)).alloc (.cells ((madeCells #[.int .i64 0] (s.size + 1)).setIfInBounds s.size (.int .i64 1)) 3)).heap.size = w.heap.size + 1 + 1 := by simp
    have := heap_alloc_new ((w.alloc (.cells #[.slice none 0 0, .string { data := #[] }, .slice none 0 0] 53)).alloc (.cells ((madeCells #[.int .i64 0] (s.size + 1)).setIfInBounds s.size (.int .i64 1)) 3)) (.cells #[.slice A ss.length c, .string s, .slice (some ⟨w.heap.size + 1, 0, none⟩) (s.size + 1) (s.size + 1)] 53)
    rw [e2] at this
    exact this

set_option maxHeartbeats 1600000 in
theorem impl_readingsOf (A : Option Addr) (ss : List ByteArray) (c : Nat) (s : ByteArray) (w : World) (h : Row w w.heap.size A (strs ss)) (hset : W.isSet ss = true) (hs : s.size ≤ 60) :
    Calls Tryd.prog 42 #[.slice A ss.length c, .string s] w (HasTable w A ss c s) := by
  have hmk : ∀ w : World, (Instr.makeSlice 37 (.int .i64 ((s.size : Int) + 1)) (.int .i64 ((s.size : Int) + 1))).run Tryd.prog w = .ok (.slice (some ⟨w.heap.size, 0, none⟩) (s.size + 1) (s.size + 1)) (w.alloc (.cells (madeCells #[.int .i64 0] (s.size + 1)) 3)) :=
    fun w => run_make_row' (P := Tryd.prog) 37 3 (.int .i64 0) 8 Tryd.underlying37 infoInt rfl .i64 .i64 (s.size + 1) (by omega) (by omega) w
  have h12 := W.isSet_len ss hset
  have Hset := Lib.hid hset
  clear hset
  replace h := Lib.hid h
  have Hst := Lib.hid (around_start w A ss c s hs)
  have hml := made_last s.size
  have hs2 : (s.size : Int) ≤ 60 := by omega
  have Hl : Hid (s.data.toList.length = s.size) := (Lib.size_eq s).symm
  go_enter Tryd.func42, Tryd.ntmps42
  go_wp2_with fail
  go_loopw [6] (fun i wr => ∃ j : Nat, j ≤ s.size ∧ i = .int .i64 ((j : Int) - 1) ∧
      wr.ownsRow w.heap.size 3 1 (.slice (some ⟨w.heap.size + 1, 0, none⟩) (s.size + 1) (s.size + 1)) (s.size + 1) (ints (W.tfull j (W.tab ss (s.data.toList.drop j)))) ∧ Around w A ss c s wr) (fun i _ => (intOf i + 1).toNat)
  case atStart => exact ⟨s.size, Nat.le_refl _, rfl, Hst.out.1, Hst.out.2⟩
  case round =>
    clear hmk hml Hst
    obtain ⟨j, hj, rfl, ho, hB⟩ := hrel
    have hO := Lib.hid (And.intro ho hB)
    clear ho hB
    by_cases h0 : 0 < j
    · obtain ⟨m, rfl⟩ : ∃ m, j = m + 1 := ⟨j - 1, by omega⟩
      have hm0 : (0 : Int) ≤ (m : Int) := by omega
      have hm1 : (m : Int) ≤ 60 := by omega
      have he : (((m + 1 : Nat) : Int) - 1) = (m : Int) := by omega
      rw [he]
      clear he
      have Htl := Lib.hid (tab_len ss s m (by omega))
      have Hbd := Lib.hid (fun k => W.wsum_bound Hset.out s.data.toList (by rw [Hl.out]; exact hs) m (by rw [Hl.out]; omega) k)
      have Hsu := Lib.hid (fun k hk => W.wsum_succ (W.tab ss (s.data.toList.drop (m + 1))) (s.data.toList.drop m) ss k hk)
      have Hfull := Lib.hid (W.tpart_full ss s.data.toList m (by rw [Hl.out]; omega))
      have hO2 := hO.out
      rw [W.tfull_part] at hO2
      replace hO2 := Lib.hid hO2
      clear hO
      generalize W.tab ss (s.data.toList.drop (m + 1)) = T at hO2 Htl Hbd Hsu Hfull
      have hms : m ≤ s.size := by omega
      go_wp2_with fail
      go_loopw [30] (fun i wr => ∃ k : Nat, k ≤ ss.length ∧ i = .int .i64 k ∧
          wr.ownsRow w.heap.size 3 1 (.slice (some ⟨w.heap.size + 1, 0, none⟩) (s.size + 1) (s.size + 1)) (s.size + 1) (ints (W.tpart m (W.wsum T (s.data.toList.drop m) (ss.take k)) T)) ∧ Around w A ss c s wr) (fun i _ => ss.length - (intOf i).toNat)
      case atStart => exact ⟨0, Nat.zero_le _, rfl, hO2.out⟩
      case round =>
        clear hO2
        obtain ⟨k, hk, rfl, ho, hB⟩ := hrel
        have hO := Lib.hid (And.intro ho hB)
        clear ho hB
        by_cases hlt : k < ss.length
        · obtain ⟨b, off, rfl, hb, hcc⟩ := h.out (by rw [strs_length]; omega)
          have hlt' : (k : Int) < (ss.length : Int) := by omega
          have c1 := (hO.out.2.1.cell (p := ⟨b, off + k, none⟩) hb).trans (hcc k _ (strs_nth ss k hlt))
          clear hcc
          have Hs := Lib.hid (Hsu.out k hlt)
          have Hb0 := Hbd.out k
          have Hb1 := Hbd.out (k + 1)
          have hpos := W.set_pos Hset.out k hlt
          have hsz8 := (W.short_size _ (W.isSet_short ss Hset.out k hlt)).2
          rw [Hs.out] at Hb1
          generalize W.nth ss k = t at c1 Hs Hb1 hpos hsz8
          have hc := fun W => Tryd.strings_HasPrefix (s.extract m s.size) t W
          rw [extract_tail] at hc
          have Hhere := Lib.hid (ints_get _ _ _ (W.tpart_here m (W.wsum T (s.data.toList.drop m) (ss.take k)) T))
          cases hq : Lib.hasPrefix (s.data.toList.drop m) t.data.toList
          · rw [hq] at hc
            have Hw := Lib.hid (W.wadd_no (T := T) hq)
            clear hq
            replace hc := Lib.hid hc
            go_wp2_with (go_at_call 59; refine (hc.out _).mono ?_; rintro e w' ⟨rfl, rfl⟩)
            go_roundw
            case rel => exact ⟨k + 1, by omega, by go_num, by rw [Hs.out, Hw.out, Nat.add_zero]; exact hO.out.1, hO.out.2⟩
            case measure => simp [intOf]; omega
          · rw [hq] at hc
            have Hw := Lib.hid (W.wadd_yes (T := T) hq)
            have hts : t.size ≤ s.size - m := by
              have := Lib.hasPrefix_le hq
              rw [← Lib.size_eq, List.length_drop, Hl.out] at this
              exact this
            clear hq
            replace hc := Lib.hid hc
            rw [Hw.out] at Hs Hb1
            have Hthere := Lib.hid (ints_get _ _ _ (W.tpart_there m (W.wsum T (s.data.toList.drop m) (ss.take k)) T t.size hpos (by have := Htl.out; omega)))
            generalize T.getD (t.size - 1) 0 = y at Hs Hb1 Hthere
            generalize W.wsum T (s.data.toList.drop m) (ss.take k) = x at *
            have cf := hO.out.2.field
            have c2 := (hO.out.1.cellAt m (by omega)).trans Hhere.out
            have c3 := (hO.out.1.cellAt (m + t.size) (by omega)).trans Hthere.out
            have hf := hO.out.1.frozenAt m
            have hst := hO.out.1.stored m (.int .i64 ((x : Int) + (y : Int)))
            rw [part_set] at hst
            replace hst := Lib.hid (And.intro hst.1 (hO.out.2.set m (.int .i64 ((x : Int) + (y : Int)))))
            go_wp2_with (go_at_call 59; refine (hc.out _).mono ?_; rintro e w' ⟨rfl, rfl⟩)
            go_region
            go_wp2
            go_roundw
            case rel =>
              exact ⟨k + 1, by omega, by go_num, by rw [Hs.out]; exact hst.out.1, hst.out.2⟩
            case measure => simp [intOf]; omega
        · obtain rfl : k = ss.length := by omega
          have hO2 := hO.out
          rw [List.take_length, Hfull.out] at hO2
          replace hO2 := Lib.hid hO2
          clear hO
          go_wp2
          go_roundw
          case rel => exact ⟨m, by omega, rfl, hO2.out⟩
          case measure => simp [intOf]
    · obtain rfl : j = 0 := by omega
      have g0 : wr.cell? ⟨w.heap.size + 1 + 1, 0, none⟩ = some (.slice A ss.length c) := cell_of_row wr _ 0 _ _ _ hO.out.2.2.2
      have g1 : wr.cell? ⟨w.heap.size + 1 + 1, 1, none⟩ = some (.string s) := cell_of_row wr _ 1 _ _ _ hO.out.2.2.2
      have g2 := hO.out.2.field
      have k0 : wr.cell? ⟨w.heap.size, 0, none⟩ = some (.slice none 0 0) := cell_of_row wr _ 0 _ _ _ hO.out.2.2.1
      have k1 : wr.cell? ⟨w.heap.size, 1, none⟩ = some (.string { data := #[] }) := cell_of_row wr _ 1 _ _ _ hO.out.2.2.1
      have k2 : wr.cell? ⟨w.heap.size, 2, none⟩ = some (.slice none 0 0) := cell_of_row wr _ 2 _ _ _ hO.out.2.2.1
      have f0 : wr.frozen? ⟨w.heap.size, 0, none⟩ = false := frozen_of_row wr _ 0 _ _ hO.out.2.2.1
      have f1 : wr.frozen? ⟨w.heap.size, 1, none⟩ = false := frozen_of_row wr _ 1 _ _ hO.out.2.2.1
      have f2 : wr.frozen? ⟨w.heap.size, 2, none⟩ = false := frozen_of_row wr _ 2 _ _ hO.out.2.2.1
      go_wp2_with fail
      refine bodyPost_ret (v := .agg #[.slice A ss.length c, .string s, .slice (some ⟨w.heap.size + 1, 0, none⟩) (s.size + 1) (s.size + 1)]) (by simp [results, Tryd.results42, go_sem, k0, k1, k2]) rfl ?_
      have hr := hO.out.1
      rw [List.drop_zero] at hr
      have hne : ∀ j, (Value.slice (some ⟨w.heap.size + 1, 0, none⟩) (s.size + 1) (s.size + 1)).ownBlock ≠ some (⟨w.heap.size, j, none⟩ : Addr).block := fun j => by simp [Value.ownBlock]
      exact ⟨_, rfl, own_setCell (own_setCell (own_setCell hr _ _ (hne _)) _ _ (hne _)) _ _ (hne _), ((hO.out.2.1.setCell (Nat.le_refl _) _).setCell (Nat.le_refl _) _).setCell (Nat.le_refl _) _⟩

end Go.Proofs.YtiemoocdffobgaaDoor
