/-
  WHAT THIS FILE PROVES: how many messages are written with so many letters: the specification's and the program's functions give the same number; asked: a slice of texts in memory, lengths and a number that an int holds.
-/
import Derived.Test.YtaeligamgpikkaaDoorMsgs
import Derived.Test.YtaeligamgpikkaaDoorIn
namespace Go.Proofs.YtaeligamgpikkaaDoor
open Go.RowKit Go.Shelf

/-- a number of messages is told -/
def cmOk (ss : List ByteArray) (n : Int) : Bool := W.isSet ss && inR 0 20 n
def cmOf (ss : List ByteArray) (n : Int) : Nat := if cmOk ss n then (W.cms ss n.toNat).getD n.toNat 0 else 0
theorem cmOf_no {ss : List ByteArray} {n : Int} (h : cmOk ss n = false) : cmOf ss n = 0 := by unfold cmOf; rw [h]; rfl
theorem cmOf_yes {ss : List ByteArray} {n : Int} (h : cmOk ss n = true) : cmOf ss n = (W.cms ss n.toNat).getD n.toNat 0 := by unfold cmOf; rw [h]; rfl
/-- the numbers as the slice has them -/
def nums (ss : List ByteArray) (j : Nat) : List Value := ints ((W.cms ss j).map fun (x : Nat) => (x : Int))
theorem nums_succ (ss : List ByteArray) (j : Nat) : nums ss (j + 1) = nums ss j ++ [.int .i64 ((W.csum (W.cms ss j) (j + 1) ss : Nat) : Int)] := by
  unfold nums
  rw [W.cms, List.map_append, List.map_singleton, ints_snoc]
theorem nums_at {w : World} {base g c : Nat} {ss : List ByteArray} {j : Nat} (h : w.ownsRow base 3 1 (.slice (some ⟨g, 0, none⟩) (j + 1) c) (j + 1) (nums ss j)) (k : Nat) (hk : k < j + 1) : w.cell? ⟨g, k, none⟩ = some (.int .i64 (((W.cms ss j).getD k 0 : Nat) : Int)) := by
  rw [h.cellAt k (by omega)]
  unfold nums ints
  rw [List.getElem?_map, List.getElem?_map, List.getD_eq_getElem?_getD, List.getElem?_eq_getElem (by rw [W.cms_length]; omega)]
  rfl
theorem nums_start (w : World) (B : Nat) (ss : List ByteArray) (hB : B ≤ w.heap.size) : (w.alloc (.cells #[.int .i64 1] 3)).ownsRow B 3 1 (.slice (some ⟨w.heap.size, 0, none⟩) 1 1) (0 + 1) (nums ss 0) :=
  World.ownsRow_lit (base := B) (e := 3) (size := 1) w #[.int .i64 1] 1 hB (by unfold maxLen; omega) rfl

set_option maxHeartbeats 1600000 in
theorem spec_CountMessages (A : Option Addr) (ss : List ByteArray) (c : Nat) (n : Int) (w : World) (h : Row w w.heap.size A (strs ss)) (hl : ss.length ≤ 9223372036854775807) (hs : ∀ s ∈ ss, s.size ≤ 9223372036854775807) (hna : -9223372036854775808 ≤ n) (hnb : n ≤ 9223372036854775807) :
    Calls Tryd.prog 33 #[.slice A ss.length c, .int .i64 n] w fun e w' => e = .returned (.tuple #[.int .i64 ((cmOf ss n : Nat) : Int), .bool (cmOk ss n)]) ∧ Below w.heap.size w w' := by
  have hc := spec_wdSet A ss c w h hl hs
  cases hq : W.isSet ss
  · have hno : cmOk ss n = false := by unfold cmOk; rw [hq]; rfl
    rw [cmOf_no hno, hno]
    rw [hq] at hc
    replace hc := Lib.hid hc
    clear h hs hq hno
    go_enter Tryd.func33, Tryd.ntmps33
    go_wp2_with (go_at_call 44; refine hc.out.mono ?_; rintro e w' ⟨rfl, rfl⟩)
    go_ret2
    exact ⟨rfl, Below.refl _ _⟩
  · rw [hq] at hc
    replace hc := Lib.hid hc
    have h12 := W.isSet_len ss hq
    have hin := fun W => spec_l1In n 0 20 W
    by_cases hr : 0 ≤ n ∧ n ≤ 20
    · rw [decide_eq_true hr] at hin
      replace hin := Lib.hid hin
      have hok : cmOk ss n = true := by unfold cmOk inR; rw [hq, decide_eq_true hr]; rfl
      rw [cmOf_yes hok, hok]
      obtain ⟨m, rfl⟩ := Int.eq_ofNat_of_zero_le hr.1
      have hm20 : m ≤ 20 := by omega
      rw [Int.toNat_natCast]
      have Hset := Lib.hid hq
      have Hrow := Lib.hid h
      obtain ⟨i1, hi', hz0', hz1', hz2'⟩ := info_parts infoInt
      have HI := Lib.hid (And.intro hi' (And.intro hz0' (And.intro hz1' hz2')))
      clear h hs hq hok hr hi' hz0' hz1' hz2'
      go_enter Tryd.func33, Tryd.ntmps33
      go_wp2_with (first | (go_at_call 44; refine hc.out.mono ?_; rintro e w' ⟨rfl, rfl⟩) | (go_at_call 48; refine (hin.out _).mono ?_; rintro e w' ⟨rfl, rfl⟩))
      have hst := Lib.hid (nums_start w w.heap.size ss (Nat.le_refl _))
      go_loopw [6, 7] (fun v kv wr => ∃ j : Nat, j ≤ m ∧ kv = .int .i64 ((j : Int) + 1) ∧ wr.ownsRow w.heap.size 3 1 v (j + 1) (nums ss j) ∧ Below w.heap.size w wr) (fun _ kv _ => (m + 2 - (intOf kv).toNat))
      case atStart => exact ⟨0, Nat.zero_le _, rfl, hst.out, (Below.refl _ _).alloc (Nat.le_refl _) _⟩
      case round =>
        clear hst 
        obtain ⟨j, hj, rfl, ho, hB⟩ := hrel
        obtain ⟨Av, cv, rfl⟩ := own_slice ho
        have hO := Lib.hid (And.intro ho hB)
        have hsz := hB.size
        clear ho hB
        by_cases hlt : j < m
        · have hlt' : (j : Int) + 1 ≤ (m : Int) := by omega
          have hj20 : (j : Int) < 20 := by omega
          have Hbd := Lib.hid (fun k => W.csum_bound Hset.out j (by omega) k)
          have Hsu := Lib.hid (fun k hk => W.csum_succ (W.cms ss j) (j + 1) ss k hk)
          obtain ⟨gv, rfl, _, _⟩ := own_form hO.out.1 (by omega)
          go_wp2_with fail
          go_loop [8, 27] (fun sv i => ∃ k : Nat, k ≤ ss.length ∧ i = .int .i64 k ∧ sv = .int .i64 ((W.csum (W.cms ss j) (j + 1) (ss.take k) : Nat) : Int)) (fun _ i => ss.length - (intOf i).toNat)
          case atStart => exact ⟨0, Nat.zero_le _, rfl, rfl⟩
          case round =>
            obtain ⟨k, hk, rfl, rfl⟩ := hrel
            by_cases hlk : k < ss.length
            · obtain ⟨b, off, rfl, hb, hcc⟩ := Hrow.out (by rw [strs_length]; omega)
              have hlk' : (k : Int) < (ss.length : Int) := by omega
              have c1 := (hO.out.2.cell (p := ⟨b, off + k, none⟩) hb).trans (hcc k _ (strs_nth ss k hlk))
              clear hcc
              have Hs := Lib.hid (Hsu.out k hlk)
              have Hb0 := Hbd.out k
              have Hb1 := Hbd.out (k + 1)
              rw [Hs.out] at Hb1
              have hsz8 := (W.short_size _ (W.isSet_short ss Hset.out k hlk)).2
              have hpos := W.set_pos Hset.out k hlk
              generalize W.nth ss k = t at c1 Hs Hb1 hsz8 hpos
              by_cases hts : t.size ≤ j + 1
              · have Hw := Lib.hid (W.cadd_yes (T := W.cms ss j) hts)
                have c2 := nums_at hO.out.1 (j + 1 - t.size) (by omega)
                rw [Hw.out] at Hs Hb1
                clear Hw
                generalize (W.cms ss j).getD (j + 1 - t.size) 0 = y at c2 Hs Hb1
                have hsub : ((j : Int) + 1 - (t.size : Int)) = ((j + 1 - t.size : Nat) : Int) := by omega
                have hts' : (t.size : Int) ≤ (j : Int) + 1 := by omega
                have hn2 : (j : Int) + 1 - (t.size : Int) < (j : Int) + 1 := by omega
                generalize W.csum (W.cms ss j) (j + 1) (ss.take k) = x at *
                replace hsub := Lib.hid hsub
                go_wp2
                go_round
                case rel => exact ⟨k + 1, by omega, by go_num, by rw [Hs.out]; go_num⟩
                case measure => simp [intOf]; omega
              · have Hw := Lib.hid (W.cadd_no (T := W.cms ss j) hts)
                have hts' : ¬ ((t.size : Int) ≤ (j : Int) + 1) := by omega
                go_wp2
                go_round
                case rel => exact ⟨k + 1, by omega, by go_num, by rw [Hs.out, Hw.out]; rfl⟩
                case measure => simp [intOf]; omega
            · obtain rfl : k = ss.length := by omega
              rw [List.take_length]
              have Hsc := Lib.hid (nums_succ ss j)
              have Hb2 := Hbd.out ss.length
              rw [List.take_length] at Hb2
              generalize W.csum (W.cms ss j) (j + 1) ss = x at Hsc Hb2
              go_wp2_with (at_builtin; refine wpList_append_own _ rfl _ _ 31 rfl w.heap.size 3 i1 (.int .i64 0) 1 8 Tryd.underlying31 HI.out.1 HI.out.2.1 HI.out.2.2.1 HI.out.2.2.2 rfl (by decide) _ _ _ rfl (hO.out.1.alloc _) ⟨wr.heap.size, 0, none⟩ 1 1 [.int .i64 (x : Int)] rfl rfl (cell_one_new _ _ _) (one_cell _) (by unfold maxLen; omega) (by omega) (by simp; omega) ?_)
              intro v' w2 hown' hgrow _
              have hlt1 := hO.out.1.lt
              have hF := Lib.hid (And.intro hown' ((hO.out.2.alloc hsz _).grown hgrow (by simp; omega) (fun g hg => (hlt1 g hg).1)))
              clear hown' hgrow hlt1
              go_wp2
              go_roundw
              case rel => exact ⟨j + 1, by omega, by go_num, by rw [Hsc.out]; exact hF.out.1, hF.out.2⟩
              case measure => simp [intOf]; omega
        · obtain rfl : j = m := by omega
          obtain ⟨gv, rfl, _, _⟩ := own_form hO.out.1 (by omega)
          have c2 := nums_at hO.out.1 j (by omega)
          have hlt' : ¬ ((j : Int) + 1 ≤ (j : Int)) := by omega
          have hjj : (j : Int) < (j : Int) + 1 := by omega
          go_wp2
          go_ret2
          exact ⟨rfl, hO.out.2⟩
    · rw [decide_eq_false hr] at hin
      replace hin := Lib.hid hin
      have hno : cmOk ss n = false := by unfold cmOk inR; rw [decide_eq_false hr]; simp
      rw [cmOf_no hno, hno]
      clear h hs hq hno hr
      go_enter Tryd.func33, Tryd.ntmps33
      go_wp2_with (first | (go_at_call 44; refine hc.out.mono ?_; rintro e w' ⟨rfl, rfl⟩) | (go_at_call 48; refine (hin.out _).mono ?_; rintro e w' ⟨rfl, rfl⟩))
      go_ret2
      exact ⟨rfl, Below.refl _ _⟩

set_option maxHeartbeats 1600000 in
theorem impl_CountMessages (A : Option Addr) (ss : List ByteArray) (c : Nat) (n : Int) (w : World) (h : Row w w.heap.size A (strs ss)) (hl : ss.length ≤ 9223372036854775807) (hs : ∀ s ∈ ss, s.size ≤ 9223372036854775807) (hna : -9223372036854775808 ≤ n) (hnb : n ≤ 9223372036854775807) :
    Calls Tryd.prog 34 #[.slice A ss.length c, .int .i64 n] w fun e w' => e = .returned (.tuple #[.int .i64 ((cmOf ss n : Nat) : Int), .bool (cmOk ss n)]) ∧ Below w.heap.size w w' := by
  have hc := impl_IsSet A ss c w h hl hs
  cases hq : W.isSet ss
  · have hno : cmOk ss n = false := by unfold cmOk; rw [hq]; rfl
    rw [cmOf_no hno, hno]
    rw [hq] at hc
    replace hc := Lib.hid hc
    clear h hs hq hno
    go_enter Tryd.func34, Tryd.ntmps34
    go_wp2_with (go_at_call 37; refine hc.out.mono ?_; rintro e w1 ⟨rfl, hB1⟩)
    go_ret2
    exact ⟨rfl, hB1⟩
  · rw [hq] at hc
    replace hc := Lib.hid hc
    have h12 := W.isSet_len ss hq
    by_cases hr : 0 ≤ n ∧ n ≤ 20
    · obtain ⟨hr0, hr1⟩ := hr
      have hr : 0 ≤ n ∧ n ≤ 20 := ⟨hr0, hr1⟩
      have hok : cmOk ss n = true := by unfold cmOk inR; rw [hq, decide_eq_true hr]; rfl
      rw [cmOf_yes hok, hok]
      obtain ⟨m, rfl⟩ := Int.eq_ofNat_of_zero_le hr.1
      have hm20 : m ≤ 20 := by omega
      rw [Int.toNat_natCast]
      have Hset := Lib.hid hq
      have Hrow := Lib.hid h
      obtain ⟨i1, hi', hz0', hz1', hz2'⟩ := info_parts infoInt
      have HI := Lib.hid (And.intro hi' (And.intro hz0' (And.intro hz1' hz2')))
      clear h hs hq hok hr hi' hz0' hz1' hz2'
      go_enter Tryd.func34, Tryd.ntmps34
      go_wp2_with (go_at_call 37; refine hc.out.mono ?_; rintro e w1 ⟨rfl, hB1⟩)
      replace hB1 := Lib.hid hB1
      have hst := Lib.hid (nums_start w1 w.heap.size ss hB1.out.size)
      go_loopw [6, 7] (fun v kv wr => ∃ j : Nat, j ≤ m ∧ kv = .int .i64 ((j : Int) + 1) ∧ wr.ownsRow w.heap.size 3 1 v (j + 1) (nums ss j) ∧ Below w.heap.size w wr) (fun _ kv _ => (m + 2 - (intOf kv).toNat))
      case atStart => exact ⟨0, Nat.zero_le _, rfl, hst.out, hB1.out.alloc (hB1.out.size) _⟩
      case round =>
        clear hst hB1
        obtain ⟨j, hj, rfl, ho, hB⟩ := hrel
        obtain ⟨Av, cv, rfl⟩ := own_slice ho
        have hO := Lib.hid (And.intro ho hB)
        have hsz := hB.size
        clear ho hB
        by_cases hlt : j < m
        · have hlt' : (j : Int) + 1 ≤ (m : Int) := by omega
          have hj20 : (j : Int) < 20 := by omega
          have Hbd := Lib.hid (fun k => W.csum_bound Hset.out j (by omega) k)
          have Hsu := Lib.hid (fun k hk => W.csum_succ (W.cms ss j) (j + 1) ss k hk)
          obtain ⟨gv, rfl, _, _⟩ := own_form hO.out.1 (by omega)
          go_wp2_with fail
          go_loop [8, 30] (fun sv i => ∃ k : Nat, k ≤ ss.length ∧ i = .int .i64 k ∧ sv = .int .i64 ((W.csum (W.cms ss j) (j + 1) (ss.take k) : Nat) : Int)) (fun _ i => ss.length - (intOf i).toNat)
          case atStart => exact ⟨0, Nat.zero_le _, rfl, rfl⟩
          case round =>
            obtain ⟨k, hk, rfl, rfl⟩ := hrel
            by_cases hlk : k < ss.length
            · obtain ⟨b, off, rfl, hb, hcc⟩ := Hrow.out (by rw [strs_length]; omega)
              have hlk' : (k : Int) < (ss.length : Int) := by omega
              have c1 := (hO.out.2.cell (p := ⟨b, off + k, none⟩) hb).trans (hcc k _ (strs_nth ss k hlk))
              clear hcc
              have Hs := Lib.hid (Hsu.out k hlk)
              have Hb0 := Hbd.out k
              have Hb1 := Hbd.out (k + 1)
              rw [Hs.out] at Hb1
              have hsz8 := (W.short_size _ (W.isSet_short ss Hset.out k hlk)).2
              have hpos := W.set_pos Hset.out k hlk
              generalize W.nth ss k = t at c1 Hs Hb1 hsz8 hpos
              by_cases hts : t.size ≤ j + 1
              · have Hw := Lib.hid (W.cadd_yes (T := W.cms ss j) hts)
                have c2 := nums_at hO.out.1 (j + 1 - t.size) (by omega)
                rw [Hw.out] at Hs Hb1
                clear Hw
                generalize (W.cms ss j).getD (j + 1 - t.size) 0 = y at c2 Hs Hb1
                have hsub : ((j : Int) + 1 - (t.size : Int)) = ((j + 1 - t.size : Nat) : Int) := by omega
                have hts' : (t.size : Int) ≤ (j : Int) + 1 := by omega
                have hn2 : (j : Int) + 1 - (t.size : Int) < (j : Int) + 1 := by omega
                generalize W.csum (W.cms ss j) (j + 1) (ss.take k) = x at *
                replace hsub := Lib.hid hsub
                go_wp2
                go_round
                case rel => exact ⟨k + 1, by omega, by go_num, by rw [Hs.out]; go_num⟩
                case measure => simp [intOf]; omega
              · have Hw := Lib.hid (W.cadd_no (T := W.cms ss j) hts)
                have hts' : ¬ ((t.size : Int) ≤ (j : Int) + 1) := by omega
                go_wp2
                go_round
                case rel => exact ⟨k + 1, by omega, by go_num, by rw [Hs.out, Hw.out]; rfl⟩
                case measure => simp [intOf]; omega
            · obtain rfl : k = ss.length := by omega
              rw [List.take_length]
              have Hsc := Lib.hid (nums_succ ss j)
              have Hb2 := Hbd.out ss.length
              rw [List.take_length] at Hb2
              generalize W.csum (W.cms ss j) (j + 1) ss = x at Hsc Hb2
              go_wp2_with (at_builtin; refine wpList_append_own _ rfl _ _ 31 rfl w.heap.size 3 i1 (.int .i64 0) 1 8 Tryd.underlying31 HI.out.1 HI.out.2.1 HI.out.2.2.1 HI.out.2.2.2 rfl (by decide) _ _ _ rfl (hO.out.1.alloc _) ⟨wr.heap.size, 0, none⟩ 1 1 [.int .i64 (x : Int)] rfl rfl (cell_one_new _ _ _) (one_cell _) (by unfold maxLen; omega) (by omega) (by simp; omega) ?_)
              intro v' w2 hown' hgrow _
              have hlt1 := hO.out.1.lt
              have hF := Lib.hid (And.intro hown' ((hO.out.2.alloc hsz _).grown hgrow (by simp; omega) (fun g hg => (hlt1 g hg).1)))
              clear hown' hgrow hlt1
              go_wp2
              go_roundw
              case rel => exact ⟨j + 1, by omega, by go_num, by rw [Hsc.out]; exact hF.out.1, hF.out.2⟩
              case measure => simp [intOf]; omega
        · obtain rfl : j = m := by omega
          obtain ⟨gv, rfl, _, _⟩ := own_form hO.out.1 (by omega)
          have c2 := nums_at hO.out.1 j (by omega)
          have hlt' : ¬ ((j : Int) + 1 ≤ (j : Int)) := by omega
          have hjj : (j : Int) < (j : Int) + 1 := by omega
          go_wp2
          go_ret2
          exact ⟨rfl, hO.out.2⟩
    · have hno : cmOk ss n = false := by unfold cmOk inR; rw [decide_eq_false hr]; simp
      rw [cmOf_no hno, hno]
      clear h hs hq hno
      by_cases hn0 : n < 0
      · clear hr
        go_enter Tryd.func34, Tryd.ntmps34
        go_wp2_with (go_at_call 37; refine hc.out.mono ?_; rintro e w1 ⟨rfl, hB1⟩)
        go_ret2
        exact ⟨rfl, hB1⟩
      · have hn1 : 20 < n := by omega
        have hn2 : 0 ≤ n := by omega
        clear hr hn0
        go_enter Tryd.func34, Tryd.ntmps34
        go_wp2_with (go_at_call 37; refine hc.out.mono ?_; rintro e w1 ⟨rfl, hB1⟩)
        go_ret2
        exact ⟨rfl, hB1⟩

end Go.Proofs.YtaeligamgpikkaaDoor
