/-
  WHAT THIS FILE PROVES: words behind a word of a prefix set: the program's function gives the plain one's set; asked: slices of texts in memory, lengths that an int holds and no more than the capacities.
-/
import Derived.Test.YtojcnalgjeojdaaDoorPb
import Derived.Test.YtojcnalgjeojdaaDoorLof
import Derived.Test.YtojcnalgjeojdaaDoorWith
import Derived.Test.YtojcnalgjeojdaaDoorJoin
import Derived.Test.YtojcnalgjeojdaaDoorIsPfx
namespace Go.Proofs.YtojcnalgjeojdaaDoor
open Go.RowKit Go.Shelf

theorem impl_behind (s : ByteArray) (bx by' : Nat) (A : Option Addr) (ss : List ByteArray) (c m : Nat) (w : World) (h : Row w w.heap.size A (strs ss)) (hm : m < ss.length) (hx : w.cell? ⟨bx, 0, none⟩ = some (.slice A ss.length c)) (hy : w.cell? ⟨by', 0, none⟩ = some (.int .i64 m))
    (hs : s.size ≤ 8) (ht : (W.nth ss m).size ≤ 8) :
    Calls Tryd.prog 52 #[.string s, .pointer (some ⟨bx, 0, none⟩), .pointer (some ⟨by', 0, none⟩)] w fun e w' => e = .returned (.string (W.nth ss m ++ s)) ∧ Below w.heap.size w w' := by
  obtain ⟨b, off, rfl, hb, hcc⟩ := h (by rw [strs_length]; omega)
  have hm' : (m : Int) < (ss.length : Int) := by omega
  have c1 := hcc m _ (strs_nth ss m hm)
  clear hcc
  generalize W.nth ss m = t at c1 ht ⊢
  have h1 : (t.size : Int) ≤ 8388608 := by omega
  have h2 : (s.size : Int) ≤ 8388608 := by omega
  go_enter Tryd.func52, Tryd.ntmps52
  go_wp2
  go_ret
  exact ⟨rfl, Below.refl _ _⟩

set_option maxHeartbeats 6400000 in
theorem impl_PutBehind (A : Option Addr) (ss : List ByteArray) (c : Nat) (n : Int) (A' : Option Addr) (os : List ByteArray) (c' : Nat) (w : World) (h : Row w w.heap.size A (strs ss)) (hcap : ss.length ≤ c) (hl : ss.length ≤ 9223372036854775807) (hs : ∀ s ∈ ss, s.size ≤ 9223372036854775807) (hna : -9223372036854775808 ≤ n) (hnb : n ≤ 9223372036854775807)
    (h' : Row w w.heap.size A' (strs os)) (_hcap' : os.length ≤ c') (hl' : os.length ≤ 9223372036854775807) (hs' : ∀ s ∈ os, s.size ≤ 9223372036854775807) :
    Calls Tryd.prog 21 #[.slice A ss.length c, .int .i64 n, .slice A' os.length c'] w (OkStrs w (pbOf ss n os) (pbOk ss n os)) := by
  have hBU : Below w.heap.size w ((w.alloc (.cells #[.slice A ss.length c] 22)).alloc (.cells #[.int .i64 n] 3)) := ((Below.refl _ _).alloc (Nat.le_refl _) _).alloc (by simp) _
  have hx0 : ((w.alloc (.cells #[.slice A ss.length c] 22)).alloc (.cells #[.int .i64 n] 3)).cell? ⟨w.heap.size, 0, none⟩ = some (.slice A ss.length c) := by
    rw [World.cell?_alloc_lt _ _ _ (by simp), World.cell?_alloc_at _ _ _ _ rfl]
    rfl
  have hy0 : ((w.alloc (.cells #[.slice A ss.length c] 22)).alloc (.cells #[.int .i64 n] 3)).cell? ⟨w.heap.size + 1, 0, none⟩ = some (.int .i64 n) := by
    rw [World.cell?_alloc_at _ _ _ _ (by simp)]
    rfl
  have hW := fun (u : World) (hB : Below w.heap.size w u) => impl_WithoutWord A ss c n u ((h.below hB).more hB.size) hcap hl hs hna hnb
  have hI := fun (u : World) (hB : Below w.heap.size w u) => impl_IsSet A' os c' u ((h'.below hB).more hB.size) hl' hs'
  cases hok : withOk ss n
  · obtain ⟨e1, e2⟩ := pb_no (show pbAsk ss n os = false by
      unfold withOk at hok
      unfold pbAsk
      cases hq : W.isSet ss
      · rfl
      · rw [hq, Bool.true_and] at hok
        rw [hok]
        simp)
    rw [e1, e2]
    rw [hok] at hW
    have hWu := Lib.hid (hW _ hBU)
    clear e1 e2 hok h h' hs hs' hW hI
    go_enter Tryd.func21, Tryd.ntmps21
    go_wp2_with fail
    generalize ((w.alloc (.cells #[.slice A ss.length c] 22)).alloc (.cells #[.int .i64 n] 3)) = u at hBU hx0 hy0 hWu ⊢
    refine hWu.out.mono ?_
    rintro e w1 ⟨A1, c1, rfl, ho, hB⟩
    replace hB := hBU.trans (hB.mono hBU.size)
    clear hx0 hy0
    go_wp2_with fail
    go_ret2
    exact okStrs_nil _ _ _ hB
  · have hok2 := hok
    unfold withOk at hok2
    rw [Bool.and_eq_true, decide_eq_true_eq] at hok2
    obtain ⟨hq, hn⟩ := hok2
    obtain ⟨m, rfl⟩ := Int.eq_ofNat_of_zero_le hn.1
    have hmn : m < ss.length := by omega
    have hwo : withOf ss m = ss.take m ++ ss.drop (m + 1) := by unfold withOf; rw [hok, if_pos rfl, Int.toNat_natCast]
    rw [hok, hwo] at hW
    have hWu := Lib.hid (hW _ hBU)
    have h12 := W.isSet_len ss hq
    have hkl : (ss.take m ++ ss.drop (m + 1)).length ≤ 12 := by rw [List.length_append, List.length_take, List.length_drop]; omega
    have hks := Lib.hid (fun (u : World) (hB : Below w.heap.size w u) => impl_isPrefixSet A ss c u ((h.below hB).more hB.size) (by omega))
    cases hq' : W.isSet os
    · obtain ⟨e1, e2⟩ := pb_no (n := m) (ss := ss) (show pbAsk ss m os = false by unfold pbAsk; rw [hq']; simp)
      rw [e1, e2]
      rw [hq'] at hI
      replace hI := Lib.hid hI
      clear e1 e2 hok h h' hs hs' hW hq hq' hwo hn
      go_enter Tryd.func21, Tryd.ntmps21
      go_wp2_with fail
      generalize ((w.alloc (.cells #[.slice A ss.length c] 22)).alloc (.cells #[.int .i64 m] 3)) = u at hBU hx0 hy0 hWu ⊢
      refine hWu.out.mono ?_
      rintro e w1 ⟨A1, c1, rfl, ho, hB⟩
      replace hB := hBU.trans (hB.mono hBU.size)
      clear hx0 hy0 ho
      have hI1 := Lib.hid (hI.out _ hB)
      go_wp2_with fail
      refine hI1.out.mono ?_
      rintro e w2 ⟨rfl, hB2⟩
      replace hB2 := hB.trans (hB2.mono hB.size)
      go_wp2_with fail
      go_ret2
      exact okStrs_nil _ _ _ hB2
    · rw [hq'] at hI
      replace hI := Lib.hid hI
      have h12' := W.isSet_len os hq'
      have hko := Lib.hid (fun (u : World) (hB : Below w.heap.size w u) => impl_isPrefixSet A' os c' u ((h'.below hB).more hB.size) (by omega))
      cases hp : pfxB ss
      · obtain ⟨e1, e2⟩ := pb_no (n := m) (os := os) (show pbAsk ss m os = false by unfold pbAsk; rw [hp]; simp)
        rw [e1, e2]
        rw [hp] at hks
        clear e1 e2 hok h h' hs hs' hW hq hq' hwo hn hp hko
        go_enter Tryd.func21, Tryd.ntmps21
        go_wp2_with fail
        generalize ((w.alloc (.cells #[.slice A ss.length c] 22)).alloc (.cells #[.int .i64 m] 3)) = u at hBU hx0 hy0 hWu ⊢
        refine hWu.out.mono ?_
        rintro e w1 ⟨A1, c1, rfl, ho, hB1⟩
        have hB := hBU.trans (hB1.mono hBU.size)
        have hxl := World.block_lt_of_cell? _ _ hx0
        replace hx0 := (hB1.cell (p := ⟨w.heap.size, 0, none⟩) hxl).trans hx0
        clear hy0 ho hB1
        have hI1 := Lib.hid (hI.out _ hB)
        go_wp2_with fail
        refine hI1.out.mono ?_
        rintro e w2 ⟨rfl, hB2⟩
        replace hx0 := (hB2.cell (p := ⟨w.heap.size, 0, none⟩) (World.block_lt_of_cell? _ _ hx0)).trans hx0
        replace hB2 := hB.trans (hB2.mono hB.size)
        have hk1 := Lib.hid (hks.out _ hB2)
        go_wp2_with fail
        refine hk1.out.mono ?_
        rintro e w3 ⟨rfl, hB3⟩
        replace hB3 := hB2.trans (hB3.mono hB2.size)
        clear hx0
        go_wp2_with fail
        go_ret2
        exact okStrs_nil _ _ _ hB3
      · cases hp' : pfxB os
        · obtain ⟨e1, e2⟩ := pb_no (n := m) (ss := ss) (show pbAsk ss m os = false by unfold pbAsk; rw [hp']; simp)
          rw [e1, e2]
          rw [hp] at hks
          rw [hp'] at hko
          clear e1 e2 hok h h' hs hs' hW hq hq' hwo hn hp hp'
          go_enter Tryd.func21, Tryd.ntmps21
          go_wp2_with fail
          generalize ((w.alloc (.cells #[.slice A ss.length c] 22)).alloc (.cells #[.int .i64 m] 3)) = u at hBU hx0 hy0 hWu ⊢
          refine hWu.out.mono ?_
          rintro e w1 ⟨A1, c1, rfl, ho, hB1⟩
          have hB := hBU.trans (hB1.mono hBU.size)
          have hxl := World.block_lt_of_cell? _ _ hx0
          replace hx0 := (hB1.cell (p := ⟨w.heap.size, 0, none⟩) hxl).trans hx0
          clear hy0 ho hB1
          have hI1 := Lib.hid (hI.out _ hB)
          go_wp2_with fail
          refine hI1.out.mono ?_
          rintro e w2 ⟨rfl, hB2⟩
          replace hx0 := (hB2.cell (p := ⟨w.heap.size, 0, none⟩) (World.block_lt_of_cell? _ _ hx0)).trans hx0
          replace hB2 := hB.trans (hB2.mono hB.size)
          have hk1 := Lib.hid (hks.out _ hB2)
          go_wp2_with fail
          refine hk1.out.mono ?_
          rintro e w3 ⟨rfl, hB3⟩
          replace hB3 := hB2.trans (hB3.mono hB2.size)
          clear hx0
          have hk2 := Lib.hid (hko.out _ hB3)
          go_wp2_with fail
          refine hk2.out.mono ?_
          rintro e w4 ⟨rfl, hB4⟩
          replace hB4 := hB3.trans (hB4.mono hB3.size)
          go_wp2_with fail
          go_ret2
          exact okStrs_nil _ _ _ hB4
        · obtain ⟨e1, e2⟩ := pb_yes (show pbAsk ss m os = true by unfold pbAsk; rw [hq, hq', hp, hp', decide_eq_true hn]; rfl)
          rw [e1, e2, Int.toNat_natCast]
          rw [hp] at hks
          rw [hp'] at hko
          have hLl : (pbL ss m os).length ≤ 24 := by unfold pbL; rw [List.length_append, bef_length]; omega
          obtain ⟨q1, q2⟩ := so_an (ss := pbL ss m os) (by omega)
          rw [← q1, ← q2]
          have HLs := Lib.hid (show ∀ x ∈ pbL ss m os, x.size ≤ 16 from fun x hx => pbTo_size (short_le2 hq) (short_le2 hq') m ss.length (Nat.le_refl _) x ((pb_mem ss m os hmn x).2 hx))
          have Hm8 := Lib.hid (show (W.nth ss m).size ≤ 8 by rw [W.nth_lt ss m hmn]; exact short_le2 hq _ (List.getElem_mem hmn))
          have Ho8 := Lib.hid (short_le2 hq')
          have Hs8 := Lib.hid (short_le2 hq)
          have Hrow := Lib.hid h
          have Hrow' := Lib.hid h'
          clear e1 e2 q1 q2 hok h h' hs hs' hW hq hq' hwo hn hp hp'
          go_enter Tryd.func21, Tryd.ntmps21
          go_wp2_with fail
          generalize ((w.alloc (.cells #[.slice A ss.length c] 22)).alloc (.cells #[.int .i64 m] 3)) = u at hBU hx0 hy0 hWu ⊢
          refine hWu.out.mono ?_
          rintro e w1 ⟨A1, c1, rfl, ho, hB1⟩
          have hB := hBU.trans (hB1.mono hBU.size)
          have ho := own_base ho hBU.size
          have hxl := World.block_lt_of_cell? _ _ hx0
          have hyl := World.block_lt_of_cell? _ _ hy0
          replace hx0 := (hB1.cell (p := ⟨w.heap.size, 0, none⟩) hxl).trans hx0
          replace hy0 := Lib.hid ((hB1.cell (p := ⟨w.heap.size + 1, 0, none⟩) hyl).trans hy0)
          have HK := Lib.hid ho
          generalize hkp : ss.take m ++ ss.drop (m + 1) = kp at hkl HK
          have Hkp := Lib.hid hkp
          clear ho hB1 hxl hyl hkp
          have hI1 := Lib.hid (hI.out _ hB)
          go_wp2_with fail
          refine hI1.out.mono ?_
          rintro e w2 ⟨rfl, hB2⟩
          have HK2 := Lib.hid (own_below HK.out hB2)
          replace hx0 := (hB2.cell (p := ⟨w.heap.size, 0, none⟩) (World.block_lt_of_cell? _ _ hx0)).trans hx0
          replace hy0 := Lib.hid ((hB2.cell (p := ⟨w.heap.size + 1, 0, none⟩) (World.block_lt_of_cell? _ _ hy0.out)).trans hy0.out)
          replace hB2 := hB.trans (hB2.mono hB.size)
          have hk1 := Lib.hid (hks.out _ hB2)
          clear HK
          go_wp2_with fail
          refine hk1.out.mono ?_
          rintro e w3 ⟨rfl, hB3⟩
          have HK3 := Lib.hid (own_below HK2.out hB3)
          replace hx0 := Lib.hid ((hB3.cell (p := ⟨w.heap.size, 0, none⟩) (World.block_lt_of_cell? _ _ hx0)).trans hx0)
          replace hy0 := Lib.hid ((hB3.cell (p := ⟨w.heap.size + 1, 0, none⟩) (World.block_lt_of_cell? _ _ hy0.out)).trans hy0.out)
          replace hB3 := hB2.trans (hB3.mono hB2.size)
          have hk2 := Lib.hid (hko.out _ hB3)
          clear HK2
          go_wp2_with fail
          refine hk2.out.mono ?_
          rintro e w4 ⟨rfl, hB4⟩
          have HK4 := Lib.hid (own_below HK3.out hB4)
          replace hx0 := Lib.hid ((hB4.cell (p := ⟨w.heap.size, 0, none⟩) (World.block_lt_of_cell? _ _ hx0.out)).trans hx0.out)
          replace hy0 := Lib.hid ((hB4.cell (p := ⟨w.heap.size + 1, 0, none⟩) (World.block_lt_of_cell? _ _ hy0.out)).trans hy0.out)
          replace hB4 := hB3.trans (hB4.mono hB3.size)
          clear HK3
          have hmk : Makes 52 #[.pointer (some ⟨w.heap.size, 0, none⟩), .pointer (some ⟨w.heap.size + 1, 0, none⟩)] (fun s => W.nth ss m ++ s) os w4 := fun k v hk hBv => by
            refine impl_behind _ _ _ A ss c m v ((Hrow.out.below (hB4.trans (hBv.mono hB4.size))).more (hB4.trans (hBv.mono hB4.size)).size) hmn ?_ ?_ ?_ Hm8.out
            · exact (hBv.cell (p := ⟨w.heap.size, 0, none⟩) (World.block_lt_of_cell? _ _ hx0.out)).trans hx0.out
            · exact (hBv.cell (p := ⟨w.heap.size + 1, 0, none⟩) (World.block_lt_of_cell? _ _ hy0.out)).trans hy0.out
            · rw [W.nth_lt os k hk]; exact Ho8.out _ (List.getElem_mem hk)
          have hlo := Lib.hid (listOf_func 52 #[.pointer (some ⟨w.heap.size, 0, none⟩), .pointer (some ⟨w.heap.size + 1, 0, none⟩)] (enters_of Tryd.func52 (by kernel_rfl) rfl) (fun s => W.nth ss m ++ s) A' os c' w4 ((Hrow'.out.below hB4).more hB4.size) (by omega) hmk)
          clear hmk
          go_wp2_with fail
          refine hlo.out.mono ?_
          rintro e w5 ⟨A5, c5, rfl, ho5, hB5⟩
          have HK5 := Lib.hid (And.intro (own_below HK4.out hB5) (And.intro ho5 (hB4.trans (hB5.mono hB4.size))))
          have hbl := bef_length (W.nth ss m) os
          have Hb := Lib.hid (show os.map (fun s => W.nth ss m ++ s) = bef (W.nth ss m) os from rfl)
          rw [Hb.out] at HK5 ⊢
          have HL := Lib.hid (show kp ++ bef (W.nth ss m) os = pbL ss m os by rw [← Hkp.out]; rfl)
          generalize bef (W.nth ss m) os = pt at HK5 HL hbl ⊢
          have hcat := concat2_here A1 A5 kp pt c1 c5 w5 w5 _ (.inl rfl) (Below.refl _ _) (Row.of_own HK5.out.1) (Row.of_own HK5.out.2.1) (by omega) (by omega)
          rw [HL.out] at hcat
          replace hbl := Lib.hid hbl
          clear HL
          generalize hLe : pbL ss m os = L at hcat hLl HLs
          replace hLe := Lib.hid hLe
          have hst := fun (A : Option Addr) (c : Nat) (u : World) (hr : Row u u.heap.size A (strs L)) (hs : ∀ s ∈ L, s.size ≤ 9223372036854775807) => impl_SetOf A L c u hr (by omega) hs
          clear ho5 hB5 Hb
          go_wp2_with fail
          refine hcat.mono ?_
          rintro e w6 ⟨A6, c6, rfl, hr6, hB6⟩
          have hst6 := Lib.hid (hst A6 c6 w6 hr6 (fun s hs => by have := HLs.out s hs; omega))
          have hB56 := Lib.hid (HK5.out.2.2.trans (hB6.mono HK5.out.2.2.size))
          clear hcat hst hr6 hB6
          go_wp2_with fail
          refine hst6.out.mono ?_
          rintro e w7 ⟨A7, c7, rfl, ho7, hB7⟩
          have HO7 := Lib.hid (And.intro (own_base ho7 hB56.out.size) (hB56.out.trans (hB7.mono hB56.out.size)))
          clear ho7 hB7
          go_wp2_with fail
          go_ret2
          rw [hLe.out]
          exact okStrs_of HO7.out.1 rfl HO7.out.2
end Go.Proofs.YtojcnalgjeojdaaDoor
