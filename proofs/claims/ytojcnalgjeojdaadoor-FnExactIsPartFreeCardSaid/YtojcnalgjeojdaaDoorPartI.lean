/-
  WHAT THIS FILE PROVES: whether no word of a set is within another one: the program's function, which asks by closures, tells it; asked: a slice of texts in memory, lengths that an int holds, the library's variable in memory.
-/
import Derived.Test.YtojcnalgjeojdaaDoorPart
import Derived.Test.YtojcnalgjeojdaaDoorIdx
import Derived.Test.YtojcnalgjeojdaaDoorShelf
namespace Go.Proofs.YtojcnalgjeojdaaDoor
open Go.RowKit Go.Shelf

theorem part_box (s : ByteArray) (bx : Nat) (t : ByteArray) (m : Int) (w : World) (hx : w.cell? ⟨bx, 0, none⟩ = some (.string s)) (hm : w.cell? ⟨0, 0, none⟩ = some (.int .i64 m)) (hs : s.size ≤ 8) :
    Calls Tryd.prog 44 #[.string t, .pointer (some ⟨bx, 0, none⟩)] w fun e w' => e = .returned (.bool (partOf s t)) ∧ Below w.heap.size w w' := by
  have hc := Tryd.strings_Contains s t m w (by omega) hm
  unfold partOf
  rw [show Lib.contains s.data.toList t.data.toList = wth s t from rfl] at hc
  generalize wth s t = r at hc ⊢
  replace hc := Lib.hid hc
  by_cases he : s = t
  · have hb : (s.toList == t.toList) = true := by rw [toList_eqQ]; exact decide_eq_true he
    rw [decide_eq_false (by simpa using he), Bool.false_and]
    clear he hm
    go_enter Tryd.func44, Tryd.ntmps44
    go_wp2_with fail
    go_ret
    exact ⟨rfl, Below.refl _ _⟩
  · have hb : (s.toList == t.toList) = false := by rw [toList_eqQ]; exact decide_eq_false he
    rw [decide_eq_true (by simpa using he), Bool.true_and]
    clear he hm
    go_enter Tryd.func44, Tryd.ntmps44
    go_wp2_with fail
    refine hc.out.mono ?_
    rintro e w' ⟨rfl, rfl⟩
    go_wp2_with fail
    go_ret
    exact ⟨rfl, Below.refl _ _⟩
theorem hasPt_box (s : ByteArray) (bx : Nat) (A : Option Addr) (ss : List ByteArray) (c : Nat) (m : Int) (w : World) (h : Row w w.heap.size A (strs ss)) (hl : ss.length ≤ 262144) (hx : w.cell? ⟨bx, 0, none⟩ = some (.slice A ss.length c)) (hm : w.cell? ⟨0, 0, none⟩ = some (.int .i64 m)) (hs : s.size ≤ 8) :
    Calls Tryd.prog 42 #[.string s, .pointer (some ⟨bx, 0, none⟩)] w fun e w' => e = .returned (.bool (hasPt ss s)) ∧ Below w.heap.size w w' := by
  have hB : Below w.heap.size w (w.alloc (.cells #[.string s] 9)) := (Below.refl _ _).alloc (Nat.le_refl _) _
  have hs0 : (w.alloc (.cells #[.string s] 9)).cell? ⟨w.heap.size, 0, none⟩ = some (.string s) := by rw [World.cell?_alloc_at _ _ _ _ rfl]; rfl
  have hxl := World.block_lt_of_cell? _ _ hx
  have hml := World.block_lt_of_cell? _ _ hm
  have ht : Tells 44 #[.pointer (some ⟨w.heap.size, 0, none⟩)] (partOf s) ss (w.alloc (.cells #[.string s] 9)) := fun k u hk hBu =>
    part_box s w.heap.size (W.nth ss k) m u ((hBu.cell (p := ⟨w.heap.size, 0, none⟩) (World.block_lt_of_cell? _ _ hs0)).trans hs0)
      ((hBu.cell (p := ⟨0, 0, none⟩) (Nat.lt_of_lt_of_le hml hB.size)).trans ((hB.cell (p := ⟨0, 0, none⟩) hml).trans hm)) hs
  have hq := Lib.hid (contains_func 44 #[.pointer (some ⟨w.heap.size, 0, none⟩)] (enters_of Tryd.func44 (by kernel_rfl) rfl) (partOf s) A ss c _ ((h.below hB).more hB.size) hl ht)
  have hx2 := (hB.cell (p := ⟨bx, 0, none⟩) hxl).trans hx
  unfold hasPt
  generalize ss.any (partOf s) = r at hq ⊢
  replace hB := Lib.hid hB
  clear ht hm hs0 hx h
  go_enter Tryd.func42, Tryd.ntmps42
  go_wp2_with fail
  refine hq.out.mono ?_
  rintro e w' ⟨rfl, hB2⟩
  have hB3 := Lib.hid (hB.out.trans (hB2.mono hB.out.size))
  clear hB2 hx2
  go_wp2_with fail
  go_ret
  exact ⟨rfl, hB3.out⟩

set_option maxHeartbeats 1600000 in
theorem impl_IsPartFree (m : Int) (A : Option Addr) (ss : List ByteArray) (c : Nat) (w : World) (hm : Row w w.heap.size (some ⟨0, 0, none⟩) [.int .i64 m]) (h : Row w w.heap.size A (strs ss)) (hl : ss.length ≤ 9223372036854775807) (hs : ∀ s ∈ ss, s.size ≤ 9223372036854775807) :
    Calls Tryd.prog 19 #[.slice A ss.length c] w fun e w' => e = .returned (.tuple #[.bool (pfOf ss), .bool (W.isSet ss)]) ∧ Below w.heap.size w w' := by
  have hBU : Below w.heap.size w (w.alloc (.cells #[.slice A ss.length c] 22)) := (Below.refl _ _).alloc (Nat.le_refl _) _
  have hx0 : (w.alloc (.cells #[.slice A ss.length c] 22)).cell? ⟨w.heap.size, 0, none⟩ = some (.slice A ss.length c) := by rw [World.cell?_alloc_at _ _ _ _ rfl]; rfl
  obtain ⟨b, off, he, _, hcm⟩ := hm (by simp)
  injection he with he
  injection he with e1 e2
  subst e1
  subst e2
  have hcell : w.cell? ⟨0, 0, none⟩ = some (.int .i64 m) := hcm 0 _ rfl
  have hml := World.block_lt_of_cell? _ _ hcell
  have hI := impl_IsSet A ss c (w.alloc (.cells #[.slice A ss.length c] 22)) ((h.below hBU).more hBU.size) hl hs
  unfold pfOf
  cases hq : W.isSet ss
  · rw [hq] at hI
    replace hI := Lib.hid hI
    rw [Bool.false_and]
    replace hBU := Lib.hid hBU
    clear h hs hq hx0 hcell hcm hm
    go_enter Tryd.func19, Tryd.ntmps19
    go_wp2_with fail
    refine hI.out.mono ?_
    rintro e w1 ⟨rfl, hB⟩
    have hB2 := Lib.hid (hBU.out.trans (hB.mono hBU.out.size))
    clear hB
    go_wp2_with fail
    go_ret2
    exact ⟨rfl, hB2.out⟩
  · rw [hq] at hI
    replace hI := Lib.hid hI
    rw [Bool.true_and]
    have h12 := W.isSet_len ss hq
    have ht := fun (u : World) (hBu : Below w.heap.size w u) (hxu : u.cell? ⟨w.heap.size, 0, none⟩ = some (.slice A ss.length c)) => show Tells 42 #[.pointer (some ⟨w.heap.size, 0, none⟩)] (hasPt ss) ss u from fun k v hk hBv =>
      hasPt_box (W.nth ss k) w.heap.size A ss c m v ((h.below (hBu.trans (hBv.mono hBu.size))).more (hBu.trans (hBv.mono hBu.size)).size) (by omega) ((hBv.cell (p := ⟨w.heap.size, 0, none⟩) (World.block_lt_of_cell? _ _ hxu)).trans hxu)
        (((hBu.trans (hBv.mono hBu.size)).cell (p := ⟨0, 0, none⟩) hml).trans hcell) (W.short_size _ (W.isSet_short ss hq k hk)).2
    have hcf := Lib.hid (fun (u : World) (hBu : Below w.heap.size w u) (hxu : u.cell? ⟨w.heap.size, 0, none⟩ = some (.slice A ss.length c)) => contains_func 42 #[.pointer (some ⟨w.heap.size, 0, none⟩)] (enters_of Tryd.func42 (by kernel_rfl) rfl) (hasPt ss) A ss c u ((h.below hBu).more hBu.size) (by omega) (ht u hBu hxu))
    have hP := Lib.hid (pt_any hq)
    generalize ptB ss = r at hP ⊢
    replace hBU := Lib.hid hBU
    clear h hs hq ht hcell hcm hm
    go_enter Tryd.func19, Tryd.ntmps19
    go_wp2_with fail
    generalize (w.alloc (.cells #[.slice A ss.length c] 22)) = u at hBU hx0 hI ⊢
    refine hI.out.mono ?_
    rintro e w1 ⟨rfl, hB⟩
    have hx1 := (hB.cell (p := ⟨w.heap.size, 0, none⟩) (World.block_lt_of_cell? _ _ hx0)).trans hx0
    have hB2 := Lib.hid (hBU.out.trans (hB.mono hBU.out.size))
    have hcf1 := Lib.hid (hcf.out w1 hB2.out hx1)
    clear hB hx0
    generalize ss.any (hasPt ss) = q at hcf1 hP
    have hP2 := Lib.hid hP.out
    go_wp2_with fail
    refine hcf1.out.mono ?_
    rintro e w2 ⟨rfl, hB⟩
    have hB3 := Lib.hid (hB2.out.trans (hB.mono hB2.out.size))
    clear hB hx1
    go_wp2_with fail
    go_ret2
    exact ⟨by rw [← hP2.out]; rfl, hB3.out⟩
end Go.Proofs.YtojcnalgjeojdaaDoor
