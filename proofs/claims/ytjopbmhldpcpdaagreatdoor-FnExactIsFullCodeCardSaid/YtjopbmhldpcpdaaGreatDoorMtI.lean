/-
  WHAT THIS FILE PROVES: the program's search for the first word with which two readings end together, one of them ahead by given ends, finds it, whatever the order in which its map is ranged over; asked: a slice of texts in memory that is a set, a map of the call's own.
-/
import Derived.Test.YtjopbmhldpcpdaaGreatDoorDouble
import Derived.Test.YtjopbmhldpcpdaaGreatDoorHas
import Derived.Deep.LoopGhost
namespace Go.Proofs.YtjopbmhldpcpdaaGreatDoor.Mt
open Go.RowKit Go.ChangeMaps Go.Maps Go.Shelf
open W (le)

def FDx (ss : List ByteArray) (I : ByteArray → List UInt8 → Prop) (x : ByteArray) (ok : Bool) : Prop := FD ss I (cond ok (some x.data.toList) none)
def GivesFirst (w0 : World) (ss : List ByteArray) (I : ByteArray → List UInt8 → Prop) (e : Ending) (w' : World) : Prop :=
  ∃ (x : ByteArray) (ok : Bool), e = .returned (.tuple #[.string x, .bool ok]) ∧ FDx ss I x ok ∧ x.size ≤ 1000 ∧ Below w0.heap.size w0 w'

set_option maxHeartbeats 6400000 in
theorem impl_firstMeeting (A : Option Addr) (ss : List ByteArray) (c : Nat) (w0 w : World) (h : Row w0 w0.heap.size A (strs ss)) (hset : W.isSet ss = true) (hB0 : Below w0.heap.size w0 w)
    (bo : Nat) (g0 : ByteArray → Option ByteArray) (I : ByteArray → List UInt8 → Prop) (ES : List ByteArray) (hE : Ends ss I ES) (hbo : w0.heap.size ≤ bo) (hO0 : OpenAt w bo 4096 g0) (hD0 : DSt ss I [] (fun _ => none) g0 (fun _ => false)) :
    Calls Tryz.prog 36 #[.slice A ss.length c, .map (some bo)] w (GivesFirst w0 ss I) := by
  have h12 := W.isSet_len ss hset
  replace h := Lib.hid h
  have Hset := Lib.hid hset
  have HE := Lib.hid hE
  have hmm := @run_makeMap Tryz.prog
  have hw1 : w0.heap.size ≤ w.heap.size := hB0.size
  have hbo2 := hO0.lt
  have H1 := Lib.hid (And.intro hO0 (And.intro hD0 hB0))
  clear hset hE hO0 hD0 hB0
  go_enter Tryz.func36, Tryz.ntmps36
  go_wp2_with fail
  go_loopg [15] 93 (fun gk _ wr => ∃ (fs : List ByteArray) (f : ByteArray → Option (List UInt8)) (g : ByteArray → Option ByteArray) (F : List UInt8 → Bool), Hid (fs.length + gk = 93) ∧ DSt ss I fs f g F ∧ OpenAt wr bo (4096 + 24 * fs.length) g ∧ SeenAt wr w.heap.size fs.length F ∧ Below w0.heap.size w0 wr)
  case atStart => exact ⟨[], fun _ => none, g0, fun _ => false, rfl, H1.out.2.1, (H1.out.1.kept (World.grownBy_alloc _ _ none) (by simp)), seen_made w, H1.out.2.2.alloc H1.out.2.2.size _⟩
  case round =>
    obtain ⟨fs, f, g, F, hk, hD, hO, hS, hB⟩ := hrel
    have hfew := hD.few HE.out
    have hb0 := hB.size
    have hne : Hid (some bo ≠ some w.heap.size) := fun e => by injection e with e; omega
    obtain ⟨D, ho1, ho2⟩ := hO
    have hsize := Lib.hid (opens_size ho1 ho2)
    have H2 := Lib.hid (And.intro hD (And.intro hS hB))
    have HO := Lib.hid (And.intro ho1 ho2)
    clear hD hS hB ho1 ho2 H1 hmm
    by_cases h0 : Maps.size D = 0
    · have hfd := Lib.hid (H2.out.1.inv.ended (fun y v ⟨v', hv, _⟩ => by rw [hsize.out.1 h0 y] at hv; cases hv))
      have h0' : ¬ (0 : Int) < (Maps.size D : Int) := by omega
      clear h0
      go_wp2_with (at_len; refine wpList_len_own _ rfl _ 61 rfl 9 9 Tryz.underlying61 _ bo _ D rfl HO.out.1 ?_)
      go_wp2
      go_ret2
      exact ⟨_, false, rfl, hfd.out, by decide, H2.out.2.2⟩
    · have hne2 := Lib.hid (hsize.out.2 h0)
      have h0' : (0 : Int) < (Maps.size D : Int) := by omega
      clear h0
      have hcall := Lib.hid (impl_takeFirst bo (4096 + 24 * fs.length) g wr ⟨D, HO.out.1, HO.out.2⟩ (fun x v hv => by
          have := HE.out.pos (H2.out.1.inv.oR x v.data.toList ⟨v, hv, rfl⟩)
          rwa [← Lib.size_eq] at this) (fun x v hv => by
          have := HE.out.size _ (HE.out.mem (H2.out.1.inv.oR x v.data.toList ⟨v, hv, rfl⟩))
          unfold maxLen
          omega) hne2.out)
      go_wp2_with (at_len; refine wpList_len_own _ rfl _ 61 rfl 9 9 Tryz.underlying61 _ bo _ D rfl HO.out.1 ?_)
      go_wp2_with fail
      refine hcall.out.mono ?_
      rintro e w2 ⟨u, v, rfl, hgu, hmin, hO2, hg2⟩
      replace hO2 : OpenAt w2 bo (4096 + 24 * fs.length) (delM g u) := hO2
      have hS2 := H2.out.2.1.kept hg2 (fun e => hne.out e.symm)
      have hB2 := H2.out.2.2.grown hg2 H2.out.2.2.size (fun j hj => by injection hj with hj; omega)
      have hvs := H2.out.1.size _ _ hgu
      have hu7 := HE.out.size _ (HE.out.mem (H2.out.1.inv.oR u v.data.toList ⟨v, hgu, rfl⟩))
      have H3 := Lib.hid (And.intro H2.out.1 (And.intro hgu (And.intro hmin (And.intro hO2 (And.intro hS2 hB2)))))
      have hz2 := hB2.size
      clear hgu hmin hO2 hS2 hB2 hg2 hcall H2 HO hsize hne2 h0'
      have hct := Lib.hid (contains_any A ss c u w2 ((h.out.below H3.out.2.2.2.2.2).more hz2) (by omega))
      cases hu : hasB ss u
      · rw [hu] at hct
        have Hu := Lib.hid (show u ∉ ss from fun hm => by rw [hasB_mem.2 hm] at hu; cases hu)
        clear hu
        obtain ⟨D2, hM1, hM2, hM3⟩ := H3.out.2.2.2.2.1
        have HM := Lib.hid (And.intro hM1 (And.intro hM2 hM3))
        clear hM1 hM2 hM3
        go_wp2_with fail
        refine hct.out.mono ?_
        rintro e w3 ⟨rfl, rfl⟩
        go_wp2_with (at_mapUpdate; refine wpList_mapUpdate_own _ rfl _ _ _ 69 rfl 9 4 (Maps.string_keyed Tryz.underlying9) Tryz.underlying69 _ w.heap.size fs.length D2 rfl HM.out.1 (by unfold maxLen; omega) (.string u) (.bool true) (.string u.data.toList) rfl rfl (WideMaps.keyOf_string_mk Tryz.underlying9 (by unfold maxLen; omega)) (.lit (.bool true)) [] (plainElem_bool Tryz.underlying4 true) ?_)
        intro w4 hmap4 hg4
        have hS4 : SeenAt w4 w.heap.size (fs.length + 1) (marked u F) := SeenAt.put HM.out.2.1 HM.out.2.2 u.data.toList hmap4
        have hO4 := H3.out.2.2.2.1.kept hg4 hne.out
        have hB4 := H3.out.2.2.2.2.2.grown hg4 H3.out.2.2.2.2.2.size (fun j hj => by injection hj with hj; omega)
        have hz4 := hB4.size
        have H4 := Lib.hid (And.intro hO4 (And.intro hS4 hB4))
        have HI := Lib.hid (And.intro H3.out.1 (And.intro H3.out.2.1 H3.out.2.2.1))
        clear hS4 hO4 hB4 hmap4 hg4 H3 HM hct
        have hbf4 := H4.out.2.1.lt
        have hBa := Lib.hid (H4.out.2.2.alloc H4.out.2.2.size (.cells #[.string u] 9))
        have hq1 := Lib.hid (impl_restsOf A ss c (some ⟨w4.heap.size, 0, none⟩) [u] 1 (w4.alloc (.cells #[.string u] 9)) ((h.out.below hBa.out).more hBa.out.size) (row_text w4 u) (by omega) (by simp))
        have hrl := rests_len ss [u]
        have hr8 := Lib.hid (fun x (hx : x ∈ rests ss [u]) => rest_small (n := 8) hx (fun t ht => by rw [List.mem_singleton.1 ht]; omega))
        rw [List.length_singleton, Nat.mul_one] at hrl
        have hpz : (w4.alloc (.cells #[.string u] 9)).heap.size = w4.heap.size + 1 := by simp
        go_wp2_with fail
        refine hq1.out.mono ?_
        rintro e w5 ⟨A5, c5, rfl, ho5, hB5⟩
        have hc5 := (hB5.cell (p := ⟨w4.heap.size, 0, none⟩) (by rw [hpz]; exact Nat.lt_succ_self _)).trans (show (w4.alloc (.cells #[.string u] 9)).cell? ⟨w4.heap.size, 0, none⟩ = some (.string u) by rw [World.cell?_alloc_at _ _ _ _ rfl]; rfl)
        have hO5 := (H4.out.1.kept (World.grownBy_alloc w4 (.cells #[.string u] 9) none) (by simp)).below hB5
        have hS5 := (H4.out.2.1.kept (World.grownBy_alloc w4 (.cells #[.string u] 9) none) (by simp)).below hB5
        have H5 := Lib.hid (And.intro hO5 (And.intro hS5 (And.intro (hBa.out.trans (hB5.mono hBa.out.size)) (And.intro ho5 hc5))))
        clear hO5 hS5 ho5 hB5 hc5 hq1 hBa H4
        go_wp2_with fail
        generalize hrs : rests ss [u] = rs at H5 hr8 hrl
        replace hrs := Lib.hid hrs
        have hE := Lib.hid (fun (j : Nat) hj => endsAt_succ (fun _ => v) rs j hj)
        go_loopw [35] (fun i wr' => ∃ (j : Nat) (g' : ByteArray → Option ByteArray), j ≤ rs.length ∧ i = .int .i64 j ∧ OpenAt wr' bo (4096 + 24 * fs.length + j) g' ∧ Puts (markB u F) (delM g u) (endsAt (fun _ => v) (rs.take j)) g' ∧ SeenAt wr' w.heap.size (fs.length + 1) (marked u F) ∧ Below w0.heap.size w0 wr' ∧ wr'.ownsRow (w4.heap.size + 1) 9 1 (.slice A5 rs.length c5) rs.length (strs rs) ∧ wr'.cell? ⟨w4.heap.size, 0, none⟩ = some (.string u))
          (fun i _ => rs.length - (intOf i).toNat)
        case atStart => exact ⟨0, delM g u, Nat.zero_le _, rfl, H5.out.1, by simpa [endsAt] using Puts.nil _ _, H5.out.2.1, H5.out.2.2.1, by have := H5.out.2.2.2.1; rwa [hpz] at this, H5.out.2.2.2.2⟩
        case round =>
          clear H5
          obtain ⟨j, g', hj, rfl, hO, hP, hS, hB, ho, hc⟩ := hrel
          have H6 := Lib.hid (And.intro hO (And.intro hP (And.intro hS (And.intro hB (And.intro ho hc)))))
          clear hO hP hS hB ho hc
          by_cases hlj : j < rs.length
          · obtain ⟨b', off', rfl, hb', hcc'⟩ := Row.of_own H6.out.2.2.2.2.1 (by rw [strs_length]; omega)
            have hlj' : (j : Int) < (rs.length : Int) := by omega
            have c2' := hcc' j _ (strs_nth rs j hlj)
            have hx8 := hr8.out _ (nth_mem hlj)
            have hE2 := Lib.hid (hE.out j hlj)
            clear hcc'
            generalize W.nth rs j = x at c2' hx8 hE2
            have hlk := seen_look H6.out.2.2.1 x (by unfold maxLen; omega)
            cases hm : marked u F x.data.toList
            · rw [hm] at hlk
              have Hm : Hid (markB u F x = false) := hm
              clear hm
              have hq := Lib.hid (impl_put bo (4096 + 24 * fs.length + j) g' x v _ H6.out.1 (by unfold maxLen; omega) (by unfold maxLen; omega) (by unfold maxLen; omega))
              go_wp2_with fail
              refine hq.out.mono ?_
              rintro e w7 ⟨rfl, hO7, hg7⟩
              have ho7 := H6.out.2.2.2.2.1.kept hg7 (own_ne H6.out.2.2.2.2.1 (fun g hg => by injection hg with hg; omega))
              have hB7 := H6.out.2.2.2.1.grown hg7 H6.out.2.2.2.1.size (fun g hg => by injection hg with hg; omega)
              have hS7 := H6.out.2.2.1.kept hg7 (fun e => hne.out e.symm)
              have hc7 := (World.cell?_of_block (a := ⟨w4.heap.size, 0, none⟩) (hg7.block w4.heap.size (World.block_lt_of_cell? _ _ H6.out.2.2.2.2.2) (fun e => by injection e with e; omega))).trans H6.out.2.2.2.2.2
              have hP7 : Puts (markB u F) (delM g u) (endsAt (fun _ => v) (rs.take (j + 1))) (putM g' x v) := by
                rw [hE2.out]
                exact H6.out.2.1.put Hm.out v
              have H7 := Lib.hid (And.intro hO7 (And.intro hP7 (And.intro hS7 (And.intro hB7 (And.intro ho7 hc7)))))
              clear hO7 hP7 hS7 hB7 ho7 hc7 hg7 hq hlk H6
              go_wp2
              go_roundw
              case rel => exact ⟨j + 1, _, by omega, by go_num, H7.out⟩
              case measure => simp [intOf]; omega
            · rw [hm] at hlk
              have Hm : Hid (markB u F x = true) := hm
              clear hm
              have hP7 : Puts (markB u F) (delM g u) (endsAt (fun _ => v) (rs.take (j + 1))) g' := by
                rw [hE2.out]
                exact H6.out.2.1.skip Hm.out v
              have H7 := Lib.hid (And.intro (H6.out.1.mono (Nat.le_succ _)) (And.intro hP7 H6.out.2.2))
              clear hP7 H6
              go_wp2
              go_roundw
              case rel => exact ⟨j + 1, g', by omega, by go_num, H7.out⟩
              case measure => simp [intOf]; omega
          · have hje : j = rs.length := by omega
            subst hje
            have hPa := H6.out.2.1
            rw [List.take_length] at hPa
            have H7 := Lib.hid (And.intro H6.out.1 (And.intro hPa (And.intro H6.out.2.2.1 (And.intro H6.out.2.2.2.1 H6.out.2.2.2.2.2))))
            have hz7 := H6.out.2.2.2.1.size
            clear hPa H6 hE hr8
            have hq2 := Lib.hid (impl_restsOf (some ⟨w4.heap.size, 0, none⟩) [u] 1 A ss c wr (row_one H7.out.2.2.2.2) ((h.out.below H7.out.2.2.2.1).more hz7) (by simp) (by omega))
            have hrl2 := rests_len [u] ss
            go_wp2_with fail
            refine hq2.out.mono ?_
            rintro e w8 ⟨A8, c8, rfl, ho8, hB8⟩
            have hr8 := Lib.hid (fun x (hx : x ∈ rests [u] ss) => rest_small (n := 8) hx (fun t ht => (set_size Hset.out ht).2))
            rw [List.length_singleton, Nat.one_mul] at hrl2
            have H8 := Lib.hid (And.intro (H7.out.1.below hB8) (And.intro H7.out.2.1 (And.intro (H7.out.2.2.1.below hB8) (And.intro (H7.out.2.2.2.1.trans (hB8.mono hz7)) ho8))))
            have hwz : w4.heap.size < wr.heap.size := World.block_lt_of_cell? _ _ H7.out.2.2.2.2
            clear ho8 hB8 hq2 H7
            generalize hrs2 : rests [u] ss = rs2 at H8 hr8 hrl2
            replace hrs2 := Lib.hid hrs2
            have hE := Lib.hid (fun (j : Nat) hj => endsAt_succ (fun x => v ++ x) rs2 j hj)
            go_wp2_with fail
            go_loopw [52] (fun i wr' => ∃ (j : Nat) (g' : ByteArray → Option ByteArray), j ≤ rs2.length ∧ i = .int .i64 j ∧ OpenAt wr' bo (4096 + 24 * fs.length + rs.length + j) g' ∧ Puts (markB u F) (delM g u) (endsAt (fun _ => v) rs ++ endsAt (fun x => v ++ x) (rs2.take j)) g' ∧ SeenAt wr' w.heap.size (fs.length + 1) (marked u F) ∧ Below w0.heap.size w0 wr' ∧ wr'.ownsRow wr.heap.size 9 1 (.slice A8 rs2.length c8) rs2.length (strs rs2))
              (fun i _ => rs2.length - (intOf i).toNat)
            case atStart => exact ⟨0, g', Nat.zero_le _, rfl, H8.out.1, by have := H8.out.2.1; simpa [endsAt] using this, H8.out.2.2.1, H8.out.2.2.2.1, H8.out.2.2.2.2⟩
            case round =>
              clear H8
              obtain ⟨j, g'', hj, rfl, hO, hP, hS, hB, ho⟩ := hrel
              have H6 := Lib.hid (And.intro hO (And.intro hP (And.intro hS (And.intro hB ho))))
              clear hO hP hS hB ho
              by_cases hlj : j < rs2.length
              · obtain ⟨b', off', rfl, hb', hcc'⟩ := Row.of_own H6.out.2.2.2.2 (by rw [strs_length]; omega)
                have hlj' : (j : Int) < (rs2.length : Int) := by omega
                have c2' := hcc' j _ (strs_nth rs2 j hlj)
                have hx8 := hr8.out _ (nth_mem hlj)
                have hE2 := Lib.hid (hE.out j hlj)
                clear hcc'
                generalize W.nth rs2 j = x at c2' hx8 hE2
                have hlk := seen_look H6.out.2.2.1 x (by unfold maxLen; omega)
                have hvx : (v ++ x).size ≤ 1000 := by rw [ByteArray.size_append]; omega
                cases hm : marked u F x.data.toList
                · rw [hm] at hlk
                  have Hm : Hid (markB u F x = false) := hm
                  clear hm
                  have hq := Lib.hid (fun W h => impl_put bo (4096 + 24 * fs.length + rs.length + j) g'' x (v ++ x) W h (by unfold maxLen; omega) (by unfold maxLen; omega) (by unfold maxLen; omega))
                  go_wp2_with fail
                  refine (hq.out _ H6.out.1).mono ?_
                  rintro e w7 ⟨rfl, hO7, hg7⟩
                  have ho7 := H6.out.2.2.2.2.kept hg7 (own_ne H6.out.2.2.2.2 (fun g hg => by injection hg with hg; omega))
                  have hB7 := H6.out.2.2.2.1.grown hg7 H6.out.2.2.2.1.size (fun g hg => by injection hg with hg; omega)
                  have hS7 := H6.out.2.2.1.kept hg7 (fun e => hne.out e.symm)
                  have hP7 : Puts (markB u F) (delM g u) (endsAt (fun _ => v) rs ++ endsAt (fun x => v ++ x) (rs2.take (j + 1))) (putM g'' x (v ++ x)) := by
                    rw [hE2.out, ← List.append_assoc]
                    exact H6.out.2.1.put Hm.out (v ++ x)
                  have H7 := Lib.hid (And.intro hO7 (And.intro hP7 (And.intro hS7 (And.intro hB7 ho7))))
                  clear hO7 hP7 hS7 hB7 ho7 hg7 hq hlk H6
                  go_wp2
                  go_roundw
                  case rel => exact ⟨j + 1, _, by omega, by go_num, H7.out⟩
                  case measure => simp [intOf]; omega
                · rw [hm] at hlk
                  have Hm : Hid (markB u F x = true) := hm
                  clear hm
                  have hP7 : Puts (markB u F) (delM g u) (endsAt (fun _ => v) rs ++ endsAt (fun x => v ++ x) (rs2.take (j + 1))) g'' := by
                    rw [hE2.out, ← List.append_assoc]
                    exact H6.out.2.1.skip Hm.out (v ++ x)
                  have H7 := Lib.hid (And.intro (H6.out.1.mono (Nat.le_succ _)) (And.intro hP7 H6.out.2.2))
                  clear hP7 H6
                  go_wp2
                  go_roundw
                  case rel => exact ⟨j + 1, g'', by omega, by go_num, H7.out⟩
                  case measure => simp [intOf]; omega
              · have hje : j = rs2.length := by omega
                subst hje
                have hPa := H6.out.2.1
                rw [List.take_length, ← hrs.out, ← hrs2.out] at hPa
                have hD' := Lib.hid (HI.out.1.next Hset.out HE.out HI.out.2.1 HI.out.2.2 Hu.out hPa)
                have hlen' : (fs ++ [u]).length = fs.length + 1 := by simp
                have hkk := hk.out
                have H7 := Lib.hid (And.intro (H6.out.1.mono (n' := 4096 + 24 * (fs.length + 1)) (by omega)) (And.intro H6.out.2.2.1 H6.out.2.2.2.1))
                clear hPa H6
                go_wp2
                go_roundg (gk - 1)
                case measure => omega
                case rel => exact ⟨fs ++ [u], _, g'', _, by show _ = _; rw [hlen']; omega, hD'.out, by rw [hlen']; exact H7.out.1, by rw [hlen']; exact H7.out.2.1, H7.out.2.2⟩
      · rw [hu] at hct
        have hfd := Lib.hid (H3.out.1.inv.found ⟨v, H3.out.2.1, rfl⟩ (fun y z ⟨z', h1, h2⟩ => by subst h2; exact H3.out.2.2.1 y z' h1) (hasB_mem.1 hu))
        clear hu
        go_wp2_with fail
        refine hct.out.mono ?_
        rintro e w3 ⟨rfl, rfl⟩
        go_wp2
        go_ret2
        exact ⟨v, true, rfl, hfd.out, by omega, H3.out.2.2.2.2.2⟩

end Go.Proofs.YtjopbmhldpcpdaaGreatDoor.Mt

namespace Go.Proofs.YtjopbmhldpcpdaaGreatDoor
open Go.RowKit Go.ChangeMaps Go.Maps Go.Shelf
open W (le)

/-- the ends by which one word of a set is ahead of another one -/
def firstI (ss : List ByteArray) : ByteArray → List UInt8 → Prop := fun x v => ∃ s t, s ∈ ss ∧ t ∈ ss ∧ x ∈ restOf s t ∧ v = t.data.toList
theorem mt_of_db {ss : List ByteArray} {w : List UInt8} {x : ByteArray} (h : Db ss w x) : Mt.Db ss (firstI ss) w x := by
  induction h with
  | start hs ht hx => exact .start ⟨_, _, hs, ht, hx, rfl⟩
  | off _ ht hx ih => exact ih.off ht hx
  | on _ ht hx ih => exact ih.on ht hx
theorem db_of_mt {ss : List ByteArray} {w : List UInt8} {x : ByteArray} (h : Mt.Db ss (firstI ss) w x) : Db ss w x := by
  induction h with
  | start hi =>
    obtain ⟨s, t, hs, ht, hx, rfl⟩ := hi
    exact .start hs ht hx
  | off _ ht hx ih => exact ih.off ht hx
  | on _ ht hx ih => exact ih.on ht hx
theorem fd_of_mt {ss : List ByteArray} {r : Option (List UInt8)} (h : Mt.FD ss (firstI ss) r) : FD ss r := by
  refine ⟨fun w e => ?_, fun e v u hd => h.2 e v u (mt_of_db hd)⟩
  obtain ⟨⟨u, hu, hd⟩, h2⟩ := h.1 w e
  exact ⟨⟨u, hu, db_of_mt hd⟩, fun v x hx hm => h2 v x (mt_of_db hx) hm⟩
theorem ends_firstI {ss : List ByteArray} (hset : W.isSet ss = true) : Mt.Ends ss (firstI ss) (dS ss) where
  start := fun x v hi => by
    obtain ⟨s, t, hs, ht, hx, rfl⟩ := hi
    exact ⟨dS_start hset x (mem_rests.2 ⟨s, hs, t, ht, hx⟩), by have := set_size hset ht; rw [← Lib.size_eq]; omega⟩
  step := fun x y hx he => dS_step x y hx he
  few := by have := dS_length hset; omega
  size := fun x hx => by
    obtain ⟨t, ht, i, hi, rfl⟩ := mem_dS.1 hx
    have := drop_size t (i + 1)
    have := set_size hset ht
    omega
theorem dst_mt {ss fs : List ByteArray} {f : ByteArray → Option (List UInt8)} {g : ByteArray → Option ByteArray} {F : List UInt8 → Bool} (h : DSt ss fs f g F) : Mt.DSt ss (firstI ss) fs f g F where
  nodup := h.nodup
  mem := h.mem
  inv := {
    start := fun x v hi => by
      obtain ⟨s, t, hs, ht, hx, rfl⟩ := hi
      exact h.inv.start s t x hs ht hx
    off := h.inv.off
    on := h.inv.on
    fR := fun u w hu => mt_of_db (h.inv.fR u w hu)
    oR := fun u w hu => mt_of_db (h.inv.oR u w hu)
    bR := fun w hw => by
      obtain ⟨u, hu, hd⟩ := h.inv.bR w hw
      exact ⟨u, hu, mt_of_db hd⟩
    hit := h.inv.hit
    mono := h.inv.mono }
  mark := h.mark
  sep := h.sep
  size := h.size

theorem impl_firstDouble (A : Option Addr) (ss : List ByteArray) (c : Nat) (w : World) (h : Row w w.heap.size A (strs ss)) (hset : W.isSet ss = true) :
    Calls Tryz.prog 25 #[.slice A ss.length c] w (GivesDouble w ss) := by
  have h12 := W.isSet_len ss hset
  have hq1 := Lib.hid (impl_firstEnds A ss c w h h12 (fun s hs => (set_size hset hs).2))
  have hq2 := Lib.hid (fun (w1 : World) (bo : Nat) (g0 : ByteArray → Option ByteArray) (hB : Below w.heap.size w w1) (hb : w.heap.size ≤ bo) (hO : OpenAt w1 bo 4096 g0) (hP : Puts noF noG (ends0 ss ss.length) g0) =>
    Mt.impl_firstMeeting A ss c w w1 h hset hB bo g0 (firstI ss) (dS ss) (ends_firstI hset) hb hO (dst_mt (DSt.first hset hP)))
  clear h hset
  go_enter Tryz.func25, Tryz.ntmps25
  go_wp2_with fail
  refine hq1.out.mono ?_
  rintro e w1 ⟨bo, g0, rfl, hbo, hO0, hP0, hB0⟩
  have hq3 := Lib.hid (hq2.out w1 bo g0 hB0 hbo hO0 hP0)
  clear hq2 hq1 hbo hO0 hP0 hB0
  go_wp2_with fail
  refine hq3.out.mono ?_
  rintro e w2 ⟨x, ok, rfl, hf, hx, hB⟩
  have H := Lib.hid (And.intro (fd_of_mt hf) (And.intro hx hB))
  clear hq3 hf hx hB
  go_wp2
  go_ret2
  exact ⟨x, ok, rfl, H.out.1, H.out.2.1, H.out.2.2⟩

end Go.Proofs.YtjopbmhldpcpdaaGreatDoor
