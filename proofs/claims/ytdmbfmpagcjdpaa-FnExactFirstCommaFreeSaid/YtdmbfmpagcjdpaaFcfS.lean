/-
  WHAT THIS FILE PROVES: the set that is made of all words of n letters, each taken if the set is comma free with it: the specification's functions give the plain one; nothing is asked of the memory.
-/
import Derived.Test.YtdmbfmpagcjdpaaFcf
import Derived.Test.YtdmbfmpagcjdpaaInsS
import Derived.Test.YtdmbfmpagcjdpaaTxS
namespace Go.Proofs.Ytdmbfmpagcjdpaa
open Go.RowKit Go.Shelf

set_option maxHeartbeats 6400000 in
set_option maxRecDepth 100000 in
theorem spec_FirstCommaFree (L n : Int) (w : World) :
    Calls Try.prog 5 #[.int .i64 L, .int .i64 n] w (OkStrs w (fcfOf L n) (fcfOk L n)) := by
  have hk := spec_krLetters L w
  have hin := spec_l1In n 1 4
  cases hq : W.krLet L
  · have hno : fcfOk L n = false := by unfold fcfOk; rw [hq]; rfl
    rw [fcfOf_no hno, hno]
    rw [hq] at hk
    replace hk := Lib.hid hk
    clear hno hq hin
    go_enter Try.func5, Try.ntmps5
    go_wp2_with fail
    refine hk.out.mono ?_
    rintro e w1 ⟨rfl, rfl⟩
    go_wp2_with fail
    go_ret2
    exact okStrs_nil _ _ _ (Below.refl _ _)
  · rw [hq] at hk
    replace hk := Lib.hid hk
    by_cases hr : 1 ≤ n ∧ n ≤ 4
    · obtain ⟨j, rfl⟩ := Int.eq_ofNat_of_zero_le (show (0 : Int) ≤ n by omega)
      have hLc : L = ((L.toNat : Nat) : Int) ∧ (L.toNat = 2 ∨ L.toNat = 3) := by
        rcases W.krLet_cases hq with rfl | rfl <;> simp
      generalize L.toNat = l at hLc
      obtain ⟨rfl, hl⟩ := hLc
      have hok : fcfOk (l : Int) (j : Int) = true := by unfold fcfOk; rw [hq, decide_eq_true hr]; rfl
      rw [fcfOf_yes hok, hok]
      have hj4 : j ≤ 4 := by omega
      have hj1 : 1 ≤ j := by omega
      rw [decide_eq_true hr] at hin
      replace hin := Lib.hid hin
      have hp81 := pow_le81 hl hj4
      have hpw := fun u => spec_krPower l j u (fun i hi => by have := pow_le81 hl (show i ≤ 4 by omega); omega) (by omega)
      have Htx := Lib.hid (fun x (hx : x ≤ 1000000) u => spec_krText x j l u (by omega) (by omega) hx (by omega))
      obtain ⟨i0, hi, hz0, hz1, hz2⟩ := info_parts infoStr
      have HR := Lib.hid (And.intro hi (And.intro hz0 (And.intro hz1 hz2)))
      generalize hP : l ^ j = P at hpw hp81 ⊢
      replace hpw := Lib.hid hpw
      clear hi hz0 hz1 hz2 hok hq hr hP
      go_enter Try.func5, Try.ntmps5
      go_wp2_with fail
      refine hk.out.mono ?_
      rintro e w1 ⟨rfl, rfl⟩
      go_wp2_with fail
      refine (hin.out _).mono ?_
      rintro e w1 ⟨rfl, rfl⟩
      go_wp2_with fail
      go_loopw [6, 7] (fun v i wr => ∃ k : Nat, k ≤ P ∧ i = .int .i64 k ∧ wr.ownsRow w.heap.size 9 1 v (fcTo l j k).length (strs (fcTo l j k)) ∧ Below w.heap.size w wr) (fun _ i _ => P - (intOf i).toNat)
      case atStart => exact ⟨0, Nat.zero_le _, rfl, World.ownsRow_nil _ _ _ _, Below.refl _ _⟩
      case round =>
        obtain ⟨k, hk, rfl, ho, hB⟩ := hrel
        obtain ⟨Av, cv, rfl⟩ := own_slice ho
        have hO := Lib.hid (And.intro ho hB)
        have hlen := fcTo_len l j k
        clear ho hB
        by_cases hlt : k < P
        · have hlt' : (k : Int) < (P : Int) := by omega
          by_cases h12 : (fcTo l j k).length < 12
          · have h12' : ((fcTo l j k).length : Int) < 12 := by omega
            have htx := Htx.out k (by omega)
            have Hyes := Lib.hid (fun h1 h2 => fcTo_yes (L := l) (n := j) (k := k) h1 h2)
            have Hno := Lib.hid (fun h => fcTo_no (L := l) (n := j) (k := k) h)
            have Hsz := Lib.hid (fcNext_size l j k)
            generalize txtB l k j = s at htx Hyes Hno Hsz
            replace htx := Lib.hid htx
            have hz := hO.out.2.size
            have hBa := Lib.hid (hO.out.2.alloc hz (.cells #[] 9))
            have hOv := Lib.hid (hO.out.1.alloc (.cells #[] 9))
            have hO0 := Lib.hid (World.ownsRow_made (base := wr.heap.size) (e := 9) (size := 1) wr #[] 0 (Nat.le_refl _) (Nat.zero_le _) rfl)
            have hlow : Hid (∀ g, (Value.slice Av (fcTo l j k).length cv).ownBlock = some g → g < wr.heap.size) := fun g hg => (hO.out.1.lt g hg).2
            have hapart : Hid (∀ v : Value, (∀ g, v.ownBlock = some g → wr.heap.size ≤ g) → (Value.slice Av (fcTo l j k).length cv).ownBlock = none ∨ (Value.slice Av (fcTo l j k).length cv).ownBlock ≠ v.ownBlock) := fun v hv => by
              cases hb2 : (Value.slice Av (fcTo l j k).length cv).ownBlock with
              | none => exact .inl rfl
              | some g =>
                refine .inr fun e => ?_
                have h1 := hv g e.symm
                have h2 := hlow.out g hb2
                omega
            go_wp2_with fail
            refine (hpw.out _).mono ?_
            rintro e w1 ⟨rfl, rfl⟩
            go_wp2_with (at_builtin; refine wpList_append_row _ rfl _ _ 22 rfl wr.heap.size 9 i0 _ 16 Try.underlying22 HR.out.1 HR.out.2.1 HR.out.2.2.1 HR.out.2.2.2 rfl (.slice (some ⟨wr.heap.size, 0, none⟩) 0 0) 0 [] rfl hO0.out (wr.alloc (.cells #[] 9)).heap.size Av cv (strs (fcTo l j k)) (by rw [strs_length]; rfl) (Row.of_own hOv.out) (strs_cells _) (by rw [strs_length]; unfold maxLen; omega) (by rw [strs_length]; omega) (by simp) ?_)
            intro v1 w2 ho1 hg1
            rw [strs_length] at ho1
            have hOv2 := hOv.out.kept hg1 (hapart.out _ (fun g hg => by
              have e2 : some wr.heap.size = some g := hg
              injection e2 with e2
              omega))
            have hB2 := hBa.out.grown hg1 hBa.out.size (fun g hg => by
              have e2 : some wr.heap.size = some g := hg
              injection e2 with e2
              omega)
            have hwz : wr.heap.size ≤ w2.heap.size := Nat.le_trans (by simp) hg1.size
            have H2 := Lib.hid (And.intro (ho1.alloc (.cells #[.string s] 9)) (And.intro (hOv2.alloc (.cells #[.string s] 9)) (hB2.alloc hB2.size (.cells #[.string s] 9))))
            have hwz2 : Hid (wr.heap.size ≤ (w2.alloc (.cells #[.string s] 9)).heap.size) := Nat.le_trans hwz (by simp)
            obtain ⟨A1, c1', rfl⟩ := own_slice ho1
            clear ho1 hg1 hOv2 hB2 hBa hOv hO0 hO
            go_wp2_with fail
            refine (htx.out _).mono ?_
            rintro e w1 ⟨rfl, rfl⟩
            go_wp2_with (at_builtin; refine wpList_append_own _ rfl _ _ 22 rfl wr.heap.size 9 i0 _ 1 16 Try.underlying22 HR.out.1 HR.out.2.1 HR.out.2.2.1 HR.out.2.2.2 rfl (by decide) (.slice A1 (fcTo l j k).length c1') (fcTo l j k).length (strs (fcTo l j k)) rfl H2.out.1 ⟨w2.heap.size, 0, none⟩ 1 1 [.string s] rfl rfl (cell_one_new _ _ _) (one_text _) (by unfold maxLen; omega) (by omega) hwz2.out ?_)
            intro v3 w3 ho3 hg3 _
            rw [show strs (fcTo l j k) ++ [Value.string s] = strs (fcTo l j k ++ [s]) from (strs_snoc _ _).symm] at ho3
            have hnl : (fcTo l j k ++ [s]).length = (fcTo l j k).length + 1 := by simp
            have hOv3 := H2.out.2.1.kept hg3 (hapart.out _ (fun g hg => (H2.out.1.lt g hg).1))
            have hB3 := H2.out.2.2.grown hg3 H2.out.2.2.size (fun g hg => by have := (H2.out.1.lt g hg).1; omega)
            obtain ⟨A3, c3, rfl⟩ := own_slice ho3
            have hcall := spec_syInside A3 (fcTo l j k ++ [s]) c3 w3 (Row.of_own ho3) (by rw [hnl]; omega) (fun i hi => by rw [Hsz.out i hi]; omega)
            have H3 := Lib.hid (And.intro (own_base ho3 hz) (And.intro hOv3 hB3))
            have hz3 := hB3.size
            rw [hnl] at hcall
            clear ho3 hg3 hOv3 hB3 H2
            generalize gives (inS (fcTo l j k ++ [s])) = xs at hcall
            cases hic : (inS (fcTo l j k ++ [s])).isSome
            · rw [hic] at hcall
              replace hcall := Lib.hid hcall
              have hk2 := Lib.hid (Hyes.out h12 hic)
              replace hnl := Lib.hid hnl
              clear hic
              go_wp2_with fail
              refine hcall.out.mono ?_
              rintro e w4 ⟨A4, c4, rfl, ho4, hB4⟩
              have H4 := Lib.hid (And.intro (own_below H3.out.1 hB4) (H3.out.2.2.trans (hB4.mono hz3)))
              clear hB4 ho4
              go_wp2
              go_roundw
              case rel => exact ⟨k + 1, by omega, by go_num, by rw [hk2.out, hnl.out]; exact H4.out.1, H4.out.2⟩
              case measure => simp [intOf]; omega
            · rw [hic] at hcall
              replace hcall := Lib.hid hcall
              have hk2 := Lib.hid (Hno.out hic)
              clear hic hnl
              go_wp2_with fail
              refine hcall.out.mono ?_
              rintro e w4 ⟨A4, c4, rfl, ho4, hB4⟩
              have H4 := Lib.hid (And.intro (own_below H3.out.2.1 hB4) (H3.out.2.2.trans (hB4.mono hz3)))
              clear hB4 ho4
              go_wp2
              go_roundw
              case rel => exact ⟨k + 1, by omega, by go_num, by rw [hk2.out]; exact H4.out.1, H4.out.2⟩
              case measure => simp [intOf]; omega
          · have h12' : ¬ ((fcTo l j k).length : Int) < 12 := by omega
            have HE := Lib.hid (fcTo_stays (L := l) (n := j) (k := k) h12 (P - k))
            rw [show k + (P - k) = P by omega] at HE
            go_wp2_with fail
            refine (hpw.out _).mono ?_
            rintro e w1 ⟨rfl, rfl⟩
            go_wp2_with fail
            go_ret2
            rw [HE.out]
            exact okStrs_of hO.out.1 rfl hO.out.2
        · have hke : k = P := by omega
          subst hke
          go_wp2_with fail
          refine (hpw.out _).mono ?_
          rintro e w1 ⟨rfl, rfl⟩
          go_wp2_with fail
          go_ret2
          exact okStrs_of hO.out.1 rfl hO.out.2
    · have hno : fcfOk L n = false := by unfold fcfOk; rw [decide_eq_false hr]; simp
      rw [fcfOf_no hno, hno]
      rw [decide_eq_false hr] at hin
      replace hin := Lib.hid hin
      clear hno hq
      go_enter Try.func5, Try.ntmps5
      go_wp2_with fail
      refine hk.out.mono ?_
      rintro e w1 ⟨rfl, rfl⟩
      go_wp2_with fail
      refine (hin.out _).mono ?_
      rintro e w1 ⟨rfl, rfl⟩
      go_wp2_with fail
      go_ret2
      exact okStrs_nil _ _ _ (Below.refl _ _)
end Go.Proofs.Ytdmbfmpagcjdpaa
