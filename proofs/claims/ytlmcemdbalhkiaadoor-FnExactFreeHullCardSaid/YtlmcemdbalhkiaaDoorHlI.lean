/-
  WHAT THIS FILE PROVES: the hull of a set and the steps to it: the program's functions give the plain lists; asked: a slice of texts in memory, lengths that an int holds and no more than the capacity.
-/
import Derived.Test.YtlmcemdbalhkiaaDoorHlT
import Derived.Test.YtlmcemdbalhkiaaDoorLgI
import Derived.Test.YtlmcemdbalhkiaaDoorCatN
import Derived.Test.YtlmcemdbalhkiaaDoorMtC
import Derived.Test.YtlmcemdbalhkiaaDoorTexts
namespace Go.Proofs.YtlmcemdbalhkiaaDoor
open Go.RowKit Go.Shelf

noncomputable def frI (ss : List ByteArray) : Int := match frO ss with
  | some p => (p.1 : Int)
  | none => 0
noncomputable def frT (ss : List ByteArray) : ByteArray := match frO ss with
  | some p => p.2
  | none => ⟨#[]⟩
noncomputable def frB (ss : List ByteArray) : Bool := (frO ss).isSome
theorem fr_found {ss : List ByteArray} {k : Nat} {x : ByteArray} (h : frO ss = some (k, x)) : frI ss = (k : Int) ∧ frT ss = x ∧ frB ss = true := by
  unfold frI frT frB
  rw [h]
  exact ⟨rfl, rfl, rfl⟩
theorem fr_none {ss : List ByteArray} (h : frO ss = none) : frI ss = 0 ∧ frT ss = ⟨#[]⟩ ∧ frB ss = false := by
  unfold frI frT frB
  rw [h]
  exact ⟨rfl, rfl, rfl⟩

set_option maxHeartbeats 3200000 in
set_option maxRecDepth 100000 in
theorem impl_firstRest (A : Option Addr) (ss : List ByteArray) (c : Nat) (w : World) (h : Row w w.heap.size A (strs ss)) (hset : W.isSet ss = true) :
    Calls Tryd.prog 66 #[.slice A ss.length c] w fun e w' => e = .returned (.tuple #[.int .i64 (frI ss), .string (frT ss), .bool (frB ss)]) ∧ Below w.heap.size w w' := by
  have h12 := W.isSet_len ss hset
  have Hset := Lib.hid hset
  obtain ⟨ri, hri⟩ : ∃ x, x = frI ss := ⟨_, rfl⟩
  obtain ⟨rt, hrt⟩ : ∃ x, x = frT ss := ⟨_, rfl⟩
  obtain ⟨rb, hrb⟩ : ∃ x, x = frB ss := ⟨_, rfl⟩
  rw [← hri, ← hrt, ← hrb]
  replace hri := Lib.hid hri
  replace hrt := Lib.hid hrt
  replace hrb := Lib.hid hrb
  replace h := Lib.hid h
  clear hset
  go_enter Tryd.func66, Tryd.ntmps66
  go_wp2
  go_loopw [11] (fun i wr => ∃ k : Nat, k ≤ ss.length ∧ i = .int .i64 k ∧ Hid (frO ss = frFrom ss (ss.length - k) k) ∧ Below w.heap.size w wr)
    (fun i _ => ss.length - (intOf i).toNat)
  case atStart => exact ⟨0, Nat.zero_le _, rfl, (rfl : frO ss = frFrom ss (ss.length - 0) 0), Below.refl _ _⟩
  case round =>
    obtain ⟨k, hk, rfl, hfr, hB⟩ := hrel
    have hO := Lib.hid hB
    clear hB
    generalize wr = wk at hO ⊢
    by_cases hlt : k < ss.length
    · obtain ⟨b, off, rfl, hb, hcc⟩ := h.out (by rw [strs_length]; omega)
      have hlt' : (k : Int) < (ss.length : Int) := by omega
      have c1 := (hO.out.cell (p := ⟨b, off + k, none⟩) hb).trans (hcc k _ (strs_nth ss k hlt))
      clear hcc
      have hss := Lib.hid (W.isSet_short ss Hset.out k hlt)
      have hat : Hid (frAt ss k = (rsts ss (W.nth ss k)).find? (mtB ss)) := rfl
      have hfn := Lib.hid (fun (e : frAt ss k = none) => (by
        have h2 := hfr.out
        rw [show ss.length - k = (ss.length - (k + 1)) + 1 by omega, frFrom_none e] at h2
        exact h2 : frO ss = frFrom ss (ss.length - (k + 1)) (k + 1)))
      have hfs := Lib.hid (fun (x : ByteArray) (e : frAt ss k = some x) => (by
        have h2 := hfr.out
        rw [show ss.length - k = (ss.length - (k + 1)) + 1 by omega, frFrom_some e] at h2
        exact h2 : frO ss = some (k, x)))
      have hrs := Lib.hid (rests_rsts ss (W.nth ss k))
      have hmem := Lib.hid (fun x (hx : x ∈ rsts ss (W.nth ss k)) => rsts_mem Hset.out hss.out hx)
      have hrl := rsts_length ss (W.nth ss k)
      have hsz := W.short_size _ hss.out
      have hrow1 := (h.out.below hO.out).more hO.out.size
      have hBa := Lib.hid ((Below.refl wk.heap.size wk).alloc (Nat.le_refl _) (.cells #[.string (W.nth ss k)] 9))
      have hq1 := impl_restsOf (some ⟨b, off, none⟩) ss c (some ⟨wk.heap.size, 0, none⟩) [W.nth ss k] 1 (wk.alloc (.cells #[.string (W.nth ss k)] 9)) ((hrow1.below hBa.out).more hBa.out.size) (row_new wk (W.nth ss k)) (by omega) (by simp)
      rw [hrs.out] at hq1
      replace hq1 := Lib.hid hq1
      clear hrow1 hfr hss hrs
      generalize W.nth ss k = s at c1 hat hmem hrl hsz hBa hq1
      go_wp2_with fail
      refine hq1.out.mono ?_
      rintro e w2 ⟨A2, c2, rfl, ho2, hB2⟩
      have H2 := Lib.hid (And.intro (own_base (base' := wk.heap.size) ho2 (by simp)) (hO.out.trans ((hBa.out.trans (hB2.mono hBa.out.size)).mono hO.out.size)))
      have hz2 : wk.heap.size ≤ w2.heap.size := Nat.le_trans hBa.out.size hB2.size
      clear ho2 hB2 hq1 hBa c1
      generalize rsts ss s = R at H2 hat hmem hrl ⊢
      go_wp2_with fail
      go_loopw [21] (fun i wr => ∃ j : Nat, j ≤ R.length ∧ i = .int .i64 j ∧ Hid (frAt ss k = (R.drop j).find? (mtB ss)) ∧ Below w.heap.size w wr ∧ wr.ownsRow wk.heap.size 9 1 (.slice A2 R.length c2) R.length (strs R))
        (fun i _ => R.length - (intOf i).toNat)
      case atStart => exact ⟨0, Nat.zero_le _, rfl, hat.out, H2.out.2, H2.out.1⟩
      case round =>
        obtain ⟨j, hj, rfl, hf, hB, ho⟩ := hrel
        have hP := Lib.hid (And.intro hB ho)
        clear hB ho H2 hat hO
        by_cases hltj : j < R.length
        · obtain ⟨g2, rfl, hg20, hg21⟩ := own_form hP.out.2 (by omega)
          have hltj' : (j : Int) < (R.length : Int) := by omega
          have c2' := hP.out.2.cellAt j (by omega)
          rw [strs_at R j hltj, ← W.nth_lt R j hltj] at c2'
          have hxm := hmem.out (W.nth R j) (by rw [W.nth_lt R j hltj]; exact List.getElem_mem hltj)
          have hxz := W.short_size _ hxm.1
          have hff := hf.out
          rw [List.drop_eq_getElem_cons hltj, ← W.nth_lt R j hltj, List.find?_cons] at hff
          have hm := impl_canMeet (some ⟨b, off, none⟩) ss c (W.nth R j) wr ((h.out.below hP.out.1).more hP.out.1.size) Hset.out hxz.1 hxz.2
          clear hf hxm
          generalize W.nth R j = x at c2' hxz hff hm
          cases hq : mtB ss x
          · rw [hq] at hm hff
            replace hm := Lib.hid hm
            replace hff := Lib.hid hff
            clear hq
            go_wp2_with fail
            refine hm.out.mono ?_
            rintro e w3 ⟨rfl, hB3⟩
            have hP2 := Lib.hid (And.intro (hP.out.1.trans (hB3.mono hP.out.1.size)) (own_below hP.out.2 hB3))
            clear hB3
            go_wp2
            go_roundw
            case rel => exact ⟨j + 1, by omega, by go_num, hff, hP2.out⟩
            case measure => simp [intOf]; omega
          · rw [hq] at hm hff
            replace hm := Lib.hid hm
            have hst := fr_found (hfs.out _ hff)
            have h1 := Lib.hid (hri.out.trans hst.1)
            have h2 := Lib.hid (hrt.out.trans hst.2.1)
            have h3 := Lib.hid (hrb.out.trans hst.2.2)
            clear hq hff hst hfs hfn
            go_wp2_with fail
            refine hm.out.mono ?_
            rintro e w3 ⟨rfl, hB3⟩
            have hP2 := Lib.hid (hP.out.1.trans (hB3.mono hP.out.1.size))
            clear hB3
            go_wp2
            go_ret3
            refine ⟨?_, hP2.out⟩
            rw [h1.out, h2.out, h3.out]
            rfl
        · have hje : j = R.length := by omega
          subst hje
          have hfe := hf.out
          rw [List.drop_length] at hfe
          have hn := Lib.hid (hfn.out hfe)
          clear hfe
          go_wp2
          go_roundw
          case rel => exact ⟨k + 1, by omega, by go_num, hn, hP.out.1⟩
          case measure => simp [intOf]; omega
    · have hke : k = ss.length := by omega
      subst hke
      have hfe := hfr.out
      rw [Nat.sub_self] at hfe
      have hst := fr_none hfe
      have h1 := Lib.hid (hri.out.trans hst.1)
      have h2 := Lib.hid (hrt.out.trans hst.2.1)
      have h3 := Lib.hid (hrb.out.trans hst.2.2)
      clear hfe hst
      go_wp2
      go_ret3
      refine ⟨?_, hO.out⟩
      rw [h1.out, h2.out, h3.out]
      rfl

theorem stpO_fr {l : List ByteArray} : (frB l = false → stpO l = none) ∧ (frB l = true → ∃ k x, frO l = some (k, x) ∧ frI l = (k : Int) ∧ frT l = x ∧ stpO l = some (lgB (chg l k x))) := by
  unfold frB frI frT stpO
  generalize frO l = o
  cases o with
  | none => exact ⟨fun _ => rfl, fun h => Bool.noConfusion h⟩
  | some p => exact ⟨fun h => Bool.noConfusion h, fun _ => ⟨p.1, p.2, rfl, rfl, rfl, rfl⟩⟩
/-- three slices of texts in a block -/
theorem three_rows {w : World} {B : Nat} {A1 A2 A3 : Option Addr} {a b d : List ByteArray} {n1 n2 n3 c1 c2 c3 : Nat} (e1 : a.length = n1) (e2 : b.length = n2) (e3 : d.length = n3)
    (hB : B ≤ w.heap.size) (h1 : Row w B A1 (strs a)) (h2 : Row w B A2 (strs b)) (h3 : Row w B A3 (strs d)) :
    RowSS (w.alloc (.cells #[.slice A1 n1 c1, .slice A2 n2 c2, .slice A3 n3 c3] 22)) (w.heap.size + 1) (some ⟨w.heap.size, 0, none⟩) (strss [a, b, d]) := by
  subst e1 e2 e3
  have hb : Below B w (w.alloc (.cells #[.slice A1 a.length c1, .slice A2 b.length c2, .slice A3 d.length c3] 22)) := (Below.refl _ _).alloc hB _
  refine ⟨[.slice A1 a.length c1, .slice A2 b.length c2, .slice A3 d.length c3], fun _ => ⟨w.heap.size, 0, rfl, by omega, fun i v hv => ?_⟩, rfl, fun i xs hi => ?_⟩
  · rw [World.cell?_alloc_at _ _ _ _ rfl]
    have hi := (List.getElem?_eq_some_iff.1 hv).1
    match i, hi with
    | 0, _ => simpa using hv
    | 1, _ => simpa using hv
    | 2, _ => simpa using hv
  · have h0 := (List.getElem?_eq_some_iff.1 hi).1
    have key : ∀ (ys : List ByteArray) (A : Option Addr) (cc : Nat), Row w B A (strs ys) → xs = strs ys → ∃ (A' : Option Addr) (c' : Nat), some (Value.slice A ys.length cc) = some (.slice A' xs.length c') ∧ Row (w.alloc (.cells #[.slice A1 a.length c1, .slice A2 b.length c2, .slice A3 d.length c3] 22)) (w.heap.size + 1) A' xs := fun ys A cc hr e => by
      subst e
      exact ⟨A, cc, by rw [strs_length], (hr.below hb).more (by omega)⟩
    match i, h0 with
    | 0, _ => exact key a A1 c1 h1 (Option.some.inj hi).symm
    | 1, _ => exact key b A2 c2 h2 (Option.some.inj hi).symm
    | 2, _ => exact key d A3 c3 h3 (Option.some.inj hi).symm

set_option maxHeartbeats 6400000 in
set_option maxRecDepth 100000 in
theorem impl_hullSteps (A : Option Addr) (ss : List ByteArray) (c : Nat) (w : World) (h : Row w w.heap.size A (strs ss)) (hset : W.isSet ss = true) (_hcap : ss.length ≤ c) :
    Calls Tryd.prog 44 #[.slice A ss.length c] w (GivesSS 22 9 w (strss (hlB ss))) := by
  have hlg := Lib.hid (impl_generatorsIn A ss c w h hset)
  have hst := Lib.hid (hst_first hset)
  obtain ⟨R, hR⟩ : ∃ R, R = hlB ss := ⟨_, rfl⟩
  rw [← hR]
  replace hR := Lib.hid hR
  obtain ⟨i0, hi, hz0, hz1, hz2⟩ := info_parts infoSS
  have HR := Lib.hid (And.intro hi (And.intro hz0 (And.intro hz1 hz2)))
  have hls := Lib.hid (lgB_set hset)
  clear h hset hi hz0 hz1 hz2
  go_enter Tryd.func44, Tryd.ntmps44
  go_wp2_with fail
  refine hlg.out.mono ?_
  rintro e w1 ⟨A1, c1, rfl, ho1, hB1⟩
  have hS1 := ss_one ho1 hB1.size
  have hBa := (Below.refl w1.heap.size w1).alloc (Nat.le_refl _) (.cells #[.slice A1 (lgB ss).length c1] 22)
  have hr1 := ((Row.of_own ho1).below hBa).more hBa.size
  have hfr := Lib.hid (impl_firstRest A1 (lgB ss) c1 _ hr1 hls.out)
  have H1 := Lib.hid (And.intro hS1 (hB1.alloc hB1.size (.cells #[.slice A1 (lgB ss).length c1] 22)))
  clear ho1 hB1 hS1 hlg hBa hr1 hls
  generalize lgB ss = l1 at H1 hst hfr ⊢
  go_wp2_with fail
  refine hfr.out.mono ?_
  rintro e w2 ⟨rfl, hB2⟩
  have hS2 := H1.out.1.below hB2
  have H2 := Lib.hid (And.intro hS2 (H1.out.2.trans (hB2.mono H1.out.2.size)))
  clear hS2 hB2 hfr H1
  go_wp2_with fail
  go_loopg [3, 4, 5, 6, 7] 98 (fun gk lv v iv tv bv wr => ∃ (out : List (List ByteArray)) (l : List ByteArray) (f : Nat) (vs : List Value) (Al : Option Addr) (cl : Nat), Hid (f < gk) ∧ out.length + gk ≤ 98 ∧ Hid (Hst ss out l f) ∧ lv = .slice Al l.length cl ∧ vs[out.length]? = some (.slice Al l.length cl) ∧ iv = .int .i64 (frI l) ∧ tv = .string (frT l) ∧ bv = .bool (frB l) ∧ OwnAt wr w.heap.size 22 9 v vs (strss (out ++ [l])) ∧ Below w.heap.size w wr)
  case atStart => exact ⟨[], l1, 97, _, A1, c1, (by decide : 97 < 98), Nat.le_refl _, hst.out, rfl, rfl, rfl, rfl, rfl, H2.out.1, H2.out.2⟩
  case round =>
    obtain ⟨out, l, f, vs, Al, cl, hf, hok, hS, rfl, hlast, rfl, rfl, rfl, hV, hB⟩ := hrel
    obtain ⟨Av, cv, rfl⟩ := own_slice hV.own
    have hlen : (strss (out ++ [l])).length = out.length + 1 := by rw [strss_length, List.length_append]; rfl
    clear H2
    rw [hlen] at hV ⊢
    obtain ⟨Al2, cl2, hlast2, hrow⟩ := ss_last hV
    rw [hlast] at hlast2
    injection hlast2 with hlast2
    injection hlast2 with e1 _ e3
    subst e1 e3
    have hO := Lib.hid (And.intro hV (And.intro hB hrow))
    have hsz := hB.size
    have hlh := Lib.hid hlen
    have hl12 := W.isSet_len l hS.out.2.1
    clear hV hB hrow hlast hlen
    cases hq : frB l
    · have hend := Lib.hid (hR.out.trans (hS.out.last (stpO_fr.1 hq)))
      clear hq
      go_wp2
      go_ret
      rw [hend.out]
      have hfin := hO.out.1
      exact ⟨_, _, by rw [hlh.out]; rfl, ⟨vs, by rw [hlh.out]; exact hfin⟩, hO.out.2.1⟩
    · obtain ⟨k, x, hfo, e1, e2, hsp⟩ := stpO_fr.2 hq
      obtain ⟨f2, hf2, hS2⟩ := hS.out.next hsp
      obtain ⟨hkl, hxs, hxl⟩ := frO_mem hS.out.2.1 hfo
      have HS2 := Lib.hid hS2
      have hcs := Lib.hid (chg_set hS.out.2.1 hkl hxs)
      have hmid := Lib.hid (chg_mid l k x)
      have hfk := hf.out
      rw [e1, e2]
      clear hq hS2 e1 e2 hsp hfo hxl hS
      have hne : 0 < l.length := by omega
      have hlc : l.length ≤ cl := own_cap hO.out.2.2
      obtain ⟨g1, rfl, hg10, hg11⟩ := own_form hO.out.2.2 hne
      have hB1 := Lib.hid ((Below.refl wr.heap.size wr).alloc (Nat.le_refl _) (.cells #[.string x] 9))
      have hrow := (Row.of_own hO.out.2.2)
      have hf1 := ((hrow.front k).below hB1.out).more hB1.out.size
      have hf2' := ((hrow.back (k + 1)).below hB1.out).more hB1.out.size
      rw [strs_take] at hf1
      rw [strs_drop] at hf2'
      have e1 : (l.take k).length = k := by rw [List.length_take]; omega
      have e3 : (l.drop (k + 1)).length = l.length - (k + 1) := List.length_drop
      have hcat : Hid (∀ (A3 : Option Addr) (c3 : Nat) (W3 : World), W3 = (((wr.alloc (.cells #[.string x] 9)).alloc (.cells #[.slice (some ⟨g1, 0, none⟩) k cl, .slice (some ⟨wr.heap.size, 0, none⟩) 1 1, .slice A3 (l.length - (k + 1)) c3] 22)).drew) → Row (wr.alloc (.cells #[.string x] 9)) (wr.alloc (.cells #[.string x] 9)).heap.size A3 (strs (l.drop (k + 1))) →
          Calls Tryd.prog 36 #[.slice (some ⟨wr.heap.size + 1, 0, none⟩) 3 3] W3 fun e w2 => ∃ v, e = .returned v ∧ w2.ownsRow wr.heap.size 9 1 v (l.take k ++ ([x] ++ l.drop (k + 1))).length (strs (l.take k ++ ([x] ++ l.drop (k + 1)))) ∧ Below wr.heap.size wr w2) := fun A3 c3 W3 hW hr3 => by
        have hss := three_rows (A1 := some ⟨g1, 0, none⟩) (A2 := some ⟨wr.heap.size, 0, none⟩) (A3 := A3) (a := l.take k) (b := [x]) (d := l.drop (k + 1)) (n1 := k) (n2 := 1) (n3 := l.length - (k + 1)) (c1 := cl) (c2 := 1) (c3 := c3) e1 rfl e3 (Nat.le_refl _) hf1 (row_new wr x) hr3
        have hsz1 : (wr.alloc (.cells #[.string x] 9)).heap.size = wr.heap.size + 1 := by simp
        rw [hsz1] at hss
        have hBW : Below wr.heap.size wr W3 := by rw [hW]; exact (hB1.out.alloc (by simp) _).drew
        have hszW : W3.heap.size = wr.heap.size + 1 + 1 := by rw [hW]; simp
        have hrow3 : RowSS W3 W3.heap.size (some ⟨wr.heap.size + 1, 0, none⟩) (strss [l.take k, [x], l.drop (k + 1)]) := by rw [hszW, hW]; exact hss
        have hfl : [l.take k, [x], l.drop (k + 1)].flatten = l.take k ++ ([x] ++ l.drop (k + 1)) := by simp
        have key := slices_ConcatN (some ⟨wr.heap.size + 1, 0, none⟩) [l.take k, [x], l.drop (k + 1)] 3 W3 hrow3 (by simp) (by
          rw [hfl, List.length_append, List.length_append, e1, e3, List.length_singleton]
          omega)
        rw [hfl] at key
        refine key.mono ?_
        rintro e w2 ⟨A', c', rfl, ho, hB2⟩
        exact ⟨_, rfl, own_base ho hBW.size, hBW.trans (hB2.mono hBW.size)⟩
      have hwr : IntKind.i64.wrap ((k : Int) + 1) = (k : Int) + 1 := IntWalk.i64_in _ (by omega)
      have hkn : ((k : Int) + 1).toNat = k + 1 := by omega
      have hk0 : (0 : Int) ≤ (k : Int) + 1 := by omega
      have hkc : (k : Int) + 1 ≤ (l.length : Int) := by omega
      have hkc0 : (k : Int) ≤ (cl : Int) := by omega
      have hlen3 := Lib.hid (show (l.take k ++ ([x] ++ l.drop (k + 1))).length = l.length by rw [List.length_append, List.length_append, e1, e3, List.length_singleton]; omega)
      replace hf2' := Lib.hid hf2'
      clear hrow hf1 e1 hB1
      by_cases hck : cl = k + 1
      case' pos =>
        have hr3 : Row (wr.alloc (.cells #[.string x] 9)) (wr.alloc (.cells #[.string x] 9)).heap.size (some ⟨g1, 0, none⟩) (strs (l.drop (k + 1))) := fun hp => by
          rw [strs_length, e3] at hp
          omega
        have hcat2 := hcat.out (some ⟨g1, 0, none⟩) 0 _ rfl hr3
        have hl0 : l.length - (k + 1) = 0 := by omega
        rw [hl0] at hcat2
        replace hcat2 := Lib.hid hcat2
        clear hcat hr3 e3
        subst hck
        have hkk : (k : Int) ≤ (k : Int) + 1 := by omega
        go_wp2_with fail
        go_region_with (go_at_call 36; refine hcat2.out.mono ?_; rintro e w3 ⟨v3, rfl, ho3, hB3⟩)
      case' neg =>
        have hcat2 := Lib.hid (hcat.out (some ⟨g1, 0 + (k + 1), none⟩) (cl - (k + 1)) _ rfl hf2'.out)
        rw [Nat.zero_add] at hcat2
        clear hcat e3
        go_wp2_with fail
        go_region_with (go_at_call 36; refine hcat2.out.mono ?_; rintro e w3 ⟨v3, rfl, ho3, hB3⟩)
      all_goals
        obtain ⟨A3, c3, rfl⟩ := own_slice ho3
        have H3 := Lib.hid (And.intro ho3 hB3)
        clear ho3 hB3 hcat2 hf2'
        have hio := impl_inOrder A3 (l.take k ++ ([x] ++ l.drop (k + 1))) c3 w3 (Row.of_own H3.out.1) (by rw [hlen3.out]; omega)
        rw [hmid.out] at hio
        have Hio := Lib.hid hio
        clear hio
        generalize (l.take k ++ ([x] ++ l.drop (k + 1))) = X at H3 Hio hlen3 hmid ⊢
        generalize chg l k x = cg at HS2 hcs Hio hmid
        go_wp2_with fail
        refine Hio.out.mono ?_
        rintro e w4 ⟨A4, c4, rfl, ho4, hB4⟩
        have H4 := Lib.hid (And.intro ho4 (H3.out.2.trans (hB4.mono H3.out.2.size)))
        clear ho4 hB4 Hio H3
        have hge := Lib.hid (impl_generatorsIn A4 cg c4 w4 (Row.of_own H4.out.1) hcs.out)
        go_wp2_with fail
        refine hge.out.mono ?_
        rintro e w5 ⟨A5, c5, rfl, ho5, hB5⟩
        have H5 := Lib.hid (And.intro (own_base ho5 H4.out.2.size) (H4.out.2.trans (hB5.mono H4.out.2.size)))
        have hlm := Lib.hid (lgB_set hcs.out)
        clear ho5 hB5 hge H4 hcs hmid hlen3
        generalize lgB cg = m at H5 HS2 hlm ⊢
        have hV5 := Lib.hid (show (w5.alloc (.cells #[.slice A5 m.length c5] 22)).ownsRow w.heap.size 22 1 (.slice Av (out.length + 1) cv) (out.length + 1) vs from by
          have := ((hO.out.1.below H5.out.2).below ((Below.refl w5.heap.size w5).alloc (Nat.le_refl _) (.cells #[.slice A5 m.length c5] 22))).own
          rwa [hlh.out] at this)
        have hB6 := Lib.hid ((hO.out.2.1.trans (H5.out.2.mono hsz)).alloc (Nat.le_trans hsz H5.out.2.size) (.cells #[.slice A5 m.length c5] 22))
        have hsz5 := H5.out.2.size
        go_wp2_with (at_builtin; refine wpList_append_own _ rfl _ _ 33 rfl w.heap.size 22 i0 (.slice none 0 0) 1 24 Tryd.underlying33 HR.out.1 HR.out.2.1 HR.out.2.2.1 HR.out.2.2.2 rfl (by decide) (.slice Av (out.length + 1) cv) (out.length + 1) vs rfl hV5.out ⟨w5.heap.size, 0, none⟩ 1 1 [.slice A5 m.length c5] rfl rfl (cells_sl _ _ _) (one_sl _ _ _) (by unfold maxLen; omega) (by omega) (by simp; omega) ?_)
        intro v6 w6 ho6 hg6 _
        have hP6 := ss_push hO.out.1 hsz H5.out.2 H5.out.1 (by rw [← strss_length, hlh.out]; exact ho6) hg6
        have hB7 := hB6.out.grown hg6 (by simp; omega) (fun g hg => (hV5.out.lt g hg).1)
        obtain ⟨A9, c9, hla, hrw⟩ := ss_last hP6
        have hvl : vs.length = out.length + 1 := by
          have := hO.out.1.len
          rw [hlh.out] at this
          exact this
        have hoo : (out ++ [l]).length = out.length + 1 := by rw [List.length_append]; rfl
        have hlast6 : (vs ++ [Value.slice A5 m.length c5])[(out ++ [l]).length]? = some (.slice A5 m.length c5) := by
          rw [hoo, List.getElem?_append_right (by omega), hvl, Nat.sub_self]
          rfl
        rw [hlast6] at hla
        injection hla with hla
        injection hla with h7 _ h8
        subst h7 h8
        have hfr2 := Lib.hid (impl_firstRest A5 m c5 w6 (Row.of_own hrw) hlm.out)
        have H6 := Lib.hid (And.intro hP6 (And.intro hB7 hlast6))
        clear hP6 hB7 ho6 hg6 hV5 hB6 H5 hO hrw hlast6 hvl hlm
        go_wp2_with fail
        refine hfr2.out.mono ?_
        rintro e w7 ⟨rfl, hB8⟩
        have H7 := Lib.hid (And.intro (H6.out.1.below hB8) (H6.out.2.1.trans (hB8.mono H6.out.2.1.size)))
        clear hB8 hfr2
        go_wp2
        go_roundg (gk - 1)
        case measure => omega
        case rel => exact ⟨out ++ [l], m, f2, _, _, _, by show f2 < gk - 1; omega, by rw [hoo]; omega, HS2.out, rfl, H6.out.2.2, rfl, rfl, rfl, H7.out.1, H7.out.2⟩

set_option maxHeartbeats 800000 in
theorem impl_HullSteps (A : Option Addr) (ss : List ByteArray) (c : Nat) (w : World) (h : Row w w.heap.size A (strs ss)) (hcap : ss.length ≤ c) (hl : ss.length ≤ 9223372036854775807) (hs : ∀ s ∈ ss, s.size ≤ 9223372036854775807) :
    Calls Tryd.prog 23 #[.slice A ss.length c] w (OkSS 22 9 w (strss (hsOf ss)) (W.isSet ss)) := by
  have hc := impl_IsSet A ss c w h hl hs
  cases hq : W.isSet ss
  · rw [hsOf_no hq]
    rw [hq] at hc
    replace hc := Lib.hid hc
    clear hq h hs
    go_enter Tryd.func23, Tryd.ntmps23
    go_wp2_with (go_at_call 31; refine hc.out.mono ?_; rintro e w1 ⟨rfl, hB⟩)
    go_ret2
    exact okSS_nil _ _ _ _ _ hB
  · rw [hsOf_yes hq]
    have hw := fun (u : World) (hb : Below w.heap.size w u) => impl_hullSteps A ss c u ((h.below hb).more hb.size) hq hcap
    rw [hq] at hc
    replace hc := Lib.hid hc
    clear hq h hs
    generalize hlB ss = R at hw ⊢
    replace hw := Lib.hid hw
    go_enter Tryd.func23, Tryd.ntmps23
    go_wp2_with fail
    refine hc.out.mono ?_
    rintro e w1 ⟨rfl, hB⟩
    have hB0 : Below w.heap.size w w1 := hB
    have HB0 := Lib.hid hB0
    have hw2 := Lib.hid (hw.out _ hB0)
    clear hB0 hB
    go_wp2_with fail
    refine hw2.out.mono ?_
    rintro e w2 ⟨A1, c1, rfl, ho, hB2⟩
    have HO := Lib.hid (And.intro (ownSS_lower ho HB0.out.size) (HB0.out.trans (hB2.mono HB0.out.size)))
    clear ho hB2
    go_wp2
    go_ret2
    exact okSS_of HO.out.1 rfl HO.out.2
set_option maxHeartbeats 1600000 in
theorem impl_FreeHull (A : Option Addr) (ss : List ByteArray) (c : Nat) (w : World) (h : Row w w.heap.size A (strs ss)) (hcap : ss.length ≤ c) (hl : ss.length ≤ 9223372036854775807) (hs : ∀ s ∈ ss, s.size ≤ 9223372036854775807) :
    Calls Tryd.prog 21 #[.slice A ss.length c] w (OkStrs w (fhOf ss) (W.isSet ss)) := by
  have hc := impl_IsSet A ss c w h hl hs
  cases hq : W.isSet ss
  · rw [fhOf_no hq]
    rw [hq] at hc
    replace hc := Lib.hid hc
    clear hq h hs
    go_enter Tryd.func21, Tryd.ntmps21
    go_wp2_with (go_at_call 31; refine hc.out.mono ?_; rintro e w1 ⟨rfl, hB⟩)
    go_ret2
    exact okStrs_nil _ _ _ hB
  · rw [fhOf_yes hq]
    have hw := fun (u : World) (hb : Below w.heap.size w u) => impl_hullSteps A ss c u ((h.below hb).more hb.size) hq hcap
    obtain ⟨out, hout⟩ := hlB_last ss
    have hon : out.length ≤ 98 := by
      have := hlB_length ss
      rw [hout, List.length_append] at this
      omega
    rw [hq] at hc
    replace hc := Lib.hid hc
    clear hq h hs
    rw [hout] at hw
    generalize lastL (hlB ss) = l at hw ⊢
    have hlen := Lib.hid (show (strss (out ++ [l])).length = out.length + 1 by rw [strss_length, List.length_append]; rfl)
    replace hw := Lib.hid hw
    clear hout
    go_enter Tryd.func21, Tryd.ntmps21
    go_wp2_with fail
    refine hc.out.mono ?_
    rintro e w1 ⟨rfl, hB⟩
    have hB0 : Below w.heap.size w w1 := hB
    have HB0 := Lib.hid hB0
    have hw2 := Lib.hid (hw.out _ hB0)
    clear hB0 hB
    go_wp2_with fail
    refine hw2.out.mono ?_
    rintro e w2 ⟨A1, c1, rfl, ⟨vs, hV⟩, hB2⟩
    obtain ⟨Al, cl, hlast, hrow⟩ := ss_last hV
    have hown := hV.own
    rw [hlen.out] at hown ⊢
    obtain ⟨g0, rfl, hg0, hg1⟩ := own_form hown (by omega)
    have c1 := hown.cellAt out.length (by omega)
    rw [hlast] at c1
    have HO := Lib.hid (And.intro (own_base hrow HB0.out.size) (HB0.out.trans (hB2.mono HB0.out.size)))
    clear hV hown hlast hrow hB2 hw2
    have hsub : ((out.length : Int) + 1) - 1 = (out.length : Int) := by omega
    go_wp2
    go_ret2
    exact okStrs_of HO.out.1 rfl HO.out.2
theorem hsOf_bd (ss : List ByteArray) : offS (hsOf ss) (hsOf ss).length ≤ 1125899906842624 ∧ ∀ x ∈ hsOf ss, x.length ≤ 1125899906842624 := by
  have h1 := offS_bd (hsOf ss) 12 (hsOf_12 ss) (hsOf ss).length (Nat.le_refl _)
  have h2 := hsOf_len ss
  exact ⟨by omega, fun x hx => by have := hsOf_12 ss x hx; omega⟩
end Go.Proofs.YtlmcemdbalhkiaaDoor
