/-
  WHAT THIS FILE PROVES: the first weights that are too heavy: the program hands back a slice of its own; asked: slices in memory, lengths that an int holds.
-/
import Derived.Test.YthhiegcdocjfkaaDoorHvS
import Derived.Test.YthhiegcdocjfkaaDoorSwI
import Derived.Test.YthhiegcdocjfkaaDoorLwM
namespace Go.Proofs.YthhiegcdocjfkaaDoor
open Go.RowKit Go.Shelf

/-- the call hands back lists of numbers in slices of its own -/
def GivesWts (w : World) (l : List (List Int)) (e : Ending) (w' : World) : Prop :=
  ∃ (A : Option Addr) (c : Nat) (vs : List Value), e = .returned (.slice A l.length c) ∧ Row w' w'.heap.size A vs ∧ vs.length = l.length ∧ (∀ (i : Nat) (x : List Int), l[i]? = some x → ∃ (A' : Option Addr) (c' : Nat), vs[i]? = some (Value.slice A' x.length c') ∧ w'.ownsRow w.heap.size 3 1 (Value.slice A' x.length c') x.length (ints x)) ∧ Below w.heap.size w w'
theorem Row.tail1 {w : World} {B b off : Nat} {v : Value} {vs : List Value} (h : Row w B (some ⟨b, off, none⟩) (v :: vs)) : Row w B (some ⟨b, off + 1, none⟩) vs := fun _ => by
  obtain ⟨b', off', e, hb, hc⟩ := h (by simp)
  cases e
  exact ⟨b, off + 1, rfl, hb, fun k u hk => by
    have := hc (k + 1) u (by simpa using hk)
    rw [show off + 1 + k = off + (k + 1) by omega]
    exact this⟩
/-- what weightsUpTo gives, of all that it has listed -/
theorem wts_of {w w' : World} {b c : Nat} {vs : List Value} {l : List (List Int)} {x0 : List Int} (h : OwnAt w' w.heap.size 43 3 (.slice (some ⟨b, 0, none⟩) (l.length + 1) c) vs (intss (x0 :: l))) (hB : Below w.heap.size w w') :
    GivesWts w l (.returned (.slice (some ⟨b, 1, none⟩) l.length (c - 1))) w' := by
  have hlen := h.len
  rw [intss_length] at hlen
  have hown : w'.ownsRow w.heap.size 43 1 (.slice (some ⟨b, 0, none⟩) (l.length + 1) c) (l.length + 1) vs := by
    have := h.own
    rwa [intss_length] at this
  cases vs with
  | nil => exact absurd hlen (by simp)
  | cons v0 vr =>
    refine ⟨some ⟨b, 1, none⟩, c - 1, vr, rfl, Row.tail1 (off := 0) (Row.of_own hown), by simpa using hlen, fun i x hx => ?_, hB⟩
    obtain ⟨A', c', h1, h2⟩ := h.inner (i + 1) (ints x) (by
      unfold intss
      rw [List.map_cons, List.getElem?_cons_succ, List.getElem?_map, hx]
      exact rfl)
    rw [ints_length] at h1 h2
    exact ⟨A', c', by simpa using h1, h2⟩
theorem pre_intss (m a b k : Nat) : (intss (W.pre m a b k)).length = (W.pre m a b k).length := intss_length _
set_option maxHeartbeats 6400000 in
theorem impl_weightsUpTo (m : Nat) (l : List (List Int)) (hl : W.allW m = [0, 0, 0] :: l) (hm : m < 7) (hl0 : 1 ≤ l.length) (w : World) :
    Calls Tryd.prog 35 #[.int .i64 m] w (GivesWts w l) := by
  obtain ⟨i0, hi, hz0, hz1, hz2⟩ := info_parts infoLw
  have HR := Lib.hid (And.intro hi (And.intro hz0 (And.intro hz1 hz2)))
  have Hfin := Lib.hid (show W.pre m (m + 1) 0 0 = [0, 0, 0] :: l from (W.pre_all m).trans hl)
  have Hplen := Lib.hid (fun a b k (ha : a ≤ m + 1) (hb : b ≤ m - a + 1) (hk : k ≤ m - a - b + 1) => W.pre_len hm ha hb hk)
  clear hi hz0 hz1 hz2 hl
  go_enter Tryd.func35, Tryd.ntmps35
  go_wp2
  go_loopw [3, 9] (fun v av wr => ∃ (a : Nat) (vs : List Value), a ≤ m + 1 ∧ av = .int .i64 a ∧ OwnAt wr w.heap.size 43 3 v vs (intss (W.pre m a 0 0)) ∧ Below w.heap.size w wr) (fun _ av _ => m + 1 - (intOf av).toNat)
  case atStart => exact ⟨0, [], Nat.zero_le _, rfl, ownAt_nil _ _ _ _, Below.refl _ _⟩
  case round =>
    obtain ⟨a, vs, ha, rfl, hV, hB⟩ := hrel
    have hO := Lib.hid (And.intro hV hB)
    generalize wr = wa at *
    by_cases hlt : a ≤ m
    · have hlt' : (a : Int) < (m : Int) + 1 := by omega
      clear hV hB
      go_wp2
      go_loopw [3, 16] (fun v bv wr => ∃ (b : Nat) (vs : List Value), a + b ≤ m + 1 ∧ bv = .int .i64 b ∧ OwnAt wr w.heap.size 43 3 v vs (intss (W.pre m a b 0)) ∧ Below w.heap.size w wr) (fun _ bv _ => m + 1 - (intOf bv).toNat)
      case atStart => exact ⟨0, vs, by omega, rfl, hO.out.1, hO.out.2⟩
      case round =>
        clear hO
        obtain ⟨b, vs2, hb, rfl, hV, hB⟩ := hrel
        have hO := Lib.hid (And.intro hV hB)
        generalize wr = wb at *
        by_cases hltb : a + b ≤ m
        · have hltb' : (b : Int) < (m : Int) - a + 1 := by omega
          clear hV hB
          go_wp2
          go_loopw [3, 25] (fun v cv wr => ∃ (k : Nat) (vs : List Value), a + b + k ≤ m + 1 ∧ cv = .int .i64 k ∧ OwnAt wr w.heap.size 43 3 v vs (intss (W.pre m a b k)) ∧ Below w.heap.size w wr) (fun _ cv _ => m + 1 - (intOf cv).toNat)
          case atStart => exact ⟨0, vs2, by omega, rfl, hO.out.1, hO.out.2⟩
          case round =>
            clear hO
            obtain ⟨k, vs3, hk, rfl, hV, hB⟩ := hrel
            generalize wr = wc at *
            obtain ⟨Av, cv, rfl⟩ := own_slice hV.own
            obtain ⟨N, hN⟩ : ∃ N, N = (intss (W.pre m a b k)).length := ⟨_, rfl⟩
            have hO := Lib.hid (And.intro hV hB)
            have hNl : N ≤ 600 := by rw [hN, intss_length]; exact Hplen.out a b k (by omega) (by omega) (by omega)
            rw [← hN]
            have hsz := hB.size
            by_cases hltc : a + b + k ≤ m
            · have hltc' : (k : Int) < (m : Int) - a - b + 1 := by omega
              have hpl := Lib.hid (show (W.pre m a b k).length = N by rw [hN, intss_length])
              have hx := Lib.hid (own_three wc wc (a : Int) (b : Int) (k : Int) (Nat.le_refl _))
              have hBx := Lib.hid ((Below.refl wc.heap.size wc).alloc (Nat.le_refl _) (.cells #[.int .i64 (a : Int), .int .i64 (b : Int), .int .i64 (k : Int)] 3))
              have hV2 := Lib.hid (show ((wc.alloc (.cells #[.int .i64 (a : Int), .int .i64 (b : Int), .int .i64 (k : Int)] 3)).alloc (.cells #[.slice (some ⟨wc.heap.size, 0, none⟩) 3 3] 43)).ownsRow w.heap.size 43 1 (.slice Av N cv) N vs3 from by
                have := ((hO.out.1.below hBx.out).below ((Below.refl _ _).alloc (Nat.le_refl _) (.cells #[.slice (some ⟨wc.heap.size, 0, none⟩) 3 3] 43))).own
                rwa [← hN] at this)
              have hB3 := Lib.hid ((hO.out.2.trans (hBx.out.mono hsz)).alloc (Nat.le_trans hsz hBx.out.size) (.cells #[.slice (some ⟨wc.heap.size, 0, none⟩) 3 3] 43))
              have hszw : (wc.alloc (.cells #[.int .i64 (a : Int), .int .i64 (b : Int), .int .i64 (k : Int)] 3)).heap.size = wc.heap.size + 1 := Array.size_push ..
              replace hszw := Lib.hid hszw
              replace hN := Lib.hid hN
              clear hV hB
              go_wp2_with (at_builtin; refine wpList_append_own _ rfl _ _ 48 rfl w.heap.size 43 i0 (.slice none 0 0) 1 24 Tryd.underlying48 HR.out.1 HR.out.2.1 HR.out.2.2.1 HR.out.2.2.2 rfl (by decide) (.slice Av N cv) N vs3 rfl hV2.out ⟨wc.heap.size + 1, 0, none⟩ 1 1 [.slice (some ⟨wc.heap.size, 0, none⟩) 3 3] rfl rfl ?c1 (one_slw _ _ _) ?c3 ?c4 ?c5 ?_)
              case c1 =>
                rw [← hszw.out]
                exact cells_slw _ _ _
              case c3 => unfold maxLen; omega
              case c4 => omega
              case c5 => simp; omega
              intro v5 w5 ho5 hg5 _
              have hP5 := lw_push hO.out.1 hsz hBx.out hx.out (by rw [hpl.out]; exact ho5) (by rw [← hN.out]; exact hg5)
              have hB5 := hB3.out.grown hg5 (by simp; omega) (fun g hg => (hV2.out.lt g hg).1)
              have H5 := Lib.hid (And.intro hP5 hB5)
              have Hpc := Lib.hid (W.pre_c m a b k)
              clear hP5 hB5 ho5 hg5 hV2 hB3 hO hx hBx hN
              go_wp2
              go_roundw
              case rel => exact ⟨k + 1, _, by omega, by go_num, by rw [Hpc.out]; exact H5.out.1, H5.out.2⟩
              case measure => simp [intOf]; omega
            · have hltc' : ¬ ((k : Int) < (m : Int) - a - b + 1) := by omega
              have Hpb := Lib.hid (show W.pre m a b k = W.pre m a (b + 1) 0 by rw [show k = m - a - b + 1 by omega, W.pre_b])
              replace hN := Lib.hid hN
              clear hV hB
              go_wp2
              go_roundw
              case rel => exact ⟨b + 1, vs3, by omega, by go_num, by rw [← Hpb.out, hN.out]; exact hO.out.1, hO.out.2⟩
              case measure => simp [intOf]; omega
        · have hltb' : ¬ ((b : Int) < (m : Int) - a + 1) := by omega
          have Hpa := Lib.hid (show W.pre m a b 0 = W.pre m (a + 1) 0 0 by rw [show b = m - a + 1 by omega, W.pre_a])
          clear hV hB
          go_wp2
          go_roundw
          case rel => exact ⟨a + 1, vs2, by omega, by go_num, by rw [← Hpa.out]; exact hO.out.1, hO.out.2⟩
          case measure => simp [intOf]; omega
    · have hlt' : ¬ ((a : Int) < (m : Int) + 1) := by omega
      obtain rfl : a = m + 1 := by omega
      clear hV hB
      obtain ⟨hV, hB⟩ := hO.out
      rw [Hfin.out] at hV
      obtain ⟨Av, cv, rfl⟩ := own_slice hV.own
      have e : (intss ([0, 0, 0] :: l)).length = l.length + 1 := by rw [intss_length]; rfl
      rw [e] at hV ⊢
      have hown : wa.ownsRow w.heap.size 43 1 (.slice Av (l.length + 1) cv) (l.length + 1) vs := by
        have := hV.own
        rwa [e] at this
      obtain ⟨g0, rfl, hg0, hg1⟩ := own_form hown (by omega)
      have hcap := own_cap hown
      have Hw := Lib.hid (wts_of hV hB)
      have hc1 : ¬ ((cv : Int) < 1) := by omega
      have hl1 : ¬ ((l.length : Int) + 1 < 1) := by omega
      have hne : ¬ (cv = 1) := by omega
      clear hV hB hO hown e
      go_wp2
      go_ret
      exact Hw.out
set_option maxHeartbeats 6400000 in
theorem impl_FirstTooHeavy (A : Option Addr) (ss : List ByteArray) (c : Nat) (n : Int) (w : World) (h : Row w w.heap.size A (strs ss)) (hl : ss.length ≤ 9223372036854775807) (hs : ∀ s ∈ ss, s.size ≤ 9223372036854775807) :
    Calls Tryd.prog 18 #[.slice A ss.length c, .int .i64 n] w (OkInts w (W.fhOf ss n) (W.fhOk ss n)) := by
  have hc := impl_IsSet A ss c w h hl hs
  cases h1 : W.isSet ss
  · have hno : W.fhAsk ss n = false := by unfold W.fhAsk; rw [h1]; rfl
    rw [(W.fh_no hno).1, (W.fh_no hno).2]
    rw [h1] at hc
    replace hc := Lib.hid hc
    clear hno h1 h hs
    go_enter Tryd.func18, Tryd.ntmps18
    go_wp2_with (go_at_call 28; refine hc.out.mono ?_; rintro e w' ⟨rfl, hB1⟩)
    go_ret2
    exact okInts_nil _ _ _ hB1
  · rw [h1] at hc
    replace hc := Lib.hid hc
    by_cases hr1 : 1 ≤ n
    · by_cases hr2 : n ≤ 6
      · have hask : W.fhAsk ss n = true := by unfold W.fhAsk; rw [h1, decide_eq_true ⟨hr1, hr2⟩]; rfl
        obtain ⟨m, rfl⟩ := Int.eq_ofNat_of_zero_le (show 0 ≤ n by omega)
        have hm : m < 7 := by omega
        have hm1 : 1 ≤ m := by omega
        obtain ⟨l, hal, hlw, hl83⟩ := W.all_head m hm
        have hl0 : 1 ≤ l.length := by
          have : ∀ m, m < 7 → 1 ≤ m → 2 ≤ (W.allW m).length := by decide +kernel
          have h2 := this m hm hm1
          rw [hal, List.length_cons] at h2
          omega
        obtain ⟨R, hR⟩ : ∃ R, R = W.fhOf ss m := ⟨_, rfl⟩
        obtain ⟨K, hK⟩ : ∃ K, K = W.fhOk ss m := ⟨_, rfl⟩
        show Calls _ _ _ _ (OkInts w (W.fhOf ss (m : Int)) (W.fhOk ss (m : Int)))
        rw [← hR, ← hK]
        have Hyes := Lib.hid (show ∀ (k : Nat) (x : List Int), l[k]? = some x → (l.take k).find? (W.heavyW ss) = none → W.heavyW ss x = true → R = x ∧ K = true from fun k x hx hn hh => by
          have := W.fh_some hask ((W.fh_list hal).trans (W.find_at hn hx hh))
          exact ⟨hR.trans this.1, hK.trans this.2⟩)
        have Hno := Lib.hid (show (l.take l.length).find? (W.heavyW ss) = none → R = [] ∧ K = false from fun hn => by
          rw [List.take_length] at hn
          have := W.fh_none hask ((W.fh_list hal).trans hn)
          exact ⟨hR.trans this.1, hK.trans this.2⟩)
        have h12 := W.isSet_len ss h1
        have hSh := W.set_Sh8 h1
        have Hw := Lib.hid (show ∀ (k : Nat) (x : List Int), l[k]? = some x → W.wtB x = true ∧ x.length = 3 from fun k x hx => by
          have h5 := List.all_eq_true.1 hlw x (List.mem_of_getElem? hx)
          exact ⟨h5, (W.flB_mem (W.wtB_fl h5)).1⟩)
        have hsum := Lib.hid (fun (x : List Int) (hz : W.wtB x = true) (C : Option Addr) (g : Nat) (u : World) (h0 : Row u u.heap.size A (strs ss)) (hq : Row u u.heap.size C (ints x)) => parts_sum A ss c C x g u h0 hq hz hSh (by omega))
        have hup := Lib.hid (fun u => impl_weightsUpTo m l hal hm hl0 u)
        replace h := Lib.hid h
        clear hask hR hK hs h1 hSh hal hlw hl0
        go_enter Tryd.func18, Tryd.ntmps18
        go_wp2_with (go_at_call 28; refine hc.out.mono ?_; rintro e w1 ⟨rfl, hB1⟩)
        replace hB1 := Lib.hid hB1
        have hup1 := Lib.hid (hup.out w1)
        refine hup1.out.mono ?_
        rintro e w2 ⟨A2, c2, vs, rfl, hrow, hvl, hin, hB2⟩
        have H2 := Lib.hid (hB1.out.trans (hB2.mono hB1.out.size))
        have hsz1 := Lib.hid hB1.out.size
        have HV := Lib.hid (And.intro hrow (And.intro hvl hin))
        clear hB2 hrow hvl hin hup1
        go_wp2
        go_loopw [23] (fun i wr => ∃ k : Nat, k ≤ l.length ∧ i = .int .i64 k ∧ Hid ((l.take k).find? (W.heavyW ss) = none) ∧ Below w2.heap.size w2 wr) (fun i _ => l.length - (intOf i).toNat)
        case atStart => exact ⟨0, Nat.zero_le _, rfl, rfl, Below.refl _ _⟩
        case round =>
          obtain ⟨k, hk, rfl, hN0, hB⟩ := hrel
          replace hB := Lib.hid hB
          have H3 := Lib.hid (H2.out.trans (hB.out.mono H2.out.size))
          by_cases hlt : k < l.length
          · have hlt' : (k : Int) < (l.length : Int) := by omega
            obtain ⟨x, hx⟩ : ∃ x, l[k]? = some x := ⟨_, List.getElem?_eq_getElem hlt⟩
            obtain ⟨A', c', hv, how⟩ := HV.out.2.2 k x hx
            obtain ⟨b, off, rfl, hb, hcc⟩ := HV.out.1 (by rw [HV.out.2.1]; omega)
            have c1 := (hB.out.cell (p := ⟨b, off + k, none⟩) hb).trans (hcc k _ hv)
            obtain ⟨hz, hx3⟩ := Hw.out k x hx
            have how1 := Lib.hid (own_base (own_below how hB.out) hsz1.out)
            obtain ⟨pq, hpq⟩ : ∃ pq, pq = W.low (W.suL x W.oneT ss) (W.wtT x ^ 8) := ⟨_, rfl⟩
            have hH := Lib.hid (heavy_is hz hpq)
            have hs1 := hsum.out x hz A' c' wr ((h.out.below H3.out).more H3.out.size) (Row.of_own how1.out)
            rw [← hpq] at hs1
            obtain ⟨p, q⟩ := pq
            dsimp only at hs1
            have Hx := Lib.hid hx
            replace hx3 := Lib.hid hx3
            replace hs1 := Lib.hid hs1
            clear hz hpq hx hv how hcc
            go_wp2_with fail
            refine hs1.out.mono ?_
            rintro e w3 ⟨rfl, hB3⟩
            have H4 := Lib.hid (H3.out.trans ((hB3.alloc hB3.size (.cells #[.int .i64 (p : Int), .int .i64 (q : Int)] 26)).mono H3.out.size))
            have hB5 := Lib.hid (hB.out.trans ((hB3.alloc hB3.size (.cells #[.int .i64 (p : Int), .int .i64 (q : Int)] 26)).mono hB.out.size))
            have how3 := Lib.hid (own_below how1.out (hB3.alloc hB3.size (.cells #[.int .i64 (p : Int), .int .i64 (q : Int)] 26)))
            clear hB3 hs1
            by_cases hpq : q < p
            · have hpq' : (q : Int) < (p : Int) := by omega
              obtain ⟨rfl, rfl⟩ := Hyes.out k x Hx.out hN0.out (hH.out.trans (decide_eq_true hpq))
              go_wp2
              go_ret2
              exact okInts_of how3.out rfl H4.out
            · have hpq' : ¬ ((q : Int) < (p : Int)) := by omega
              have hN := Lib.hid (W.find_next hN0.out Hx.out (hH.out.trans (decide_eq_false hpq)))
              go_wp2
              go_roundw
              case rel => exact ⟨k + 1, by omega, by go_num, hN, hB5.out⟩
              case measure => simp [intOf]; omega
          · obtain rfl : k = l.length := by omega
            obtain ⟨rfl, rfl⟩ := Hno.out hN0.out
            go_wp2
            go_ret2
            exact okInts_nil _ _ _ H3.out
      · have hno : W.fhAsk ss n = false := by unfold W.fhAsk; rw [decide_eq_false (fun h => hr2 h.2), Bool.and_false]
        rw [(W.fh_no hno).1, (W.fh_no hno).2]
        clear hno h1 h hs
        go_enter Tryd.func18, Tryd.ntmps18
        go_wp2_with (go_at_call 28; refine hc.out.mono ?_; rintro e w' ⟨rfl, hB1⟩)
        go_ret2
        exact okInts_nil _ _ _ hB1
    · have hno : W.fhAsk ss n = false := by unfold W.fhAsk; rw [decide_eq_false (fun h => hr1 h.1), Bool.and_false]
      rw [(W.fh_no hno).1, (W.fh_no hno).2]
      clear hno h1 h hs
      go_enter Tryd.func18, Tryd.ntmps18
      go_wp2_with (go_at_call 28; refine hc.out.mono ?_; rintro e w' ⟨rfl, hB1⟩)
      go_ret2
      exact okInts_nil _ _ _ hB1
end Go.Proofs.YthhiegcdocjfkaaDoor
