/-
  WHAT THIS FILE PROVES: all lists of lengths that fill a share: the program's functions give the plain ones, in a slice of slices of the call's own; asked: numbers that an int holds.
-/
import Derived.Test.YtnfimfapdmkobaaKrB
import Derived.Test.YtnfimfapdmkobaaKrI
namespace Go.Proofs.Ytnfimfapdmkobaa
open Go.RowKit Go.Shelf

theorem fl_zero (L most fr share : Nat) : fl L most 0 fr share = if share = 0 then [[]] else [] := rfl
/-- a list of one row, made of two -/
theorem fl_stop (L most n fr share k : Nat) (h2 : 2 ≤ L) (hk : k ≤ most + 1 - fr) (h : (n + 1) * W.part L ((fr + k : Nat) : Int) < share) : fl L most (n + 1) fr share = flTo L most n fr share k := by
  have h1 := flTo_stop L most n fr share k h2 h (most + 1 - fr - k)
  rw [show k + (most + 1 - fr - k) = most + 1 - fr by omega, flTo_all] at h1
  exact h1
/-- the first r rows, a number in front -/
def fronts (l : Int) (xss : List (List Int)) (r : Nat) : List (List Int) := (xss.take r).map fun x => l :: x
theorem fronts_zero (l : Int) (xss : List (List Int)) : fronts l xss 0 = [] := rfl
theorem fronts_all (l : Int) (xss : List (List Int)) : fronts l xss xss.length = xss.map fun x => l :: x := by unfold fronts; rw [List.take_length]
theorem fronts_succ (l : Int) (xss : List (List Int)) (r : Nat) (h : r < xss.length) : fronts l xss (r + 1) = fronts l xss r ++ [[l] ++ xss[r]] := by
  unfold fronts
  rw [List.take_succ_eq_append_getElem h, List.map_append]
  rfl
theorem fronts_length (l : Int) (xss : List (List Int)) (r : Nat) (h : r ≤ xss.length) : (fronts l xss r).length = r := by
  unfold fronts
  rw [List.length_map, List.length_take]
  omega
/-- the rows of one slice lie apart from another slice of slices -/
theorem OwnAt.apart {w : World} {base base' n : Nat} {E e : TypeId} {v v' : Value} {vs vs' : List Value} {xss : List (List Value)} (h : OwnAt w base E e v vs xss) (hne : e ≠ E) (h' : w.ownsRow base' E 1 v' n vs') : ∀ u ∈ vs, u.ownBlock = none ∨ u.ownBlock ≠ v'.ownBlock := fun u hu => by
  obtain ⟨i, hi, rfl⟩ := List.getElem_of_mem hu
  have hl := h.len
  obtain ⟨A, c, h1, h2⟩ := h.inner i (xss[i]'(by omega)) (List.getElem?_eq_getElem (by omega))
  rw [List.getElem?_eq_getElem hi] at h1
  injection h1 with h1
  rw [h1]
  exact own_apart h2 h' hne
/-- the library's Concat of a number alone and a slice: they lie in blocks of its own -/
theorem concat_front (l : Int) (A2 : Option Addr) (s2 : List Int) (c2 : Nat) (w1 W2 : World) (hW : W2 = (w1.alloc (.cells #[.int .i64 l] 3)).alloc (.cells #[.slice (some ⟨w1.heap.size, 0, none⟩) 1 1, .slice A2 s2.length c2] 34))
    (h2 : Row w1 w1.heap.size A2 (ints s2)) (l2 : s2.length ≤ 262144) :
    Calls Try.prog 27 #[.slice (some ⟨w1.heap.size + 1, 0, none⟩) 2 2] W2 (GivesInts W2 (l :: s2)) := by
  have hs : (w1.alloc (.cells #[.int .i64 l] 3)).heap.size = w1.heap.size + 1 := by simp
  have hB : Below w1.heap.size w1 (w1.alloc (.cells #[.int .i64 l] 3)) := (Below.refl _ _).alloc (Nat.le_refl _) _
  have hBa : Below w1.heap.size w1 W2 := by rw [hW]; exact hB.alloc hB.size _
  have h1 : (w1.alloc (.cells #[.int .i64 l] 3)).ownsRow w1.heap.size 3 1 (.slice (some ⟨w1.heap.size, 0, none⟩) 1 1) 1 (ints [l]) :=
    World.ownsRow_lit (base := w1.heap.size) (e := 3) (size := 1) w1 #[.int .i64 l] 1 (Nat.le_refl _) (by unfold maxLen; omega) rfl
  have h1' : Row W2 W2.heap.size (some ⟨w1.heap.size, 0, none⟩) (ints [l]) := by
    have h3 : Row (w1.alloc (.cells #[.int .i64 l] 3)) (w1.alloc (.cells #[.int .i64 l] 3)).heap.size (some ⟨w1.heap.size, 0, none⟩) (ints [l]) := Row.of_own h1
    have h4 : Below (w1.alloc (.cells #[.int .i64 l] 3)).heap.size (w1.alloc (.cells #[.int .i64 l] 3)) W2 := by rw [hW]; exact (Below.refl _ _).alloc (Nat.le_refl _) _
    exact (h3.below h4).more h4.size
  have hc := slices_Concat2I (w1.heap.size + 1) (some ⟨w1.heap.size, 0, none⟩) A2 [l] s2 1 c2 W2 (by rw [hW]; simp) (by rw [hW, World.cell?_alloc_at _ _ _ _ (by rw [hs])]; rfl) (by rw [hW, World.cell?_alloc_at _ _ _ _ (by rw [hs])]; rfl) h1' ((h2.below hBa).more hBa.size) (by simp) l2
  exact hc
/-- what fullLengths of n numbers gives -/
def FullAt (L most n : Nat) : Prop := ∀ (fr share S : Nat) (w : World), 1 ≤ fr → fr ≤ 9 → share ≤ 6561 → S = L ^ 3 * share →
    Calls Try.prog 24 #[.int .i64 n, .int .i64 fr, .int .i64 most, .int .i64 L, .int .i64 S] w (GivesSS 34 3 w (intss (fl L most n fr share)))
set_option maxHeartbeats 3200000 in
theorem impl_full0 (L most : Nat) (_hm : most ≤ 8) (h2 : 2 ≤ L) (h3 : L ≤ 3) : FullAt L most 0 := by
    intro fr share S w hf1 hf9 hs hS
    rw [fl_zero]
    have hSz : share = 0 ↔ S = 0 := by
      rw [hS, Nat.mul_eq_zero]
      have : L ^ 3 ≠ 0 := Nat.ne_of_gt (Nat.pow_pos (by omega))
      exact ⟨.inr, fun h => h.resolve_left this⟩
    clear hS
    by_cases h0 : share = 0
    · obtain rfl := hSz.1 h0
      rw [if_pos h0]
      clear hSz h0
      go_enter Try.func24, Try.ntmps24
      go_wp2
      go_ret
      exact givesSS_of ⟨_, own_single (A := none) (c := 0) (z := []) rfl (World.ownsRow_nil _ _ _ _) (Nat.le_refl w.heap.size)⟩ rfl ((Below.refl _ _).alloc (Nat.le_refl _) _)
    · have hS0 : 0 < S := Nat.pos_of_ne_zero fun h => h0 (hSz.2 h)
      have hne : ((S : Int) == 0) = false := beq_eq_false_iff_ne.2 (by omega)
      rw [if_neg h0]
      clear hSz
      go_enter Try.func24, Try.ntmps24
      go_wp2
      go_loopw [11, 12] (fun v lv wr => v = .slice none 0 0 ∧ lv = .int .i64 (fr : Int) ∧ wr = w) (fun _ _ _ => 0)
      case atStart => exact ⟨rfl, rfl, rfl⟩
      case round =>
        obtain ⟨rfl, rfl, rfl⟩ := hrel
        by_cases hle : (fr : Int) ≤ (most : Int)
        · have hpw := Lib.hid (fun u => impl_partsOf L (fr : Int) u h3 (by omega) (by omega))
          generalize W.partD L (fr : Int) = p at hpw
          have hp0 : (0 : Int) < (S : Int) := by omega
          go_wp2_with (go_at_call 26; refine (hpw.out _).mono ?_; rintro e w' ⟨rfl, rfl⟩)
          go_ret
          exact ⟨none, 0, rfl, ⟨[], ownAt_nil _ _ _ _⟩, Below.refl _ _⟩
        · go_wp2
          go_ret
          exact ⟨none, 0, rfl, ⟨[], ownAt_nil _ _ _ _⟩, Below.refl _ _⟩
set_option maxHeartbeats 6400000 in
theorem impl_fullS (L most : Nat) (hm : most ≤ 8) (h2 : 2 ≤ L) (h3 : L ≤ 3) (n : Nat) (hn : n + 1 ≤ 12) (hrec : FullAt L most n) : FullAt L most (n + 1) := by
    intro fr share S w hf1 hf9 hs hS
    have HS := Lib.hid hS
    have hS9 : S ≤ 177147 := by
      rw [hS]
      exact Nat.le_trans (Nat.mul_le_mul (Nat.pow_le_pow_left h3 3) hs) (by decide)
    have hc0 : 0 < L ^ 3 := Nat.pow_pos (by omega)
    replace hc0 := Lib.hid hc0
    clear hS
    have ih := Lib.hid (fun fr share S w => hrec fr share S w)
    clear hrec
    have Hst := Lib.hid (fun k => flTo_succ L most n fr share k)
    have Hall := Lib.hid (flTo_all L most n fr share)
    have Hbr := Lib.hid (fun k => fl_stop L most n fr share k h2)
    have Hlen := Lib.hid (fun k (hk : fr + k ≤ 9) => Nat.le_trans (flTo_length L most n fr share k hm hf1 hk) (pow8 hn))
    obtain ⟨i0, hi, hz0, hz1, hz2⟩ := info_parts infoInts
    have HR := Lib.hid (And.intro hi (And.intro hz0 (And.intro hz1 hz2)))
    have hn0 : (((n + 1 : Nat) : Int) == 0) = false := beq_eq_false_iff_ne.2 (by omega)
    have hn1 : ((n + 1 : Nat) : Int) - 1 = (n : Int) := by omega
    clear hi hz0 hz1 hz2
    generalize hN : ((n + 1 : Nat) : Int) = N at hn0 hn1 ⊢
    replace hN := Lib.hid hN
    replace hn1 := Lib.hid hn1
    have hN0 : 0 ≤ N := by have := hN.out; omega
    have hN12 : N ≤ 12 := by have := hN.out; omega
    go_enter Try.func24, Try.ntmps24
    go_wp2
    go_loopw [11, 12] (fun v lv wr => ∃ (k : Nat) (vs : List Value), k ≤ most + 1 - fr ∧ lv = .int .i64 ((fr + k : Nat) : Int) ∧ OwnAt wr w.heap.size 34 3 v vs (intss (flTo L most n fr share k)) ∧ Below w.heap.size w wr) (fun _ lv _ => most + 1 - (intOf lv).toNat)
    case atStart => exact ⟨0, [], Nat.zero_le _, by simp, ownAt_nil _ _ _ _, Below.refl _ _⟩
    case round =>
      obtain ⟨k, vs, hk, rfl, hV, hB⟩ := hrel
      generalize wr = wk at *
      obtain ⟨Av, cv, rfl⟩ := own_slice hV.own
      have hO := Lib.hid (And.intro hV hB)
      have hszk := hB.size
      have hst := Lib.hid (Hst.out k)
      have hbr := Lib.hid (Hbr.out k hk)
      clear hV hB
      by_cases hlt : k < most + 1 - fr
      · have hl8 : fr + k ≤ 8 := by omega
        have hllen := Hlen.out k (by omega)
        have hllen2 := Hlen.out (k + 1) (by omega)
        have hle : ((fr + k : Nat) : Int) ≤ (most : Int) := by omega
        generalize hl : fr + k = l at *
        have hl1 : 1 ≤ l := by omega
        have hl' : (l : Int) ≤ 8 := by omega
        have hl1' : (1 : Int) ≤ (l : Int) := by omega
        have hpw := fun u => impl_partsOf L (l : Int) u h3 hl1' (by omega)
        rw [W.partD_part L (l : Int) hl'] at hpw
        have hp1 := W.part_le L h2 h3 (l : Int) hl1'
        have hno := Lib.hid (flF_no (rec := fl L most n) (L := L) (n := n + 1) (share := share) (l := l))
        have hyes := Lib.hid (flF_yes (rec := fl L most n) (L := L) (n := n + 1) (share := share) (l := l))
        have hqm : (n + 1) * W.part L (l : Int) ≤ 12 * 2187 := Nat.mul_le_mul (by omega) hp1
        have hc27 : L ^ 3 ≤ 27 := Nat.pow_le_pow_left h3 3
        have hmw := mul_wrap (L ^ 3 * W.part L (l : Int)) (n + 1) (by rw [Nat.mul_assoc, Nat.mul_comm (W.part L (l : Int))]; exact Nat.le_trans (Nat.mul_le_mul hc27 hqm) (by decide))
        rw [hN.out, Nat.mul_assoc, Nat.mul_comm (W.part L (l : Int))] at hmw
        have hPle : L ^ 3 * W.part L (l : Int) ≤ 59049 := Nat.le_trans (Nat.mul_le_mul hc27 hp1) (by decide)
        generalize W.part L (l : Int) = p at hpw hp1 hno hyes hqm hmw hbr hPle
        generalize (n + 1) * p = q at hno hyes hqm hmw hbr
        obtain ⟨P, hP⟩ : ∃ P, P = L ^ 3 * p := ⟨_, rfl⟩
        obtain ⟨Q, hQ⟩ : ∃ Q, Q = L ^ 3 * q := ⟨_, rfl⟩
        rw [← hP] at hpw hmw hPle
        rw [← hQ] at hmw
        have hQS : Q < S ↔ q < share := by rw [hQ, HS.out]; exact Nat.mul_lt_mul_left hc0.out
        have hSP : S < P ↔ share < p := by rw [hP, HS.out]; exact Nat.mul_lt_mul_left hc0.out
        have hsubS := Lib.hid (show S - P = L ^ 3 * (share - p) by rw [hP, HS.out, Nat.mul_sub])
        clear hP hQ hc27
        replace hpw := Lib.hid hpw
        by_cases c2 : q < share
        · have c2' : (Q : Int) < (S : Int) := Int.ofNat_lt.2 (hQS.2 c2)
          clear hQS hSP
          have he := Lib.hid (hbr.out c2)
          clear hst hno hyes hbr
          go_wp2_with (go_at_call 26; refine (hpw.out _).mono ?_; rintro e w' ⟨rfl, rfl⟩)
          go_ret
          rw [he.out]
          exact givesSS_of ⟨vs, hO.out.1⟩ rfl hO.out.2
        · have c2' : ¬ ((Q : Int) < (S : Int)) := fun h => c2 (hQS.1 (Int.ofNat_lt.1 h))
          by_cases c1 : share < p
          · have c1' : (S : Int) < (P : Int) := Int.ofNat_lt.2 (hSP.2 c1)
            clear hQS hSP
            have hs := Lib.hid (hst.out.trans (by rw [hno.out (.inl c1), List.append_nil]))
            clear hst hno hyes hbr
            go_wp2_with (go_at_call 26; refine (hpw.out _).mono ?_; rintro e w' ⟨rfl, rfl⟩)
            go_roundw
            case rel => exact ⟨k + 1, vs, by omega, by rw [show fr + (k + 1) = l + 1 by omega]; go_num, by rw [hs.out]; exact hO.out.1, hO.out.2⟩
            case measure => simp [intOf]; omega
          · have c1' : ¬ ((S : Int) < (P : Int)) := fun h => c1 (hSP.1 (Int.ofNat_lt.1 h))
            have c1'' : P ≤ S := by omega
            clear hQS hSP
            have hs := hst.out.trans (by rw [hyes.out (fun h => by rcases h with h | h <;> omega)])
            clear hst hno hyes hbr
            have hr := ih.out l (share - p) (S - P) wk hl1 (by omega) (by omega) hsubS.out
            have hsub : (S : Int) - (P : Int) = ((S - P : Nat) : Int) := by omega
            rw [← hn1.out] at hr
            have hR := Lib.hid (fl_length L most hm n l (share - p) hl1)
            have hRl := Nat.le_trans hR.out.1 (pow8 (show n ≤ 12 by omega))
            rw [← fronts_all] at hs
            replace hs := Lib.hid hs
            generalize fl L most n l (share - p) = R at *
            generalize flTo L most n fr share k = T at hO hs hllen ⊢
            replace hr := Lib.hid hr
            go_wp2_with (go_at_call 26; refine (hpw.out _).mono ?_; rintro e w' ⟨rfl, rfl⟩)
            go_wp2_with fail
            refine hr.out.mono ?_
            rintro e w3 ⟨A3, c3, rfl, ⟨us, hU⟩, hB3⟩
            have hsz3 := hB3.size
            have hO3 := Lib.hid (And.intro (hO.out.1.below hB3) (hO.out.2.trans (hB3.mono hszk)))
            have hU0 := Lib.hid hU
            have hlo := Lib.hid (fun g hg => (hO.out.1.own.lt g hg).2)
            have hTl : (intss T).length ≤ 68719476736 := by rw [intss_length]; exact hllen
            have hlR : (intss R).length = R.length := intss_length R
            clear hU hB3 hr
            rw [hlR]
            rw [hlR] at hU0
            have hdis := Lib.hid (show (Value.slice A3 R.length c3).ownBlock = none ∨ (Value.slice A3 R.length c3).ownBlock ≠ (Value.slice Av (intss T).length cv).ownBlock from by
              have h9 := hU0.out.own
              rw [hlR] at h9
              cases hb : (Value.slice A3 R.length c3).ownBlock with
              | none => exact .inl rfl
              | some g =>
                right
                intro e
                have h1 := (h9.lt g hb).1
                have h2 := hlo.out g e.symm
                omega)
            go_wp2_with fail
            go_loopw [11, 50] (fun v i wr => ∃ (r : Nat) (xs : List Value), r ≤ R.length ∧ i = .int .i64 r ∧ OwnAt wr w.heap.size 34 3 v xs (intss (T ++ fronts (l : Int) R r)) ∧ ((Value.slice A3 R.length c3).ownBlock = none ∨ (Value.slice A3 R.length c3).ownBlock ≠ v.ownBlock) ∧ OwnAt wr wk.heap.size 34 3 (.slice A3 R.length c3) us (intss R) ∧ w3.heap.size ≤ wr.heap.size ∧ Below w.heap.size w wr) (fun _ i _ => R.length - (intOf i).toNat)
            case atStart => exact ⟨0, vs, Nat.zero_le _, rfl, by rw [fronts_zero, List.append_nil]; exact hO3.out.1, hdis.out, hU0.out, Nat.le_refl _, hO3.out.2⟩
            case round =>
              clear hO3 hU0 hO hdis
              obtain ⟨r, xs, hr1, rfl, hV, hvb, hU, hsz5, hB⟩ := hrel
              generalize wr = wi at *
              obtain ⟨Av, cv, rfl⟩ := own_slice hV.own
              have hlT : (intss (T ++ fronts (l : Int) R r)).length = T.length + r := by rw [intss_length, List.length_append, fronts_length _ _ _ hr1]
              rw [hlT] at hV hvb ⊢
              have hO := Lib.hid (And.intro hV (And.intro hvb (And.intro hU hB)))
              replace hlT := Lib.hid hlT
              have hszi := hB.size
              clear hV hvb hU hB
              by_cases hlr : r < R.length
              · have hlr' : (r : Int) < (R.length : Int) := by omega
                have hs2 := Lib.hid (fronts_succ (l : Int) R r hlr)
                have hrl := Lib.hid (hR.out.2 R[r] (List.getElem_mem hlr)).1
                have hget : (intss R)[r]? = some (ints R[r]) := by unfold intss; rw [List.getElem?_map, List.getElem?_eq_getElem hlr]; rfl
                obtain ⟨Ax, cx, hx1, hx2⟩ := hO.out.2.2.1.inner r _ hget
                have hown3 := hO.out.2.2.1.own
                rw [hlR] at hown3
                obtain ⟨g3, rfl, hbg3, hlg3⟩ := own_form hown3 (show 0 < R.length by omega)
                rw [ints_length, hrl.out] at hx1 hx2
                have c3' : wi.cell? ⟨g3, r, none⟩ = some (.slice Ax n cx) := by rw [hown3.cellAt _ (by omega), hx1]
                have hX := Lib.hid hx2
                generalize R[r] = x at *
                clear hx1 hx2 hget hown3
                go_wp2_with fail
                generalize hW : (wi.alloc (.cells #[.int .i64 (l : Int)] 3)).alloc (.cells #[.slice (some ⟨wi.heap.size, 0, none⟩) 1 1, .slice Ax n cx] 34) = wa
                have hBa : Below wi.heap.size wi wa := by
                  rw [← hW]
                  exact ((Below.refl _ _).alloc (Nat.le_refl _) _).alloc (by simp) _
                have hcc := concat_front (l : Int) Ax x cx wi wa (by rw [hrl.out, hW]) (Row.of_own hX.out) (by rw [hrl.out]; omega)
                refine hcc.mono ?_
                rintro e w5 ⟨A5, c5, rfl, ho5, hB5⟩
                have hB6 : Below wi.heap.size wi w5 := hBa.trans (hB5.mono hBa.size)
                have hO5 := Lib.hid (And.intro ho5 (And.intro (hO.out.1.below hB6) (And.intro (hO.out.2.2.1.below hB6) hB6)))
                have hsz6 := hB6.size
                have hszw := hBa.size
                clear hcc ho5 hB5 hB6 hBa hW
                have hlx : ((l : Int) :: x).length = n + 1 := by rw [List.length_cons, hrl.out]
                rw [hlx] at hO5 ⊢
                have hsep5 := Lib.hid (show ∀ u ∈ xs, u.ownBlock = none ∨ u.ownBlock ≠ (Value.slice A5 (n + 1) c5).ownBlock from fun u hu => by
                  cases hb : u.ownBlock with
                  | none => exact .inl rfl
                  | some g =>
                    right
                    intro e
                    have h1 := (hO.out.1.lt u hu g hb).2
                    have h2 := (hO5.out.1.lt g e.symm).1
                    omega)
                have hBl : Below w5.heap.size w5 (w5.alloc (.cells #[.slice A5 (n + 1) c5] 34)) := (Below.refl w5.heap.size w5).alloc (Nat.le_refl _) _
                have hV6 := hO5.out.2.1.below hBl
                have hX6 := own_base (own_below hO5.out.1 hBl) (show w.heap.size ≤ wa.heap.size by omega)
                have hU6 := hO5.out.2.2.1.below hBl
                have hB6 := (hO.out.2.2.2.trans (hO5.out.2.2.2.mono hszi)).alloc (by omega) (.cells #[.slice A5 (n + 1) c5] 34)
                have hown6 := hV6.own
                rw [hlT.out] at hown6
                have H6 := Lib.hid (And.intro hV6 (And.intro hX6 (And.intro hU6 hB6)))
                have HW6 := Lib.hid hown6
                clear hV6 hX6 hU6 hB6 hown6 hBl
                go_wp2_with (at_builtin; refine wpList_append_own_at _ rfl _ _ 25 rfl w.heap.size 34 i0 (.slice none 0 0) 1 24 Try.underlying25 HR.out.1 HR.out.2.1 HR.out.2.2.1 HR.out.2.2.2 rfl (by decide) (.slice Av (T.length + r) cv) (T.length + r) xs rfl HW6.out ⟨w5.heap.size, 0, none⟩ 1 1 [.slice A5 (n + 1) c5] rfl rfl (cell_one_new _ _ _) (one_sliceI _ _ _) (by unfold maxLen; omega) (by omega) (by simp; omega) ?_)
                intro v7 w7 ho7 hg7 _ hat7
                have hne7 : (Value.slice (some ⟨g3, 0, none⟩) R.length c3).ownBlock = none ∨ (Value.slice (some ⟨g3, 0, none⟩) R.length c3).ownBlock ≠ v7.ownBlock := by
                  rcases hat7 with e | e
                  · rw [e]; exact hO.out.2.1
                  · right
                    rw [e]
                    intro e2
                    simp [Value.ownBlock] at e2
                    omega
                have hP7 := OwnAt.push (by decide) H6.out.1 (v' := v7) (xs := ints ((l : Int) :: x)) (A := A5) (c := c5) (by rw [ints_length, hlx]; exact H6.out.2.1) (by rw [ints_length, hlx]; exact hsep5.out) (by rw [hlT.out, ints_length, hlx]; exact ho7) hg7
                have hU7 := H6.out.2.2.1.kept hg7 hO.out.2.1 (H6.out.2.2.1.apart (by decide) HW6.out)
                have hB7 := H6.out.2.2.2.grown hg7 (by simp; omega) (fun g hg => (HW6.out.lt g hg).1)
                have hsz7 := hg7.size
                rw [World.size_alloc] at hsz7
                have hF7 := Lib.hid (And.intro hP7 (And.intro hU7 (And.intro hne7 hB7)))
                clear hP7 hU7 hB7 hne7 hat7 ho7 hg7
                go_wp2
                go_roundw
                case rel => exact ⟨r + 1, _, by omega, by go_num, by rw [hs2.out, ← List.append_assoc, intss_append (T ++ fronts (l : Int) R r)]; exact hF7.out.1, hF7.out.2.2.1, hF7.out.2.1, by omega, hF7.out.2.2.2⟩
                case measure => simp [intOf]; omega
              · obtain rfl : r = R.length := by omega
                go_wp2
                go_roundw
                case rel => exact ⟨k + 1, xs, by omega, by rw [show fr + (k + 1) = l + 1 by omega]; go_num, by rw [hs.out]; exact hO.out.1, hO.out.2.2.2⟩
                case measure => simp [intOf]; omega
      · obtain rfl : k = most + 1 - fr := by omega
        have hgt : ¬ (((fr + (most + 1 - fr) : Nat) : Int) ≤ (most : Int)) := by omega
        rw [Hall.out] at hO
        generalize fr + (most + 1 - fr) = l at *
        go_wp2
        go_ret
        exact givesSS_of ⟨vs, hO.out.1⟩ rfl hO.out.2
theorem impl_full (L most : Nat) (hm : most ≤ 8) (h2 : 2 ≤ L) (h3 : L ≤ 3) (n : Nat) (hn : n ≤ 12) : FullAt L most n := by
  induction n with
  | zero => exact impl_full0 L most hm h2 h3
  | succ n ih => exact impl_fullS L most hm h2 h3 n hn (ih (by omega))
theorem six8 (l : Nat) (h2 : 2 ≤ l) (h3 : l ≤ 3) : l ^ 8 ≤ 6561 := by
  have : l = 2 ∨ l = 3 := by omega
  rcases this with rfl | rfl <;> decide
/-- numbers for which lists are made, however many -/
def coOk (most L : Int) : Bool := W.krLet L && inR 1 8 most
theorem clOk_co (lim n most L : Int) (h : 0 ≤ n ∧ n ≤ lim) : clOk lim n most L = coOk most L := by
  unfold clOk coOk inR
  rw [decide_eq_true h, Bool.true_and, Bool.and_comm]
theorem clOk_n (lim n most L : Int) (h : ¬ (0 ≤ n ∧ n ≤ lim)) : clOk lim n most L = false := by
  unfold clOk
  rw [decide_eq_false h]
  rfl
theorem pow88 {n : Nat} (h : n ≤ 8) : 8 ^ n ≤ 16777216 := by
  have h1 : (8 : Nat) ^ n ≤ 8 ^ 8 := Nat.pow_le_pow_right (by omega) h
  have h2 : (8 : Nat) ^ 8 = 16777216 := by decide
  omega
theorem clOf_len8 (n most L : Int) : (clOf 8 n most L).length ≤ 16777216 := by
  cases h : clOk 8 n most L
  · rw [clOf_no h]; simp
  · rw [clOf_yes h]
    obtain ⟨h1, h2, _⟩ := clOk_parts h
    exact Nat.le_trans (fl_length _ _ (by omega) _ _ _ (Nat.le_refl _)).1 (pow88 (by omega))
theorem clOf_row8 (n most L : Int) : ∀ x ∈ clOf 8 n most L, x.length ≤ 8 := by
  cases h : clOk 8 n most L
  · rw [clOf_no h]; simp
  · rw [clOf_yes h]
    obtain ⟨h1, h2, _⟩ := clOk_parts h
    intro x hx
    have := ((fl_length _ _ (by omega) _ _ _ (Nat.le_refl _)).2 x hx).1
    omega
theorem clOf_bd (n most L : Int) : offI (clOf 8 n most L) (clOf 8 n most L).length ≤ 549755813888 ∧ ∀ x ∈ clOf 8 n most L, x.length ≤ 549755813888 := by
  have h1 := clOf_row8 n most L
  have h2 := offI_bd _ 8 h1 _ (Nat.le_refl _)
  have h3 := clOf_len8 n most L
  exact ⟨by omega, fun x hx => by have := h1 x hx; omega⟩
set_option maxHeartbeats 1600000 in
theorem impl_lists (lim n most L : Int) (w : World) (hl : lim ≤ 12) (hn : 0 ≤ n ∧ n ≤ lim) :
    Calls Try.prog 15 #[.int .i64 n, .int .i64 most, .int .i64 L] w (OkSS 34 3 w (intss (clOf lim n most L)) (clOk lim n most L)) := by
  have ha := Lib.hid (fun u => impl_areLetters L u)
  have hb := Lib.hid (fun u => impl_isLength most u)
  have hco := clOk_co lim n most L hn
  unfold coOk at hco
  cases hk : W.krLet L
  · rw [hk, Bool.false_and] at hco
    rw [hk] at ha
    rw [clOf_no hco, hco]
    clear hk hco
    go_enter Try.func15, Try.ntmps15
    go_wp2_with fail
    refine (ha.out _).mono ?_
    rintro e w' ⟨rfl, rfl⟩
    go_wp2_with fail
    go_ret2
    exact okSS_nil _ _ _ _ _ (Below.refl _ _)
  · rw [hk, Bool.true_and] at hco
    rw [hk] at ha
    cases hq : inR 1 8 most
    · rw [hq] at hco hb
      rw [clOf_no hco, hco]
      clear hk hco hq
      go_enter Try.func15, Try.ntmps15
      go_wp2_with fail
      refine (ha.out _).mono ?_
      rintro e w' ⟨rfl, rfl⟩
      go_wp2_with fail
      refine (hb.out _).mono ?_
      rintro e w' ⟨rfl, rfl⟩
      go_wp2_with fail
      go_ret2
      exact okSS_nil _ _ _ _ _ (Below.refl _ _)
    · rw [hq] at hco hb
      rw [clOf_yes hco, hco]
      obtain ⟨h1, h2, h3⟩ := clOk_parts hco
      obtain ⟨l, rfl, hl2, hl3⟩ := krLet_nat h3
      obtain ⟨n, rfl⟩ := Int.eq_ofNat_of_zero_le h1.1
      obtain ⟨most, rfl⟩ := Int.eq_ofNat_of_zero_le (show (0 : Int) ≤ most by omega)
      simp only [Int.toNat_natCast]
      have hpw := fun u => impl_wholeOf l u hl3
      have h6 := six8 l hl2 hl3
      have hr := impl_full l most (by omega) hl2 hl3 n (by omega) 1 (l ^ 8) (l ^ 11) w (Nat.le_refl _) (by omega) h6 (W.wholeD_eq l)
      generalize fl l most n 1 (l ^ 8) = R at *
      generalize l ^ 11 = p at *
      replace hr := Lib.hid hr
      replace hpw := Lib.hid hpw
      clear hk h3 hco hq h1 h2 h6
      go_enter Try.func15, Try.ntmps15
      go_wp2_with fail
      refine (ha.out _).mono ?_
      rintro e w' ⟨rfl, rfl⟩
      go_wp2_with fail
      refine (hb.out _).mono ?_
      rintro e w' ⟨rfl, rfl⟩
      go_wp2_with (first | (go_at_call 25; refine (hpw.out _).mono ?_; rintro e w' ⟨rfl, rfl⟩) | (go_at_call 24; refine hr.out.mono ?_; rintro e w1 ⟨A1, c1, rfl, ho, hB⟩))
      go_ret2
      exact okSS_of ho rfl hB
set_option maxHeartbeats 1600000 in
theorem impl_AllLengths (n most L : Int) (w : World) :
    Calls Try.prog 8 #[.int .i64 n, .int .i64 most, .int .i64 L] w (OkSS 34 3 w (intss (clOf 8 n most L)) (clOk 8 n most L)) := by
  by_cases h0 : n < 0
  · have hk := clOk_n 8 n most L (by omega)
    rw [clOf_no hk, hk]
    clear hk
    go_enter Try.func8, Try.ntmps8
    go_wp2
    go_ret2
    exact okSS_nil _ _ _ _ _ (Below.refl _ _)
  · by_cases h8 : n ≤ 8
    · have hr := Lib.hid (impl_lists 8 n most L w (by omega) ⟨by omega, h8⟩)
      generalize clOf 8 n most L = R at *
      generalize clOk 8 n most L = ok at *
      go_enter Try.func8, Try.ntmps8
      go_wp2_with (go_at_call 15; refine hr.out.mono ?_; rintro e w1 ⟨A1, c1, rfl, ho, hB⟩)
      go_ret2
      exact okSS_of ho rfl hB
    · have hk := clOk_n 8 n most L (by omega)
      rw [clOf_no hk, hk]
      clear hk
      go_enter Try.func8, Try.ntmps8
      go_wp2
      go_ret2
      exact okSS_nil _ _ _ _ _ (Below.refl _ _)
set_option maxHeartbeats 1600000 in
theorem impl_CountLengths (n most L : Int) (w : World) :
    Calls Try.prog 6 #[.int .i64 n, .int .i64 most, .int .i64 L] w fun e w' => e = .returned (.tuple #[.int .i64 (((clOf 12 n most L).length : Nat) : Int), .bool (clOk 12 n most L)]) ∧ Below w.heap.size w w' := by
  by_cases h0 : n < 0
  · have hk := clOk_n 12 n most L (by omega)
    rw [clOf_no hk, hk]
    clear hk
    go_enter Try.func6, Try.ntmps6
    go_wp2
    go_ret2
    exact ⟨rfl, Below.refl _ _⟩
  · by_cases h8 : n ≤ 12
    · have hr := Lib.hid (impl_lists 12 n most L w (by omega) ⟨by omega, h8⟩)
      have hz := Lib.hid (intss_length (clOf 12 n most L))
      have hlen := clOf_len 12 n most L (by omega)
      generalize clOf 12 n most L = R at *
      generalize clOk 12 n most L = ok at *
      go_enter Try.func6, Try.ntmps6
      go_wp2_with (go_at_call 15; refine hr.out.mono ?_; rintro e w1 ⟨A1, c1, rfl, ho, hB⟩)
      rw [hz.out]
      go_ret2
      exact ⟨rfl, hB⟩
    · have hk := clOk_n 12 n most L (by omega)
      rw [clOf_no hk, hk]
      clear hk
      go_enter Try.func6, Try.ntmps6
      go_wp2
      go_ret2
      exact ⟨rfl, Below.refl _ _⟩
end Go.Proofs.Ytnfimfapdmkobaa
