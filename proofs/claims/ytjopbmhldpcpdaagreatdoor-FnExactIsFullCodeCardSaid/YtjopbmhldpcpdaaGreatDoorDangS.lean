/-
  WHAT THIS FILE PROVES: the specification's functions that make the dangling lists of a set, and tell by the last one whether it is a code: they give what the plain lists say; asked: a set in memory.
-/
import Derived.Test.YtjopbmhldpcpdaaGreatDoorDang
import Derived.Test.YtjopbmhldpcpdaaGreatDoorHas
import Derived.Test.YtjopbmhldpcpdaaGreatDoorText
import Derived.Test.YtjopbmhldpcpdaaGreatDoorSSS
import Derived.Maps.AppendAt
namespace Go.Proofs.YtjopbmhldpcpdaaGreatDoor
open Go.RowKit Go.Shelf

theorem infoStrs : (Tryz.prog.info? 22).map (fun i => (i.zero, i.size, i.bytes)) = some (some (.slice none 0 0), 1, 24) := by kernel_rfl
theorem one_sliceS (A : Option Addr) (n c : Nat) : ∀ u ∈ [Value.slice A n c], u.oneCell' = true := fun u hu => by
  simp only [List.mem_cons, List.mem_nil_iff, or_false] at hu
  subst hu
  rfl
theorem cells_oneS (w : World) (v : Value) (t : TypeId) : ∀ (j : Nat) u, [v][j]? = some u → (w.alloc (.cells #[v] t)).cell? ((⟨w.heap.size, 0, none⟩ : Addr).add j) = some u := fun j u hu => by
  obtain rfl : j = 0 := by have := (List.getElem?_eq_some_iff.1 hu).1; simpa using this
  simp only [List.getElem?_cons_zero, Option.some.injEq] at hu
  subst hu
  rw [show (⟨w.heap.size, 0, none⟩ : Addr).add 0 = ⟨w.heap.size, 0, none⟩ from rfl, World.cell?_alloc_at _ _ _ _ rfl]
  rfl
theorem rests_1008 {a b : List ByteArray} (h : a.length * b.length ≤ 1008) : (rests a b).length ≤ 1008 := by
  have := rests_len a b
  omega
set_option maxHeartbeats 1600000 in
theorem spec_dcNext (A : Option Addr) (ss : List ByteArray) (c : Nat) (A' : Option Addr) (l : List ByteArray) (c' : Nat) (w : World) (h : Row w w.heap.size A (strs ss)) (h' : Row w w.heap.size A' (strs l)) (h12 : ss.length ≤ 12) (h84 : l.length ≤ 84) :
    Calls Tryz.prog 30 #[.slice A ss.length c, .slice A' l.length c'] w (GivesStrs w (ordB (rests ss l ++ rests l ss))) := by
  have hm : ss.length * l.length ≤ 12 * 84 := Nat.mul_le_mul h12 h84
  have hb1 := rests_1008 (a := ss) (b := l) (by omega)
  have hb2 := rests_1008 (a := l) (b := ss) (by rw [Nat.mul_comm]; omega)
  have ho1 := ord_length (rests ss l)
  have ho2 := ord_length (rests l ss)
  have q1 := Lib.hid (spec_wdQuotient A ss c A' l c' w h h' (by omega) (by omega))
  have q2 := Lib.hid (fun (V : World) hr hr' => spec_wdQuotient A' l c' A ss c V hr hr' (by omega) (by omega))
  have Hend := Lib.hid (ord_fold (rests ss l) (rests l ss))
  rw [show ordB (rests ss l ++ rests l ss) = (ordB (rests l ss)).foldl putB (ordB (rests ss l)) from Hend.out.symm]
  replace h := Lib.hid h
  replace h' := Lib.hid h'
  have hl1 : (ordB (rests ss l)).length ≤ 1008 := by omega
  have hl2 : (ordB (rests l ss)).length ≤ 1008 := by omega
  clear Hend hm hb1 hb2 ho1 ho2
  generalize ordB (rests ss l) = ys at q1 hl1 ⊢
  generalize ordB (rests l ss) = zs at q2 hl2 ⊢
  go_enter Tryz.func30, Tryz.ntmps30
  go_wp2_with fail
  refine q1.out.mono ?_
  rintro e w1 ⟨A1, c1, rfl, ho1, hB1⟩
  have H1 := Lib.hid (And.intro ho1 hB1)
  clear ho1 hB1
  go_wp2_with fail
  refine (q2.out w1 ((h'.out.below H1.out.2).more H1.out.2.size) ((h.out.below H1.out.2).more H1.out.2.size)).mono ?_
  rintro e w2 ⟨A2, c2, rfl, ho2, hB2⟩
  have hsz1 := H1.out.2.size
  have H2 := Lib.hid (And.intro (own_below H1.out.1 hB2) (H1.out.2.trans (hB2.mono hsz1)))
  have hR2 := Lib.hid (Row.of_own ho2)
  have hsz2 := hB2.size
  clear ho2 hB2
  go_wp2_with fail
  have hfl : Hid (∀ k, ((zs.take k).foldl putB ys).length ≤ 262144) := fun k => by
    have := W.puts_length (raw (zs.take k)) (raw ys)
    rw [← raw_fold, raw_length, raw_length, raw_length, List.length_take] at this
    omega
  go_loopw [5, 15] (fun v i wr => ∃ k : Nat, k ≤ zs.length ∧ i = .int .i64 k ∧ wr.ownsRow w.heap.size 9 1 v ((zs.take k).foldl putB ys).length (strs ((zs.take k).foldl putB ys)) ∧ Row wr wr.heap.size A2 (strs zs) ∧ Below w.heap.size w wr) (fun _ i _ => zs.length - (intOf i).toNat)
  case atStart => exact ⟨0, Nat.zero_le _, rfl, H2.out.1, hR2.out, H2.out.2⟩
  case round =>
    clear H2 hR2
    obtain ⟨k, hk, rfl, ho, hr, hB⟩ := hrel
    obtain ⟨Av, cv, rfl⟩ := own_slice ho
    have hO := Lib.hid (And.intro ho (And.intro hr hB))
    have hsz := hB.size
    clear ho hr hB
    by_cases hlt : k < zs.length
    · obtain ⟨b, off, rfl, hb, hcc⟩ := hO.out.2.1 (by rw [strs_length]; omega)
      have hlt' : (k : Int) < (zs.length : Int) := by omega
      have c1 := hcc k _ (strs_nth zs k hlt)
      clear hcc
      have Hs : Hid ((zs.take (k + 1)).foldl putB ys = putB ((zs.take k).foldl putB ys) (W.nth zs k)) := by
        show List.foldl _ _ _ = _
        rw [List.take_succ_eq_append_getElem hlt, List.foldl_append, W.nth_lt zs k hlt]
        rfl
      have hfk := hfl.out k
      generalize W.nth zs k = t at c1 Hs
      generalize hacc : (zs.take k).foldl putB ys = acc at hO hfk Hs ⊢
      replace hacc := Lib.hid hacc
      have Hput := Lib.hid (spec_wdPut w.heap.size Av acc cv t wr hO.out.1 hsz hfk)
      go_wp2_with fail
      refine Hput.out.mono ?_
      rintro e w3 ⟨A3, c3, rfl, ho3, hB3⟩
      have HF := Lib.hid (And.intro ho3 (And.intro ((hO.out.2.1.below hB3).more hB3.size) (hO.out.2.2.trans (hB3.mono hsz))))
      clear ho3 hB3
      go_wp2
      go_roundw
      case rel => exact ⟨k + 1, by omega, by go_num, by rw [Hs.out]; exact HF.out.1, HF.out.2.1, HF.out.2.2⟩
      case measure => simp [intOf]; omega
    · obtain rfl : k = zs.length := by omega
      have ho := hO.out.1
      rw [List.take_length] at ho
      replace ho := Lib.hid ho
      rw [List.take_length]
      generalize hg : zs.foldl putB ys = acc at ho ⊢
      have Hg := Lib.hid hg
      clear hg
      go_wp2
      go_ret
      rw [Hg.out]
      exact ⟨Av, cv, rfl, ho.out, hO.out.2.2⟩

def lenV : Value → Nat
  | .slice _ n _ => n
  | _ => 0
theorem dOld_succ (ss : List ByteArray) (n j : Nat) : ((List.range (j + 1)).any fun m => decide (dl ss m = dl ss n)) = (((List.range j).any fun m => decide (dl ss m = dl ss n)) || decide (dl ss j = dl ss n)) := by
  rw [List.range_succ, List.any_append]
  simp
theorem dHit_succ (ss l : List ByteArray) (j : Nat) (h : j < l.length) : dHit ss (l.take (j + 1)) = (dHit ss (l.take j) || hasB ss (W.nth l j)) := by
  unfold dHit
  rw [List.take_succ_eq_append_getElem h, List.any_append, W.nth_lt l j h]
  simp
/-- the texts of two dangling lists, the first not empty, are one just if these are -/
theorem dl_text {ss : List ByteArray} (h : W.isSet ss = true) (m n : Nat) (hm : dl ss m ≠ []) : ((W.textOf (dl ss m)).toList == (W.textOf (dl ss n)).toList) = decide (dl ss m = dl ss n) := by
  have hw := fun k x hx => (dl_word h k x hx).2.2
  have htx : ∀ l : List ByteArray, l ≠ [] → (W.textOf l).data.toList = Lib.join (W.bytes l) [44] := fun l hl => by
    have : ¬ l.length = 0 := fun e => hl (List.eq_nil_of_length_eq_zero e)
    unfold W.textOf
    rw [if_neg this, W.tx_join l l.length (Nat.le_refl _), List.take_length]
  rw [toList_eq]
  by_cases hn : dl ss n = []
  · rw [decide_eq_false (show ¬ dl ss m = dl ss n by rw [hn]; exact hm)]
    refine decide_eq_false (fun e => ?_)
    have e2 : (W.textOf (dl ss m)).data.toList = (W.textOf (dl ss n)).data.toList := by rw [e]
    rw [htx _ hm, hn] at e2
    have e3 : (W.textOf []).data.toList = [45] := rfl
    rw [e3] at e2
    cases hd : dl ss m with
    | nil => exact hm hd
    | cons a r =>
      have ha := dl_word h m a (by rw [hd]; exact List.mem_cons_self ..)
      rw [hd] at e2
      have e4 : Lib.join (W.bytes (a :: r)) [44] = a.data.toList ++ Lib.joinTail [44] (W.bytes r) := Lib.join_cons _ _ _
      rw [e4] at e2
      have h1 := ha.1
      rw [Lib.size_eq] at h1
      cases hc : a.data.toList with
      | nil => rw [hc] at h1; simp at h1
      | cons b q =>
        rw [hc, List.cons_append, List.cons.injEq] at e2
        have hl := ha.2.2
        rw [hc] at hl
        unfold W.isWd at hl
        rw [List.all_cons, Bool.and_eq_true] at hl
        have hl := hl.1
        rw [e2.1] at hl
        revert hl
        decide
  · by_cases e : dl ss m = dl ss n
    · rw [decide_eq_true e, e]
      exact decide_eq_true rfl
    · rw [decide_eq_false e]
      refine decide_eq_false (fun e2 => e (texts_inj (hw m) (hw n) hm hn ?_))
      have e3 : (W.textOf (dl ss m)).data.toList = (W.textOf (dl ss n)).data.toList := by rw [e2]
      rwa [htx _ hm, htx _ hn] at e3
theorem dStop_ne {ss : List ByteArray} {m : Nat} (h : dStop ss m = false) : dl ss m ≠ [] := fun e => by
  unfold dStop at h
  rw [e] at h
  simp at h
theorem strss_at' (f : Nat → List ByteArray) (n j : Nat) (h : j < n) : (strss ((List.range n).map f))[j]? = some (strs (f j)) := by
  unfold strss
  rw [List.getElem?_map, List.getElem?_map, List.getElem?_range h]
  rfl

/-- one of the first j lists is that with the number n -/
def oldTo (ss : List ByteArray) (n j : Nat) : Bool := (List.range j).any fun m => decide (dl ss m = dl ss n)
theorem oldTo_succ (ss : List ByteArray) (n j : Nat) : oldTo ss n (j + 1) = (oldTo ss n j || decide (dl ss j = dl ss n)) := dOld_succ ss n j

set_option maxHeartbeats 3200000 in
theorem spec_dcLists (A : Option Addr) (ss : List ByteArray) (c : Nat) (w : World) (h : Row w w.heap.size A (strs ss)) (hset : W.isSet ss = true) :
    Calls Tryz.prog 19 #[.slice A ss.length c] w (GivesSS 22 9 w (strss (dLists ss (dLast ss + 1)))) := by
  have h12 := W.isSet_len ss hset
  have Hset := Lib.hid hset
  replace h := Lib.hid h
  obtain ⟨i0, hi, hz0, hz1, hz2⟩ := info_parts infoStrs
  have HR := Lib.hid (And.intro hi (And.intro hz0 (And.intro hz1 hz2)))
  have q1 := Lib.hid (spec_wdQuotient A ss c A ss c w h.out h.out (by omega) (by omega))
  clear hset hi hz0 hz1 hz2
  go_enter Tryz.func19, Tryz.ntmps19
  go_wp2_with fail
  refine q1.out.mono ?_
  rintro e w1 ⟨A1, c1, rfl, ho1, hB1⟩
  have H1 := Lib.hid (And.intro ho1 hB1)
  clear ho1 hB1 q1
  go_wp2_with fail
  go_loopw [3, 4] (fun v nv wr => ∃ (n : Nat) (vs : List Value), (Hid (∀ m, m < n → dStop ss m = false)) ∧ lenV v = n ∧ OwnAt wr w.heap.size 22 9 v vs (strss (dLists ss n)) ∧ wr.ownsRow w.heap.size 9 1 nv (dl ss n).length (strs (dl ss n)) ∧ (∀ u ∈ vs, u.ownBlock = none ∨ u.ownBlock ≠ nv.ownBlock) ∧ Below w.heap.size w wr)
    (fun v _ _ => 400000000001 - lenV v)
  case atStart => exact ⟨0, [], fun _ h => absurd h (Nat.not_lt_zero _), rfl, ownAt_nil _ _ _ _, H1.out.1, fun u hu => by simp at hu, H1.out.2⟩
  case round =>
    clear H1
    obtain ⟨n, vs, hns, hlv, hV, hN, hsep, hB⟩ := hrel
    obtain ⟨Av, cv, rfl⟩ := own_slice hV.own
    have hlen0 : (strss (dLists ss n)).length = n := by rw [strss_length, dLists_length]
    clear hlv
    rw [hlen0] at hV ⊢
    obtain ⟨An, cn, rfl⟩ := own_slice hN
    have hfew := dStop_few Hset.out n hns.out
    have hO := Lib.hid (And.intro hV (And.intro hN (And.intro hsep hB)))
    have hsz := hB.size
    replace hlen0 := Lib.hid hlen0
    clear hV hN hsep hB
    have hl84 := dl_length Hset.out n
    have hnz := Lib.hid (fun k (hk : k < (dl ss n).length) => (show 1 ≤ (W.nth (dl ss n) k).size ∧ (W.nth (dl ss n) k).size ≤ 8 by
      rw [W.nth_lt _ k hk]
      have := dl_word Hset.out n _ (List.getElem_mem hk)
      omega))
    have htn := Lib.hid (spec_wdTextW An (dl ss n) cn wr (Row.of_own hO.out.2.1) (by omega) hnz.out)
    go_wp2_with fail
    go_loop [5, 15] (fun av i => ∃ j : Nat, j ≤ n ∧ i = .int .i64 j ∧ av = .bool (oldTo ss n j)) (fun _ i => n - (intOf i).toNat)
    case atStart => exact ⟨0, Nat.zero_le _, rfl, rfl⟩
    case round =>
      obtain ⟨j, hj, rfl, rfl⟩ := hrel
      by_cases hlt : j < n
      · obtain ⟨g, rfl, hbg, hlg⟩ := own_form (by have := hO.out.1.own; rw [hlen0.out] at this; exact this) (show 0 < n by omega)
        have hlt' : (j : Int) < (n : Int) := by omega
        obtain ⟨Aj, cj, hv, hrj⟩ := hO.out.1.inner j _ (strss_at' (dl ss) n j hlt)
        rw [strs_length] at hv hrj
        have c1 : wr.cell? ⟨g, j, none⟩ = some (.slice Aj (dl ss j).length cj) := by
          have := hO.out.1.own
          rw [hlen0.out] at this
          rw [this.cellAt j (by omega), hv]
        have hjz := Lib.hid (fun k (hk : k < (dl ss j).length) => (show 1 ≤ (W.nth (dl ss j) k).size ∧ (W.nth (dl ss j) k).size ≤ 8 by
          rw [W.nth_lt _ k hk]
          have := dl_word Hset.out j _ (List.getElem_mem hk)
          omega))
        have htj := Lib.hid (spec_wdTextW Aj (dl ss j) cj wr (Row.of_own hrj) (by have := dl_length Hset.out j; omega) hjz.out)
        have hte := dl_text Hset.out j n (dStop_ne (hns.out j hlt))
        have hs := Lib.hid (oldTo_succ ss n j)
        clear hv hrj hjz
        generalize W.textOf (dl ss j) = tj at htj hte
        generalize W.textOf (dl ss n) = tn at htn hte
        generalize decide (dl ss j = dl ss n) = d at hte hs
        cases ho : oldTo ss n j
        · rw [ho, Bool.false_or] at hs
          clear ho
          go_wp2_with (first | (go_at_call_of 29 (Value.slice Aj (dl ss j).length cj); refine htj.out.mono ?_; rintro e w' ⟨rfl, rfl⟩) | (go_at_call_of 29 (Value.slice An (dl ss n).length cn); refine htn.out.mono ?_; rintro e w' ⟨rfl, rfl⟩))
          all_goals
            go_round
            case rel => exact ⟨j + 1, by omega, by go_num, by rw [hs.out]⟩
            case measure => simp [intOf]; omega
        · rw [ho, Bool.true_or] at hs
          clear ho hte
          go_wp2
          go_round
          case rel => exact ⟨j + 1, by omega, by go_num, by rw [hs.out]⟩
          case measure => simp [intOf]; omega
      · obtain rfl : j = n := by omega
        have hV4 := hO.out.1.below ((Below.refl wr.heap.size wr).alloc (Nat.le_refl _) (.cells #[.slice An (dl ss j).length cn] 22))
        have hN4 := own_below hO.out.2.1 ((Below.refl wr.heap.size wr).alloc (Nat.le_refl _) (.cells #[.slice An (dl ss j).length cn] 22))
        have hB4 := hO.out.2.2.2.alloc hsz (.cells #[.slice An (dl ss j).length cn] 22)
        have hown4 := hV4.own
        rw [hlen0.out] at hown4
        have H4 := Lib.hid (And.intro hV4 (And.intro hN4 hB4))
        have HW4 := Lib.hid hown4
        have hSep := Lib.hid hO.out.2.2.1
        clear hV4 hN4 hB4 hown4 hO htn
        go_wp2_with (at_builtin; refine wpList_append_own _ rfl _ _ 40 rfl w.heap.size 22 i0 (.slice none 0 0) 1 24 Tryz.underlying40 HR.out.1 HR.out.2.1 HR.out.2.2.1 HR.out.2.2.2 rfl (by decide) (.slice Av j cv) j vs rfl HW4.out ⟨wr.heap.size, 0, none⟩ 1 1 [.slice An (dl ss j).length cn] rfl rfl (cells_oneS _ _ _) (one_sliceS _ _ _) (by unfold maxLen; omega) (by omega) (by simp; omega) ?_)
        intro v5 w5 ho5 hg5 _
        have hP5 := OwnAt.push (by decide) H4.out.1 (v' := v5) (by rw [strs_length]; exact H4.out.2.1) (by rw [strs_length]; exact hSep.out) (by rw [hlen0.out, strs_length]; exact ho5) hg5
        rw [strs_length] at hP5
        have hN5 := H4.out.2.1.kept hg5 (own_apart H4.out.2.1 HW4.out (by decide))
        have hB5 := H4.out.2.2.grown hg5 (by simp; omega) (fun g hg => (HW4.out.lt g hg).1)
        have hst : Hid (strss (dLists ss j) ++ [strs (dl ss j)] = strss (dLists ss (j + 1))) := by
          show _ = _
          rw [dLists_succ, strss_snoc]
        rw [hst.out] at hP5
        obtain ⟨A5, c5, rfl⟩ := own_slice ho5
        have H5 := Lib.hid (And.intro hP5 (And.intro hN5 hB5))
        have hsz5 := hB5.size
        clear hP5 hN5 hB5 ho5 hg5 H4 HW4 hSep hnz
        go_wp2_with fail
        go_loop [5, 34] (fun av i => ∃ k : Nat, k ≤ (dl ss j).length ∧ i = .int .i64 k ∧ av = .bool (oldTo ss j j || dHit ss ((dl ss j).take k))) (fun _ i => (dl ss j).length - (intOf i).toNat)
        case atStart => exact ⟨0, Nat.zero_le _, rfl, by simp [dHit]⟩
        case round =>
          obtain ⟨k, hk, rfl, rfl⟩ := hrel
          by_cases hlk : k < (dl ss j).length
          · obtain ⟨b, off, rfl, hb, hcc⟩ := Row.of_own H5.out.2.1 (by rw [strs_length]; omega)
            have hlk' : (k : Int) < ((dl ss j).length : Int) := by omega
            have c1 := hcc k _ (strs_nth (dl ss j) k hlk)
            have hs := Lib.hid (dHit_succ ss (dl ss j) k hlk)
            clear hcc
            have hh := Lib.hid (fun s => spec_wdHas A ss c s w5 ((h.out.below H5.out.2.2).more H5.out.2.2.size) (by omega))
            generalize W.nth (dl ss j) k = x at c1 hs
            have hh2 := Lib.hid (hh.out x)
            have hs2 : Hid ((oldTo ss j j || dHit ss ((dl ss j).take (k + 1))) = ((oldTo ss j j || dHit ss ((dl ss j).take k)) || hasB ss x)) := by
              show _ = _
              rw [hs.out, Bool.or_assoc]
            generalize hasB ss x = d at hh2 hs2
            generalize (oldTo ss j j || dHit ss ((dl ss j).take k)) = bo at hs2 ⊢
            cases bo
            · rw [Bool.false_or] at hs2
              go_wp2_with (go_at_call 20; refine hh2.out.mono ?_; rintro e w' ⟨rfl, rfl⟩)
              go_round
              case rel => exact ⟨k + 1, by omega, by go_num, by rw [hs2.out]⟩
              case measure => simp [intOf]; omega
            · rw [Bool.true_or] at hs2
              go_wp2
              go_round
              case rel => exact ⟨k + 1, by omega, by go_num, by rw [hs2.out]⟩
              case measure => simp [intOf]; omega
          · obtain rfl : k = (dl ss j).length := by omega
            rw [List.take_length]
            have hds : Hid (dStop ss j = (oldTo ss j j || dHit ss (dl ss j) || (dl ss j).isEmpty)) := rfl
            have hemp : (((dl ss j).length : Int) == 0) = (dl ss j).isEmpty := by cases dl ss j <;> simp <;> omega
            generalize (oldTo ss j j || dHit ss (dl ss j)) = bo at hds ⊢
            cases hd : dStop ss j
            · rw [hd] at hds
              have hbo : bo = false := by
                have := hds.out
                cases bo
                · rfl
                · simp at this
              have hie : (dl ss j).isEmpty = false := by
                have := hds.out
                rw [hbo, Bool.false_or] at this
                exact this.symm
              rw [hie] at hemp
              subst hbo
              have hq := Lib.hid (spec_dcNext A ss c An (dl ss j) cn w5 ((h.out.below H5.out.2.2).more H5.out.2.2.size) (Row.of_own H5.out.2.1) h12 hl84)
              have hns2 : Hid (∀ m, m < j + 1 → dStop ss m = false) := fun m hm => by
                by_cases e : m = j
                · subst e; exact hd
                · exact hns.out m (by omega)
              clear hd hds hie
              go_wp2_with fail
              refine hq.out.mono ?_
              rintro e w6 ⟨A6, c6, rfl, ho6, hB6⟩
              have hV6 := H5.out.1.below hB6
              have hsep6 : ∀ u ∈ vs ++ [Value.slice An (dl ss j).length cn], u.ownBlock = none ∨ u.ownBlock ≠ (Value.slice A6 (ordB (rests ss (dl ss j) ++ rests (dl ss j) ss)).length c6).ownBlock := fun u hu => by
                cases hb : u.ownBlock with
                | none => exact .inl rfl
                | some g =>
                  right
                  intro e
                  have h1 := (H5.out.1.lt u hu g hb).2
                  have h2 := (ho6.lt g e.symm).1
                  omega
              have HF := Lib.hid (And.intro hV6 (And.intro (own_base ho6 hsz5) (And.intro hsep6 (H5.out.2.2.trans (hB6.mono hsz5)))))
              clear hV6 ho6 hsep6 hB6
              go_wp2
              go_roundw
              case rel => exact ⟨j + 1, _, hns2, rfl, HF.out.1, HF.out.2.1, HF.out.2.2.1, HF.out.2.2.2⟩
              case measure => simp [lenV]; omega
            · have hlast := Lib.hid (dLast_eq Hset.out j hns.out hd)
              have hbo2 : Hid (bo = true ∨ (bo = false ∧ (dl ss j).isEmpty = true)) := by
                have := hds.out
                rw [hd] at this
                cases bo
                · exact .inr ⟨rfl, by simpa using this.symm⟩
                · exact .inl rfl
              clear hd hds
              rcases hbo2.out with hb | ⟨hb, hie⟩
              · subst hb
                clear hemp
                go_wp2
                go_ret
                rw [hlast.out]
                exact givesSS_of ⟨_, H5.out.1⟩ rfl H5.out.2.2
              · subst hb
                rw [hie] at hemp
                clear hie
                go_wp2
                go_ret
                rw [hlast.out]
                exact givesSS_of ⟨_, H5.out.1⟩ rfl H5.out.2.2

end Go.Proofs.YtjopbmhldpcpdaaGreatDoor
