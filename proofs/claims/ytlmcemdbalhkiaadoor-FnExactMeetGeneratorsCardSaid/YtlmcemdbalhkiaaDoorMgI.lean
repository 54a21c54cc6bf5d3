/-
  WHAT THIS FILE PROVES: generators of the words that two sets write: the program's functions, which delete by a closure, give the plain list; asked: slices of texts in memory, lengths and a number that an int holds.
-/
import Derived.Test.YtlmcemdbalhkiaaDoorMg
import Derived.Test.YtlmcemdbalhkiaaDoorWuI
import Derived.Test.YtlmcemdbalhkiaaDoorLs
import Derived.Test.YtlmcemdbalhkiaaDoorLgI
import Derived.Test.YtlmcemdbalhkiaaDoorHas
import Derived.Test.YtlmcemdbalhkiaaDoorShelfB
import Derived.Lib.OwnBridge
import Derived.Sort.OwnSorted
import Derived.Shelf.SlicesE.DeleteFunc
namespace Go.Proofs.YtlmcemdbalhkiaaDoor.Ls
open Go.RowKit Go.Shelf

set_option maxHeartbeats 3200000 in
set_option maxRecDepth 100000 in
theorem impl_generatorsIn (A : Option Addr) (ss : List ByteArray) (c : Nat) (w : World) (h : Row w w.heap.size A (strs ss)) (hset : W.isLst ss = true) :
    Calls Tryd.prog 32 #[.slice A ss.length c] w (GivesStrs w (lgB ss)) := by
  have h12 := W.isLst_len ss hset
  obtain ⟨i0, hi, hz0, hz1, hz2⟩ := info_parts infoStr
  have HR := Lib.hid (And.intro hi (And.intro hz0 (And.intro hz1 hz2)))
  have Hset := Lib.hid hset
  have hall := Lib.hid (lgTo_all ss)
  replace h := Lib.hid h
  clear hi hz0 hz1 hz2 hset
  go_enter Tryd.func32, Tryd.ntmps32
  go_wp2
  go_loopw [3, 8] (fun v i wr => ∃ k : Nat, k ≤ ss.length ∧ i = .int .i64 k ∧ wr.ownsRow w.heap.size 9 1 v (lgTo ss k).length (strs (lgTo ss k)) ∧ Below w.heap.size w wr)
    (fun _ i _ => ss.length - (intOf i).toNat)
  case atStart => exact ⟨0, Nat.zero_le _, rfl, World.ownsRow_nil _ _ _ _, Below.refl _ _⟩
  case round =>
    obtain ⟨k, hk, rfl, ho, hB⟩ := hrel
    obtain ⟨Ar, cr, rfl⟩ := own_slice ho
    have hO := Lib.hid (And.intro ho hB)
    clear ho hB
    by_cases hlt : k < ss.length
    · obtain ⟨b, off, rfl, hb, hcc⟩ := h.out (by rw [strs_length]; omega)
      have hlt' : (k : Int) < (ss.length : Int) := by omega
      have c1 := (hO.out.2.cell (p := ⟨b, off + k, none⟩) hb).trans (hcc k _ (strs_nth ss k hlt))
      clear hcc
      have hsz := W.short_size _ (W.isLst_short ss Hset.out k hlt)
      have Hs := Lib.hid (lgTo_succ ss k hlt)
      have hln := lgTo_length ss k
      have hrow := (h.out.below hO.out.2).more hO.out.2.size
      have hrd := Lib.hid (impl_readingsOf (some ⟨b, off, none⟩) ss c (W.nth ss k) wr hrow Hset.out (by omega))
      have hnm := Lib.hid (fun g base u ho => lg_number (some ⟨b, off, none⟩) ss c (W.nth ss k) g base u ho)
      have hlg : Hid (lg ss (W.nth ss k) = decide (W.ways ss (W.nth ss k).data.toList = 1)) := rfl
      generalize W.nth ss k = s at c1 hsz Hs hrd hnm hlg
      clear hrow
      go_wp2_with fail
      refine hrd.out.mono ?_
      rintro e w2 ⟨g, rfl, ho2, hB2⟩
      have hO2 := Lib.hid (And.intro ho2 (And.intro (own_below hO.out.1 hB2) (hO.out.2.trans (hB2.mono hO.out.2.size))))
      clear ho2 hB2 hrd
      go_wp2_with fail
      refine (hnm.out _ _ _ hO2.out.1).mono ?_
      rintro e w3 ⟨rfl, hB3⟩
      have hO3 := Lib.hid (And.intro (own_below hO2.out.2.1 hB3) (hO2.out.2.2.trans (hB3.mono hO2.out.2.2.size)))
      clear hB3 hO2 hnm
      generalize W.ways ss s.data.toList = n at hlg ⊢
      by_cases hn : n = 1
      · have Hq : Hid (lg ss s = true) := by
          show lg ss s = true
          rw [hlg.out, decide_eq_true hn]
        subst hn
        have e1 := Lib.hid (show lgTo ss (k + 1) = lgTo ss k ++ [s] by rw [Hs.out, if_pos Hq.out])
        clear hlg Hq Hs
        go_wp2_with (at_builtin; refine wpList_append_own _ rfl _ _ 22 rfl w.heap.size 9 i0 (.string ByteArray.empty) 1 16 Tryd.underlying22 HR.out.1 HR.out.2.1 HR.out.2.2.1 HR.out.2.2.2 rfl (by decide) _ _ _ rfl (hO3.out.1.alloc _) ⟨w3.heap.size, 0, none⟩ 1 1 [.string s] rfl rfl ?c1 ?c2 ?c3 ?c4 ?c5 ?_)
        case c1 => exact cell_one_new _ _ _
        case c2 => exact one_text _
        case c3 => unfold maxLen; omega
        case c4 => omega
        case c5 => have := hO3.out.2.size; simp; omega
        intro v' w4 hown' hgrow _
        have hlt4 := hO3.out.1.lt
        have hO4 := Lib.hid (And.intro hown' ((hO3.out.2.alloc hO3.out.2.size _).grown hgrow (by have := hO3.out.2.size; simp; omega) (fun g hg => (hlt4 g hg).1)))
        clear hown' hgrow hlt4
        go_wp2
        go_roundw
        case rel =>
          refine ⟨k + 1, by omega, by go_num, own_nx hO4.out.1 ?_ ?_, hO4.out.2⟩
          · rw [e1.out, List.length_append]
            rfl
          · rw [e1.out, strs_snoc]
        case measure => simp [intOf]; omega
      · have e1 := Lib.hid (show lgTo ss (k + 1) = lgTo ss k by
          rw [Hs.out, hlg.out, decide_eq_false hn]
          simp)
        have hn' : ¬ (n : Int) = 1 := by omega
        clear hlg Hs hn
        go_wp2
        go_roundw
        case rel =>
          refine ⟨k + 1, by omega, by go_num, own_nx hO3.out.1 ?_ ?_, hO3.out.2⟩
          · rw [e1.out]
          · rw [e1.out]
        case measure => simp [intOf]; omega
    · have hke : k = ss.length := by omega
      subst hke
      have hO2 := hO.out
      rw [hall.out] at hO2
      have HO := Lib.hid hO2
      clear hO2 hO
      rw [hall.out]
      generalize lgTo ss ss.length = acc at *
      go_wp2
      go_ret
      exact ⟨_, _, rfl, HO.out.1, HO.out.2⟩
end Go.Proofs.YtlmcemdbalhkiaaDoor.Ls
namespace Go.Proofs.YtlmcemdbalhkiaaDoor
open Go.RowKit Go.Shelf Go.Sort

theorem mgKept_box (s : ByteArray) (bx : Nat) (A : Option Addr) (ss : List ByteArray) (c : Nat) (w : World) (h : Row w w.heap.size A (strs ss)) (hl : ss.length ≤ 1000) (hx : w.cell? ⟨bx, 0, none⟩ = some (.slice A ss.length c)) :
    Calls Tryd.prog 63 #[.string s, .pointer (some ⟨bx, 0, none⟩)] w fun e w' => e = .returned (.bool (!(hasB ss s))) ∧ w = w' := by
  have hc := contains_any A ss c s w h (by omega)
  generalize hasB ss s = r at hc ⊢
  replace hc := Lib.hid hc
  clear h
  go_enter Tryd.func63, Tryd.ntmps63
  go_wp2_with fail
  refine hc.out.mono ?_
  rintro e w' ⟨rfl, rfl⟩
  go_wp2_with fail
  go_ret
  exact ⟨rfl, rfl⟩
theorem idx_none (A : Option Addr) (c : Nat) (f : Value) (w : World) :
    Calls Tryd.prog 77 #[.slice A 0 c, f] w fun e w' => e = .returned (.int .i64 (-1)) ∧ w = w' := by
  go_enter Tryd.func77, Tryd.ntmps77
  go_wp2
  refine wp_loop_rounds 1 ?_
  rw [rounds_succ]
  go_wp2
  go_ret
  exact ⟨rfl, rfl⟩
theorem del_none (A : Option Addr) (c : Nat) (f : Value) (w : World) :
    Calls Tryd.prog 62 #[.slice A 0 c, f] w fun e w' => e = .returned (.slice A 0 c) ∧ w = w' := by
  have hc := Lib.hid (fun u => idx_none A c f u)
  go_enter Tryd.func62, Tryd.ntmps62
  go_wp2_with (go_at_call 77; refine (hc.out _).mono ?_; rintro e w1 ⟨rfl, rfl⟩)
  go_ret
  exact ⟨rfl, rfl⟩
theorem mg_grown {w : World} {g q : Nat} (d : Array (List UInt8)) : w.grownBy (putRow encStr (Sort.ahead w q) g 0 d) (some g) := by
  have h := grownBy_sorted (w := w) (g := g) (n := q) (os := #[]) d
  have e : grow (putRow encStr (Sort.ahead w q) g 0 d) #[] = putRow encStr (Sort.ahead w q) g 0 d := by
    simp [grow]
    rfl
  rwa [e] at h
theorem raw_filter (F S : List ByteArray) : ((raw F).filter fun l => !(!(hasB S ⟨l.toArray⟩))) = raw (F.filter (hasB S)) := by
  unfold raw
  rw [List.filter_map]
  congr 1
  apply List.filter_congr
  intro x _
  simp
theorem del_own (g cap base base2 : Nat) (F S : List ByteArray) (AS : Option Addr) (cS : Nat) (bx : Nat) (w : World) (ho : w.ownsRow base 9 1 (.slice (some ⟨g, 0, none⟩) F.length cap) F.length (strs F)) (hl : F.length ≤ 1000) (hlS : S.length ≤ 1000) (hne : bx ≠ g)
    (hS : w.ownsRow base2 9 1 (.slice AS S.length cS) S.length (strs S)) (hg2 : g < base2) (hx : w.cell? ⟨bx, 0, none⟩ = some (.slice AS S.length cS)) :
    Calls Tryd.prog 62 #[.slice (some ⟨g, 0, none⟩) F.length cap, .func (.func 63) #[] #[.pointer (some ⟨bx, 0, none⟩)]] w
      fun e w' => e = .returned (.slice (some ⟨g, 0, none⟩) (F.filter (hasB S)).length cap) ∧ w'.ownsRow base 9 1 (.slice (some ⟨g, 0, none⟩) (F.filter (hasB S)).length cap) (F.filter (hasB S)).length (strs (F.filter (hasB S))) ∧ w.grownBy w' (some g) := by
  have ho' : w.ownsRow base 9 1 (.slice (some ⟨g, 0, none⟩) F.length cap) F.length ((raw F).map encStr) := by rw [enc_raw]; exact ho
  obtain ⟨g', cap', e0, hb, hg, hcap, hmx, _, hH⟩ := Lib.holds_of_ownsRow ho' (by simp)
  injection e0 with e1 _ e3
  injection e1 with e1
  injection e1 with e1
  subst e1
  subst e3
  have hbx := World.block_lt_of_cell? _ _ hx
  have hD := AnyE.slices_DeleteFunc Tryd.delF encStr (fun _ => rfl) (fun l => !(hasB S ⟨l.toArray⟩)) 63 #[.pointer (some ⟨bx, 0, none⟩)] (enters_of Tryd.func63 (by kernel_rfl) rfl) [] (fun w => by kernel_rfl) g 0 cap (raw F).toArray w
    (fun u l hu => (mgKept_box ⟨l.toArray⟩ bx AS S cS u (Row.of_own (own_below hS hu)) hlS ((hu.cell (p := ⟨bx, 0, none⟩) hbx).trans hx)).mono fun e u' h2 => ⟨by rw [h2.1], 0, h2.2.symm⟩)
    (fun n os dk l _ => (mgKept_box ⟨l.toArray⟩ bx AS S cS _ (Row.of_own (hS.kept (grownBy_sorted (w := w) (g := g) (n := n) (os := os) dk) (own_ne hS (fun k hk => by injection hk with hk; omega)))) hlS (by
      show (grow (putRow encStr (Sort.ahead w n) g 0 dk) os).cell? _ = _
      rw [World.cell?_of_block (a := ⟨bx, 0, none⟩) ((grownBy_sorted (w := w) (g := g) (n := n) (os := os) dk).block bx hbx (fun e => hne (by injection e)))]
      exact hx)).mono fun e u' h2 => ⟨by rw [h2.1], 0, h2.2.symm⟩)
    hH (by rw [List.size_toArray, raw_length]; omega) (by rw [List.size_toArray, raw_length]; exact hcap)
  rw [List.size_toArray, raw_length, List.toList_toArray, raw_filter, raw_length] at hD
  refine hD.mono ?_
  rintro e w' ⟨rfl, q, rfl⟩
  have hkl : (F.filter (hasB S)).length ≤ F.length := List.length_filter_le _ _
  refine ⟨rfl, ?_, mg_grown _⟩
  have h3 := Lib.ownsRow_putRow (q := q) (k := (F.filter (hasB S)).length) (ys := raw (F.filter (hasB S)) ++ List.replicate (F.length - (F.filter (hasB S)).length) []) ho' (by rw [List.length_append, List.length_replicate, raw_length]; omega) hkl
  rw [List.take_left' (raw_length _), enc_raw] at h3
  exact h3

set_option maxHeartbeats 6400000 in
set_option maxRecDepth 100000 in
theorem impl_writtenByAll (A : Option Addr) (ss : List ByteArray) (c : Nat) (A' : Option Addr) (bs : List ByteArray) (c' : Nat) (gb : Nat) (n : Int) (w0 w : World) (h : Row w0 w0.heap.size A (strs ss)) (hl : ss.length ≤ 9223372036854775807) (hs : ∀ s ∈ ss, s.size ≤ 9223372036854775807)
    (h' : Row w0 w0.heap.size A' (strs bs)) (hl' : bs.length ≤ 9223372036854775807) (hs' : ∀ s ∈ bs, s.size ≤ 9223372036854775807) (hna : -9223372036854775808 ≤ n) (hnb : n ≤ 9223372036854775807) (hB0 : Below w0.heap.size w0 w) (hgb : w.cell? ⟨gb, 0, none⟩ = some (.slice A' bs.length c')) :
    Calls Tryd.prog 41 #[.int .i64 n, .slice A ss.length c, .slice (some ⟨gb, 0, none⟩) 1 1] w (OkStrs w ((wuOf ss n).filter (hasB (wuOf bs n))) (wuOk ss n && wuOk bs n)) := by
  have hwa := impl_WrittenUpTo A ss c n w ((h.below hB0).more hB0.size) hl hs hna hnb
  have hwb := fun (u : World) (hB : Below w0.heap.size w0 u) => impl_WrittenUpTo A' bs c' n u ((h'.below hB).more hB.size) hl' hs' hna hnb
  have hla := wuOf_len ss n
  have hlb := wuOf_len bs n
  have hgl := World.block_lt_of_cell? _ _ hgb
  replace hB0 := Lib.hid hB0
  clear h h' hs hs'
  generalize wuOf ss n = F at hwa hla ⊢
  generalize wuOf bs n = S at hwb hlb ⊢
  generalize wuOk ss n = oka at hwa ⊢
  generalize wuOk bs n = okb at hwb ⊢
  replace hwa := Lib.hid hwa
  replace hwb := Lib.hid hwb
  go_enter Tryd.func41, Tryd.ntmps41
  go_wp2_with fail
  refine hwa.out.mono ?_
  rintro e w1 ⟨A1, c1, rfl, ho1, hB1⟩
  have H1 := Lib.hid (And.intro ho1 hB1)
  have hgb1 := (hB1.cell (p := ⟨gb, 0, none⟩) hgl).trans hgb
  clear ho1 hB1 hgb
  go_wp2_with fail
  go_loopw [8, 9, 22] (fun v kv i wr => (i = .int .i64 0 ∧ wr = w1 ∧ v = .slice A1 F.length c1 ∧ kv = .bool oka) ∨ (i = .int .i64 1 ∧ kv = .bool (oka && okb) ∧ wr.ownsRow w.heap.size 9 1 v (F.filter (hasB S)).length (strs (F.filter (hasB S))) ∧ Below w.heap.size w wr))
    (fun _ _ i _ => 2 - (intOf i).toNat)
  case atStart => exact .inl ⟨rfl, rfl, rfl, rfl⟩
  case round =>
    rcases hrel with ⟨rfl, hw, rfl, rfl⟩ | ⟨rfl, rfl, ho, hB⟩
    · subst hw
      have hwb1 := Lib.hid (hwb.out wr (hB0.out.trans (H1.out.2.mono hB0.out.size)))
      go_wp2_with fail
      refine hwb1.out.mono ?_
      rintro e w2 ⟨A2, c2, rfl, ho2, hB2⟩
      have hBa := (Below.refl w2.heap.size w2).alloc (Nat.le_refl _) (.cells #[.slice A2 S.length c2] 22)
      have hc2 : (w2.alloc (.cells #[.slice A2 S.length c2] 22)).cell? ⟨w2.heap.size, 0, none⟩ = some (.slice A2 S.length c2) := by
        rw [World.cell?_alloc_at _ _ _ _ rfl]
        rfl
      have hF2 := own_below (own_below H1.out.1 hB2) hBa
      have hS2 := own_below ho2 hBa
      have H2 := Lib.hid (And.intro hF2 (And.intro hS2 (And.intro hc2 ((H1.out.2.trans (hB2.mono H1.out.2.size)).alloc (Nat.le_trans H1.out.2.size hB2.size) (.cells #[.slice A2 S.length c2] 22)))))
      have hlt1 := H1.out.1.lt
      have hsz2 := hB2.size
      have hdel : Hid (Calls Tryd.prog 62 #[.slice A1 F.length c1, .func (.func 63) #[] #[.pointer (some ⟨w2.heap.size, 0, none⟩)]] (w2.alloc (.cells #[.slice A2 S.length c2] 22))
          fun e w' => ∃ v, e = .returned v ∧ w'.ownsRow w.heap.size 9 1 v (F.filter (hasB S)).length (strs (F.filter (hasB S))) ∧ Below w.heap.size w w') := by
        by_cases h0 : F.length = 0
        · obtain rfl := List.eq_nil_of_length_eq_zero h0
          refine (del_none A1 c1 _ _).mono ?_
          rintro e w' ⟨rfl, rfl⟩
          exact ⟨_, rfl, H2.out.1, H2.out.2.2.2⟩
        · obtain ⟨g1, rfl, hg10, hg11⟩ := own_form H1.out.1 (by omega)
          refine (del_own g1 c1 w.heap.size wr.heap.size F S A2 c2 w2.heap.size _ H2.out.1 (by omega) (by omega) (by omega) H2.out.2.1 (by omega) H2.out.2.2.1).mono ?_
          rintro e w' ⟨rfl, ho, hg⟩
          exact ⟨_, rfl, ho, H2.out.2.2.2.grown hg H2.out.2.2.2.size (fun k hk => by injection hk with hk; omega)⟩
      clear ho2 hB2 hBa hc2 hF2 hS2 hwb1 hlt1 H2
      go_wp2_with fail
      refine hdel.out.mono ?_
      rintro e w3 ⟨v3, rfl, ho3, hB3⟩
      have H3 := Lib.hid (And.intro ho3 hB3)
      clear ho3 hB3 hdel
      cases oka
      all_goals
        go_wp2
        go_roundw
        case rel => exact .inr ⟨rfl, rfl, H3.out⟩
        case measure => simp [intOf]
    · have HO := Lib.hid (And.intro ho hB)
      clear ho hB
      go_wp2
      go_ret2
      exact okStrs_of HO.out.1 rfl HO.out.2

theorem wuOk_set {ss : List ByteArray} {n : Int} (h : wuOk ss n = true) : W.isSet ss = true ∧ 0 ≤ n ∧ n ≤ 8 ∧ (wuL ss n.toNat).length ≤ 200 := by
  unfold wuOk wuAsk at h
  simp only [Bool.and_eq_true, decide_eq_true_eq] at h
  exact ⟨h.1.1, h.1.2.1, h.1.2.2, h.2⟩
theorem mg_lst {ss bs : List ByteArray} {n : Int} (h : wuOk ss n = true) : Ls.W.isLst (mgC ss bs n.toNat) = true := by
  obtain ⟨h1, h2, h3, h4⟩ := wuOk_set h
  unfold mgC
  exact lst_sub (wu_lst h1 (by omega) h4) List.filter_sublist
theorem mg_filter {ss bs : List ByteArray} {n : Int} (h : (wuOk ss n && wuOk bs n) = true) : (wuOf ss n).filter (hasB (wuOf bs n)) = mgC ss bs n.toNat := by
  simp only [Bool.and_eq_true] at h
  rw [wuOf_yes h.1, wuOf_yes h.2]
  rfl
set_option maxHeartbeats 3200000 in
theorem impl_MeetGenerators (A : Option Addr) (ss : List ByteArray) (c : Nat) (A' : Option Addr) (bs : List ByteArray) (c' : Nat) (n : Int) (w : World) (h : Row w w.heap.size A (strs ss)) (hl : ss.length ≤ 9223372036854775807) (hs : ∀ s ∈ ss, s.size ≤ 9223372036854775807)
    (h' : Row w w.heap.size A' (strs bs)) (hl' : bs.length ≤ 9223372036854775807) (hs' : ∀ s ∈ bs, s.size ≤ 9223372036854775807) (hna : -9223372036854775808 ≤ n) (hnb : n ≤ 9223372036854775807) :
    Calls Tryd.prog 19 #[.slice A ss.length c, .slice A' bs.length c', .int .i64 n] w (OkStrs w (mgOf ss bs n) (mgOk ss bs n)) := by
  have hBa := (Below.refl w.heap.size w).alloc (Nat.le_refl _) (.cells #[.slice A' bs.length c'] 22)
  have hcl : (w.alloc (.cells #[.slice A' bs.length c'] 22)).cell? ⟨w.heap.size, 0, none⟩ = some (.slice A' bs.length c') := by
    rw [World.cell?_alloc_at _ _ _ _ rfl]
    rfl
  have hwa := impl_writtenByAll A ss c A' bs c' w.heap.size n w (w.alloc (.cells #[.slice A' bs.length c'] 22)) h hl hs h' hl' hs' hna hnb hBa hcl
  have HBa := Lib.hid hBa
  clear h h' hs hs' hBa hcl
  cases hok : (wuOk ss n && wuOk bs n)
  · obtain ⟨e1, e2⟩ := mg_no hok
    rw [e1, e2]
    rw [hok] at hwa
    clear e1 e2 hok
    generalize (wuOf ss n).filter (hasB (wuOf bs n)) = L at hwa
    replace hwa := Lib.hid hwa
    go_enter Tryd.func19, Tryd.ntmps19
    go_wp2_with fail
    refine hwa.out.mono ?_
    rintro e w1 ⟨A1, c1, rfl, ho1, hB1⟩
    have HB := Lib.hid (HBa.out.trans (hB1.mono HBa.out.size))
    clear ho1 hB1
    go_wp2
    go_ret2
    exact okStrs_nil _ _ _ HB.out
  · rw [hok, mg_filter hok] at hwa
    have hab := hok
    simp only [Bool.and_eq_true] at hab
    obtain ⟨e1, e2⟩ := mg_yes hab.1 hab.2
    rw [e1, e2]
    have hC := Lib.hid (mg_lst (bs := bs) hab.1)
    clear e1 e2 hok hab
    generalize mgC ss bs n.toNat = C at hwa hC ⊢
    have hge := Lib.hid (fun A c u g => Ls.impl_generatorsIn A C c u g hC.out)
    have hll : (lgB C).length ≤ 200 := Nat.le_trans (lgB_sub C).length_le (Ls.W.isLst_len C hC.out)
    have hfit := fun A c u g => impl_setOfFitting A (lgB C) c u g (by omega)
    generalize lgB C = G at hge hfit hll ⊢
    generalize fitOf G = R at hfit ⊢
    generalize fitOk G = ok at hfit ⊢
    replace hwa := Lib.hid hwa
    replace hfit := Lib.hid hfit
    go_enter Tryd.func19, Tryd.ntmps19
    go_wp2_with fail
    refine hwa.out.mono ?_
    rintro e w1 ⟨A1, c1, rfl, ho1, hB1⟩
    have H1 := Lib.hid (And.intro (Row.of_own ho1) (HBa.out.trans (hB1.mono HBa.out.size)))
    clear ho1 hB1
    go_wp2_with fail
    refine (hge.out _ _ _ H1.out.1).mono ?_
    rintro e w2 ⟨A2, c2, rfl, ho2, hB2⟩
    have H2 := Lib.hid (And.intro (Row.of_own ho2) (H1.out.2.trans (hB2.mono H1.out.2.size)))
    clear ho2 hB2
    go_wp2_with fail
    refine (hfit.out _ _ _ H2.out.1).mono ?_
    rintro e w3 ⟨A3, c3, rfl, ho3, hB3⟩
    have H3 := Lib.hid (And.intro (own_base ho3 H2.out.2.size) (H2.out.2.trans (hB3.mono H2.out.2.size)))
    clear ho3 hB3
    go_wp2
    go_ret2
    exact okStrs_of H3.out.1 rfl H3.out.2
end Go.Proofs.YtlmcemdbalhkiaaDoor
