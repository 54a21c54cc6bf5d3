/-
  WHAT THIS FILE PROVES: what a message is written as: the specification's and the program's functions give the same text; asked: a slice of texts and one of numbers in memory, lengths that an int holds.
-/
import Derived.Test.YtaeligamgpikkaaDoorIn
import Derived.Test.YtaeligamgpikkaaDoorText
import Derived.Test.YtaeligamgpikkaaDoorSSMem
namespace Go.Proofs.YtaeligamgpikkaaDoor
open Go.RowKit Go.Shelf

/-- the words with given indices -/
def picks (ss : List ByteArray) (zs : List Int) : List ByteArray := zs.map fun z => W.nth ss z.toNat
theorem picks_succ (ss : List ByteArray) (zs : List Int) (k : Nat) (h : k < zs.length) : picks ss (zs.take (k + 1)) = picks ss (zs.take k) ++ [W.nth ss (zs[k]).toNat] := by
  unfold picks
  rw [List.take_succ_eq_append_getElem h, List.map_append]
  rfl
theorem picks_len (ss : List ByteArray) (zs : List Int) (k : Nat) (h : k ≤ zs.length) : (picks ss (zs.take k)).length = k := by
  unfold picks
  rw [List.length_map, List.length_take]
  omega
/-- a message is asked for -/
def wmAsk (ss : List ByteArray) (zs : List Int) : Bool := W.isSet ss && (decide (zs.length ≤ 60) && zs.all (inR 0 ((ss.length : Int) - 1)))
def wmOk (ss : List ByteArray) (zs : List Int) : Bool := wmAsk ss zs && W.okCat (picks ss zs)
def wmOf (ss : List ByteArray) (zs : List Int) : ByteArray := if wmAsk ss zs then W.catOf (picks ss zs) else ⟨#[]⟩
theorem wm_no {ss : List ByteArray} {zs : List Int} (h : wmAsk ss zs = false) : wmOk ss zs = false ∧ wmOf ss zs = ⟨#[]⟩ := by unfold wmOk wmOf; rw [h]; exact ⟨rfl, rfl⟩
theorem wm_yes {ss : List ByteArray} {zs : List Int} (h : wmAsk ss zs = true) : wmOk ss zs = W.okCat (picks ss zs) ∧ wmOf ss zs = W.catOf (picks ss zs) := by unfold wmOk wmOf; rw [h]; exact ⟨rfl, rfl⟩
theorem picks_size {ss : List ByteArray} (hset : W.isSet ss = true) (zs : List Int) : ∀ x ∈ picks ss zs, x.size ≤ 9223372036854775807 := fun x hx => by
  unfold picks at hx
  obtain ⟨z, _, rfl⟩ := List.mem_map.1 hx
  by_cases h : z.toNat < ss.length
  · have := (W.short_size _ (W.isSet_short ss hset _ h)).2
    omega
  · unfold W.nth
    rw [List.getD_eq_getElem?_getD, List.getElem?_eq_none (by omega)]
    exact Nat.zero_le _
theorem own_grow {w : World} {base e n m : Nat} {v : Value} {xs ys : List Value} (h : w.ownsRow base e 1 v n xs) (e1 : n = m) (e2 : xs = ys) : w.ownsRow base e 1 v m ys := by subst e1 e2; exact h

set_option maxHeartbeats 1600000 in
theorem spec_WriteMessage (A : Option Addr) (ss : List ByteArray) (c : Nat) (A' : Option Addr) (zs : List Int) (c' : Nat) (w : World) (h : Row w w.heap.size A (strs ss)) (hl : ss.length ≤ 9223372036854775807) (hs : ∀ s ∈ ss, s.size ≤ 9223372036854775807)
    (h' : Row w w.heap.size A' (ints zs)) (hl' : zs.length ≤ 9223372036854775807) :
    Calls Tryd.prog 30 #[.slice A ss.length c, .slice A' zs.length c'] w fun e w' => e = .returned (.tuple #[.string (wmOf ss zs), .bool (wmOk ss zs)]) ∧ Below w.heap.size w w' := by
  have hc := spec_wdSet A ss c w h hl hs
  cases hq : W.isSet ss
  · have hno : wmAsk ss zs = false := by unfold wmAsk; rw [hq]; rfl
    rw [(wm_no hno).1, (wm_no hno).2]
    rw [hq] at hc
    replace hc := Lib.hid hc
    clear h hs hq hno h'
    go_enter Tryd.func30, Tryd.ntmps30
    go_wp2_with (go_at_call 44; refine hc.out.mono ?_; rintro e w' ⟨rfl, rfl⟩)
    go_ret2
    exact ⟨rfl, Below.refl _ _⟩
  · rw [hq] at hc
    replace hc := Lib.hid hc
    have h12 := W.isSet_len ss hq
    by_cases h60 : zs.length ≤ 60
    · have ha := spec_l1AllR A' zs c' 0 ((ss.length : Int) - 1) w h' (by omega)
      cases hz : zs.all (inR 0 ((ss.length : Int) - 1))
      · have hno : wmAsk ss zs = false := by unfold wmAsk; rw [hz]; simp
        rw [(wm_no hno).1, (wm_no hno).2]
        rw [hz] at ha
        replace ha := Lib.hid ha
        clear h hs hq hno h' hz
        have h60' : (zs.length : Int) ≤ 60 := by omega
        go_enter Tryd.func30, Tryd.ntmps30
        go_wp2_with (first | (go_at_call 44; refine hc.out.mono ?_; rintro e w' ⟨rfl, rfl⟩) | (go_at_call 45; refine ha.out.mono ?_; rintro e w' ⟨rfl, rfl⟩))
        go_ret2
        exact ⟨rfl, Below.refl _ _⟩
      · have hok : wmAsk ss zs = true := by unfold wmAsk; rw [hz, hq, decide_eq_true h60]; rfl
        rw [(wm_yes hok).1, (wm_yes hok).2]
        rw [hz] at ha
        replace ha := Lib.hid ha
        have Hcat := Lib.hid (fun A c W hr hcap => spec_Concat A (picks ss zs) c W hr hcap (by have := picks_len ss zs zs.length (Nat.le_refl _); rw [List.take_length] at this; omega) (picks_size hq zs))
        have Hin := Lib.hid (fun k (hk : k < zs.length) => List.all_eq_true.1 hz _ (List.getElem_mem hk))
        generalize W.okCat (picks ss zs) = ok at Hcat ⊢
        generalize W.catOf (picks ss zs) = x at Hcat ⊢
        replace h := Lib.hid h
        replace h' := Lib.hid h'
        obtain ⟨i0, hi, hz0, hz1, hz2⟩ := info_parts infoStr
        have HR := Lib.hid (And.intro hi (And.intro hz0 (And.intro hz1 hz2)))
        clear hs hq hz hok hi hz0 hz1 hz2
        have h60' : (zs.length : Int) ≤ 60 := by omega
        go_enter Tryd.func30, Tryd.ntmps30
        go_wp2_with (first | (go_at_call 44; refine hc.out.mono ?_; rintro e w' ⟨rfl, rfl⟩) | (go_at_call 45; refine ha.out.mono ?_; rintro e w' ⟨rfl, rfl⟩))
        go_loopw [6, 27] (fun v i wr => ∃ k : Nat, k ≤ zs.length ∧ i = .int .i64 k ∧ wr.ownsRow w.heap.size 9 1 v k (strs (picks ss (zs.take k))) ∧ Below w.heap.size w wr) (fun _ i _ => zs.length - (intOf i).toNat)
        case atStart => exact ⟨0, Nat.zero_le _, rfl, World.ownsRow_nil _ _ _ _, Below.refl _ _⟩
        case round =>
          obtain ⟨k, hk, rfl, ho, hB⟩ := hrel
          obtain ⟨Av, cv, rfl⟩ := own_slice ho
          have hO := Lib.hid (And.intro ho hB)
          have hsz := hB.size
          clear ho hB
          by_cases hlt : k < zs.length
          · have hlt' : (k : Int) < (zs.length : Int) := by omega
            obtain ⟨b', off', rfl, hb', hcc'⟩ := Row.int_at h'.out (by omega)
            have c1 := (hO.out.2.cell (p := ⟨b', off' + k, none⟩) hb').trans (hcc' k hlt)
            have hin := Hin.out k hlt
            have Hsuc := Lib.hid (picks_succ ss zs k hlt)
            clear hcc'
            generalize zs[k] = z at c1 hin Hsuc
            unfold inR at hin
            simp only [decide_eq_true_eq] at hin
            obtain ⟨m, rfl⟩ := Int.eq_ofNat_of_zero_le hin.1
            have hml : m < ss.length := by omega
            have hml' : (m : Int) < (ss.length : Int) := by omega
            obtain ⟨b, off, rfl, hb, hcc⟩ := h.out (by rw [strs_length]; omega)
            have c2 := (hO.out.2.cell (p := ⟨b, off + m, none⟩) hb).trans (hcc m _ (strs_nth ss m hml))
            rw [Int.toNat_natCast] at Hsuc
            clear hin hcc
            generalize W.nth ss m = t at c2 Hsuc
            go_wp2_with (at_builtin; refine wpList_append_own _ rfl _ _ 22 rfl w.heap.size 9 i0 (.string ByteArray.empty) 1 16 Tryd.underlying22 HR.out.1 HR.out.2.1 HR.out.2.2.1 HR.out.2.2.2 rfl (by decide) _ _ _ rfl (hO.out.1.alloc _) ⟨wr.heap.size, 0, none⟩ 1 1 [.string t] rfl rfl ?c1 ?c2 ?c3 ?c4 ?c5 ?_)
            case c1 => exact cell_one_new _ _ _
            case c2 => exact one_text _
            case c3 => unfold maxLen; omega
            case c4 => omega
            case c5 => simp; omega
            intro v' w1 hown' hgrow _
            have hlt1 := hO.out.1.lt
            have hF := Lib.hid (And.intro hown' ((hO.out.2.alloc hsz _).grown hgrow (by simp; omega) (fun g hg => (hlt1 g hg).1)))
            clear hown' hgrow hlt1
            go_wp2
            go_roundw
            case rel => exact ⟨k + 1, by omega, by go_num, by rw [Hsuc.out, strs_snoc]; exact hF.out.1, hF.out.2⟩
            case measure => simp [intOf]; omega
          · obtain rfl : k = zs.length := by omega
            have ho := hO.out.1
            rw [List.take_length] at ho
            have hpl : zs.length = (picks ss zs).length := by unfold picks; rw [List.length_map]
            have hcp := own_cap ho
            have hcall := Hcat.out Av cv wr (Row.of_own ho) (by omega)
            rw [← hpl] at hcall
            replace hcall := Lib.hid hcall
            clear ho hpl hcp
            go_wp2_with (go_at_call 46; refine hcall.out.mono ?_; rintro e w' ⟨rfl, hB2⟩)
            go_ret2
            exact ⟨rfl, hO.out.2.trans (hB2.mono hsz)⟩
    · have hno : wmAsk ss zs = false := by unfold wmAsk; rw [decide_eq_false h60]; simp
      rw [(wm_no hno).1, (wm_no hno).2]
      clear h hs hq hno h'
      have h60' : (60 : Int) < (zs.length : Int) := by omega
      go_enter Tryd.func30, Tryd.ntmps30
      go_wp2_with (go_at_call 44; refine hc.out.mono ?_; rintro e w' ⟨rfl, rfl⟩)
      go_ret2
      exact ⟨rfl, Below.refl _ _⟩

theorem wmAsk_out {ss : List ByteArray} {zs : List Int} (k : Nat) (hk : k < zs.length) (h : inR 0 ((ss.length : Int) - 1) zs[k] = false) : wmAsk ss zs = false := by
  unfold wmAsk
  have : zs.all (inR 0 ((ss.length : Int) - 1)) = false := by
    rw [List.all_eq_false]
    exact ⟨zs[k], List.getElem_mem hk, by rw [h]; simp⟩
  rw [this]
  simp
theorem wmAsk_all {ss : List ByteArray} {zs : List Int} (hset : W.isSet ss = true) (h60 : zs.length ≤ 60) (h : ∀ k (hk : k < zs.length), inR 0 ((ss.length : Int) - 1) zs[k] = true) : wmAsk ss zs = true := by
  unfold wmAsk
  have : zs.all (inR 0 ((ss.length : Int) - 1)) = true := by
    rw [List.all_eq_true]
    intro x hx
    obtain ⟨i, hi, rfl⟩ := List.getElem_of_mem hx
    exact h i hi
  rw [this, hset, decide_eq_true h60]
  rfl
set_option maxHeartbeats 1600000 in
theorem impl_WriteMessage (A : Option Addr) (ss : List ByteArray) (c : Nat) (A' : Option Addr) (zs : List Int) (c' : Nat) (w : World) (h : Row w w.heap.size A (strs ss)) (hl : ss.length ≤ 9223372036854775807) (hs : ∀ s ∈ ss, s.size ≤ 9223372036854775807)
    (h' : Row w w.heap.size A' (ints zs)) (hl' : zs.length ≤ 9223372036854775807) :
    Calls Tryd.prog 32 #[.slice A ss.length c, .slice A' zs.length c'] w fun e w' => e = .returned (.tuple #[.string (wmOf ss zs), .bool (wmOk ss zs)]) ∧ Below w.heap.size w w' := by
  have hc := impl_IsSet A ss c w h hl hs
  cases hq : W.isSet ss
  · have hno : wmAsk ss zs = false := by unfold wmAsk; rw [hq]; rfl
    rw [(wm_no hno).1, (wm_no hno).2]
    rw [hq] at hc
    replace hc := Lib.hid hc
    clear h hs hq hno h'
    go_enter Tryd.func32, Tryd.ntmps32
    go_wp2_with (go_at_call 37; refine hc.out.mono ?_; rintro e w1 ⟨rfl, hB⟩)
    go_ret2
    exact ⟨rfl, hB⟩
  · rw [hq] at hc
    replace hc := Lib.hid hc
    have h12 := W.isSet_len ss hq
    by_cases h60 : zs.length ≤ 60
    · have Hset := Lib.hid hq
      have Hcat := Lib.hid (fun A c W hr hcap => impl_Concat A (picks ss zs) c W hr hcap (by have := picks_len ss zs zs.length (Nat.le_refl _); rw [List.take_length] at this; omega) (picks_size hq zs))
      replace h := Lib.hid h
      replace h' := Lib.hid h'
      obtain ⟨i0, hi, hz0, hz1, hz2⟩ := info_parts infoStr
      have HR := Lib.hid (And.intro hi (And.intro hz0 (And.intro hz1 hz2)))
      clear hs hq hi hz0 hz1 hz2
      have h60' : (zs.length : Int) ≤ 60 := by omega
      go_enter Tryd.func32, Tryd.ntmps32
      go_wp2_with (go_at_call 37; refine hc.out.mono ?_; rintro e w1 ⟨rfl, hB1⟩)
      replace hB1 := Lib.hid hB1
      go_loopw [6, 19] (fun v i wr => ∃ k : Nat, k ≤ zs.length ∧ i = .int .i64 k ∧ wr.ownsRow w.heap.size 9 1 v k (strs (picks ss (zs.take k))) ∧ Below w.heap.size w wr ∧ Hid (∀ j (hj : j < zs.length), j < k → inR 0 ((ss.length : Int) - 1) zs[j] = true)) (fun _ i _ => zs.length - (intOf i).toNat)
      case atStart => exact ⟨0, Nat.zero_le _, rfl, World.ownsRow_nil _ _ _ _, hB1.out, fun _ _ h => absurd h (Nat.not_lt_zero _)⟩
      case round =>
        clear hB1
        obtain ⟨k, hk, rfl, ho, hB, hall⟩ := hrel
        obtain ⟨Av, cv, rfl⟩ := own_slice ho
        have hO := Lib.hid (And.intro ho hB)
        have hsz := hB.size
        clear ho hB
        by_cases hlt : k < zs.length
        · have hlt' : (k : Int) < (zs.length : Int) := by omega
          obtain ⟨b', off', rfl, hb', hcc'⟩ := Row.int_at h'.out (by omega)
          have c1 := (hO.out.2.cell (p := ⟨b', off' + k, none⟩) hb').trans (hcc' k hlt)
          have Hsuc := Lib.hid (picks_succ ss zs k hlt)
          have Hout := Lib.hid (wmAsk_out (ss := ss) k hlt)
          have Hall2 := Lib.hid (show inR 0 ((ss.length : Int) - 1) zs[k] = true → ∀ j (hj : j < zs.length), j < k + 1 → inR 0 ((ss.length : Int) - 1) zs[j] = true from fun e j hj hjk => by
            by_cases e2 : j = k
            · subst e2; exact e
            · exact hall.out j hj (by omega))
          clear hcc'
          generalize zs[k] = z at c1 Hsuc Hout Hall2
          by_cases hin : 0 ≤ z ∧ z ≤ (ss.length : Int) - 1
          · have Hall3 := Lib.hid (Hall2.out (by unfold inR; exact decide_eq_true hin))
            obtain ⟨m, rfl⟩ := Int.eq_ofNat_of_zero_le hin.1
            have hml : m < ss.length := by omega
            have hml' : (m : Int) < (ss.length : Int) := by omega
            have hm0 : (0 : Int) ≤ (m : Int) := by omega
            obtain ⟨b, off, rfl, hb, hcc⟩ := h.out (by rw [strs_length]; omega)
            have c2 := (hO.out.2.cell (p := ⟨b, off + m, none⟩) hb).trans (hcc m _ (strs_nth ss m hml))
            rw [Int.toNat_natCast] at Hsuc
            clear hin hcc Hout Hall2
            generalize W.nth ss m = t at c2 Hsuc
            go_wp2_with (at_builtin; refine wpList_append_own _ rfl _ _ 22 rfl w.heap.size 9 i0 (.string ByteArray.empty) 1 16 Tryd.underlying22 HR.out.1 HR.out.2.1 HR.out.2.2.1 HR.out.2.2.2 rfl (by decide) _ _ _ rfl (hO.out.1.alloc _) ⟨wr.heap.size, 0, none⟩ 1 1 [.string t] rfl rfl ?c1 ?c2 ?c3 ?c4 ?c5 ?_)
            case c1 => exact cell_one_new _ _ _
            case c2 => exact one_text _
            case c3 => unfold maxLen; omega
            case c4 => omega
            case c5 => simp; omega
            intro v' w1 hown' hgrow _
            have hlt1 := hO.out.1.lt
            have hF := Lib.hid (And.intro hown' ((hO.out.2.alloc hsz _).grown hgrow (by simp; omega) (fun g hg => (hlt1 g hg).1)))
            clear hown' hgrow hlt1
            go_wp2
            go_roundw
            case rel => exact ⟨k + 1, by omega, by go_num, by rw [Hsuc.out, strs_snoc]; exact hF.out.1, hF.out.2, Hall3⟩
            case measure => simp [intOf]; omega
          · have hno := Lib.hid (Hout.out (by unfold inR; exact decide_eq_false hin))
            clear Hout Hall2 Hsuc
            by_cases hz : z < 0
            · clear hin
              go_wp2
              go_ret2
              rw [(wm_no hno.out).1, (wm_no hno.out).2]
              exact ⟨rfl, hO.out.2⟩
            · have hz1 : (ss.length : Int) ≤ z := by omega
              have hz2 : 0 ≤ z := by omega
              clear hin hz
              go_wp2
              go_ret2
              rw [(wm_no hno.out).1, (wm_no hno.out).2]
              exact ⟨rfl, hO.out.2⟩
        · obtain rfl : k = zs.length := by omega
          have hok := Lib.hid (wmAsk_all Hset.out h60 (fun j hj => hall.out j hj hj))
          have ho := hO.out.1
          rw [List.take_length] at ho
          have hpl : zs.length = (picks ss zs).length := by unfold picks; rw [List.length_map]
          have hcp := own_cap ho
          have hcall := Hcat.out Av cv wr (Row.of_own ho) (by omega)
          rw [← hpl] at hcall
          replace hcall := Lib.hid hcall
          clear ho hpl hcp hall
          go_wp2_with (go_at_call 47; refine hcall.out.mono ?_; rintro e w' ⟨rfl, hB2⟩)
          go_ret2
          rw [(wm_yes hok.out).1, (wm_yes hok.out).2]
          exact ⟨rfl, hO.out.2.trans (hB2.mono hsz)⟩
    · have hno : wmAsk ss zs = false := by unfold wmAsk; rw [decide_eq_false h60]; simp
      rw [(wm_no hno).1, (wm_no hno).2]
      clear h hs hq hno h'
      have h60' : (60 : Int) < (zs.length : Int) := by omega
      go_enter Tryd.func32, Tryd.ntmps32
      go_wp2_with (go_at_call 37; refine hc.out.mono ?_; rintro e w1 ⟨rfl, hB⟩)
      go_ret2
      exact ⟨rfl, hB⟩

end Go.Proofs.YtaeligamgpikkaaDoor
