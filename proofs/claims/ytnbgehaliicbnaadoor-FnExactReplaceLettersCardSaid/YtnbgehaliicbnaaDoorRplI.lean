/-
  WHAT THIS FILE PROVES: words in place of letters: the program's functions give the plain set; asked: slices of texts in memory, lengths that an int holds and no more than the capacities.
-/
import Derived.Test.YtnbgehaliicbnaaDoorRpl
import Derived.Test.YtnbgehaliicbnaaDoorBld
import Derived.Test.YtnbgehaliicbnaaDoorLof
import Derived.Test.YtnbgehaliicbnaaDoorPb
import Derived.Test.YtnbgehaliicbnaaDoorKrV
import Derived.StillTailTactics
import Derived.BigQuiet
namespace Go.Proofs.YtnbgehaliicbnaaDoor
open Go.RowKit Go.Shelf

theorem krWd_at {L : Int} {l : List UInt8} (h : W.krWd L l = true) (k : Nat) (hk : k < l.length) : 97 ≤ l[k].toNat ∧ (l[k].toNat : Int) < 97 + L := by
  have := List.all_eq_true.1 h l[k] (List.getElem_mem hk)
  simpa using this
theorem strCells_append (a b : ByteArray) : Lib.strCells (a ++ b) = Lib.strCells a ++ Lib.strCells b := by
  rw [Lib.strCells_eq, ByteArray.data_append, Array.toList_append, Lib.byteCells_append, ← Lib.strCells_eq, ← Lib.strCells_eq]
set_option maxHeartbeats 3200000 in
set_option maxRecDepth 100000 in
theorem impl_replaced (A : Option Addr) (bs : List ByteArray) (c : Nat) (s : ByteArray) (w : World) (h : Row w w.heap.size A (strs bs)) (hb : W.isSet bs = true) (hs : W.short s = true) (hk : W.krWd (bs.length : Int) s.data.toList = true) :
    Calls Tryd.prog 22 #[.string s, .slice A bs.length c] w fun e w' => e = .returned (.string (rpB bs s)) ∧ Below w.heap.size w w' := by
  have hsl : s.data.toList.length = s.size := (Lib.size_eq s).symm
  have h8 := (W.short_size s hs).2
  have h12 := W.isSet_len bs hb
  have Hlet := Lib.hid (show ∀ k (hk : k < s.size), 97 ≤ s[k].toNat ∧ (s[k].toNat : Int) < 97 + (bs.length : Int) from fun k hk' => krWd_at hk k (by rw [hsl]; exact hk'))
  have Hrs := Lib.hid (fun k hk => rpTo_succ bs s k hk)
  have Hrz := Lib.hid (fun k hk => rpTo_size hb s k hk)
  have Hn8 := Lib.hid (fun i => nth_le8 hb i)
  have Hall := Lib.hid (rpTo_all bs s)
  have hB0 : Below w.heap.size w (w.alloc (.cells #[.pointer none, .slice none 0 0] 59)) := (Below.refl _ _).alloc (Nat.le_refl _) _
  have hI0 := Lib.fresh_isBuilder 59 5 w
  replace hI0 := Lib.hid (And.intro hI0 hB0)
  replace h := Lib.hid h
  clear hsl hs hb hk hB0
  go_enter Tryd.func22, Tryd.ntmps22
  go_wp2
  go_loopw [9] (fun i wr => ∃ k : Nat, k ≤ s.size ∧ i = .int .i64 k ∧ Lib.IsBuilder 59 5 w.heap.size w.heap.size (Lib.strCells (rpTo bs s k)) wr ∧ Below w.heap.size w wr) (fun i _ => s.size - (intOf i).toNat)
  case atStart => exact ⟨0, Nat.zero_le _, rfl, hI0.out.1, hI0.out.2⟩
  case round =>
    obtain ⟨k, hk, rfl, hI, hB⟩ := hrel
    have hO := Lib.hid (And.intro hI hB)
    clear hI hB hI0
    by_cases hlt : k < s.size
    · have hlt' : (k : Int) < (s.size : Int) := by omega
      have hl := Hlet.out k hlt
      have hrs := Lib.hid (Hrs.out k hlt)
      have hrz := Hrz.out k hk
      have hbb := s[k].toNat_lt
      have hsub : ((s[k].toNat : Int) - 97) % 256 = (s[k].toNat : Int) - 97 := by omega
      have hc : s[k].toNat - 97 < bs.length := by omega
      obtain ⟨b, off, rfl, hb1, hcc⟩ := h.out (by rw [strs_length]; omega)
      have c1 := (hO.out.2.cell (p := ⟨b, off + (s[k].toNat - 97), none⟩) hb1).trans (hcc _ _ (strs_nth bs (s[k].toNat - 97) hc))
      have hn8 := Hn8.out (s[k].toNat - 97)
      unfold rp1 at hrs
      generalize hq : s[k].toNat - 97 = q at c1 hn8 hrs hc
      have hq1 : (s[k].toNat : Int) - 97 = (q : Int) := by omega
      have hq2 : ¬ ((bs.length : Int) ≤ (q : Int)) := by omega
      have hq3 : (q : Int) < (bs.length : Int) := by omega
      generalize W.nth bs q = t at c1 hn8 hrs
      have Hs := Lib.hid (show Lib.strCells (rpTo bs s (k + 1)) = Lib.strCells (rpTo bs s k) ++ Lib.strCells t by rw [hrs.out, strCells_append])
      generalize rpTo bs s k = y at hrs hrz hO Hs ⊢
      have hw := Lib.hid (bld_write w.heap.size w.heap.size (Lib.strCells y) t wr.drew hO.out.1 (by rw [Lib.strCells_length]; omega) hO.out.2.size)
      have HB := Lib.hid hO.out.2
      have h97 : ((⟨#[97, 98, 99]⟩ : ByteArray)[0]'(by decide)).toNat = 97 := rfl
      have hwr : IntKind.u8.wrap (q : Int) = (q : Int) := IntWalk.u8_in _ (by omega)
      clear hcc hq hrs hO
      go_wp2
      go_still_tail 8, (by kernel_rfl)
      change wpList _ _ _ _ _ wr.drew
      have hw2 := Lib.hid (And.intro hw.out HB.out.drew)
      clear hw
      generalize wr.drew = w2 at hw2 ⊢
      go_wp2_with fail
      refine hw2.out.1.mono ?_
      rintro e w3 ⟨rfl, hI3, hB3⟩
      have hO3 := Lib.hid (And.intro hI3 (hw2.out.2.trans hB3))
      clear hI3 hB3
      go_wp2
      go_roundw
      case rel => exact ⟨k + 1, by omega, by go_num, by rw [Hs.out]; exact .inr hO3.out.1, hO3.out.2⟩
      case measure => simp [intOf]; omega
    · obtain rfl : k = s.size := by omega
      have hst := Tryd.Builder_String_any w.heap.size w.heap.size (rpTo bs s s.size).data.toList wr (by rw [← Lib.strCells_eq]; exact hO.out.1) hO.out.2.size
      rw [show (⟨(rpTo bs s s.size).data.toList.toArray⟩ : ByteArray) = rpB bs s from Hall.out] at hst
      replace hst := Lib.hid hst
      have HB := Lib.hid hO.out.2
      clear hO
      go_wp2_with fail
      refine hst.out.mono ?_
      rintro e w3 ⟨rfl, hB3⟩
      go_wp2_with fail
      go_ret
      exact ⟨rfl, HB.out.trans hB3⟩
theorem impl_repl1 (s : ByteArray) (bx : Nat) (A : Option Addr) (bs : List ByteArray) (c : Nat) (w : World) (h : Row w w.heap.size A (strs bs)) (hx : w.cell? ⟨bx, 0, none⟩ = some (.slice A bs.length c)) (hb : W.isSet bs = true) (hs : W.short s = true) (hk : W.krWd (bs.length : Int) s.data.toList = true) :
    Calls Tryd.prog 21 #[.string s, .pointer (some ⟨bx, 0, none⟩)] w fun e w' => e = .returned (.string (rpB bs s)) ∧ Below w.heap.size w w' := by
  have hc := Lib.hid (impl_replaced A bs c s w h hb hs hk)
  clear h hb hs hk
  go_enter Tryd.func21, Tryd.ntmps21
  go_wp2_with fail
  refine hc.out.mono ?_
  rintro e w' ⟨rfl, hB⟩
  go_wp2_with fail
  go_ret
  exact ⟨rfl, hB⟩
set_option maxHeartbeats 6400000 in
set_option maxRecDepth 100000 in
theorem impl_ReplaceLetters (A : Option Addr) (ss : List ByteArray) (c : Nat) (A' : Option Addr) (bs : List ByteArray) (c' : Nat) (w : World) (h : Row w w.heap.size A (strs ss)) (hcap : ss.length ≤ c) (hl : ss.length ≤ 9223372036854775807) (hs : ∀ s ∈ ss, s.size ≤ 9223372036854775807)
    (h' : Row w w.heap.size A' (strs bs)) (_hcap' : bs.length ≤ c') (hl' : bs.length ≤ 9223372036854775807) (hs' : ∀ s ∈ bs, s.size ≤ 9223372036854775807) :
    Calls Tryd.prog 7 #[.slice A ss.length c, .slice A' bs.length c'] w (OkStrs w (rpOf ss bs) (rpOk ss bs)) := by
  have hBU : Below w.heap.size w (w.alloc (.cells #[.slice A' bs.length c'] 22)) := (Below.refl _ _).alloc (Nat.le_refl _) _
  have hx0 : (w.alloc (.cells #[.slice A' bs.length c'] 22)).cell? ⟨w.heap.size, 0, none⟩ = some (.slice A' bs.length c') := by
    rw [World.cell?_alloc_at _ _ _ _ rfl]
    rfl
  have hI := Lib.hid (impl_IsSet A' bs c' _ ((h'.below hBU).more hBU.size) hl' hs')
  cases hby : W.isSet bs
  · have hno : rpOk ss bs = false := by unfold rpOk rpAsk; rw [hby]; rfl
    rw [rpOf_no hno, hno]
    rw [hby] at hI
    clear h hs h' hs' hby hno
    go_enter Tryd.func7, Tryd.ntmps7
    go_wp2_with fail
    generalize (w.alloc (.cells #[.slice A' bs.length c'] 22)) = u at hBU hx0 hI ⊢
    refine hI.out.mono ?_
    rintro e w1 ⟨rfl, hB⟩
    replace hB := hBU.trans (hB.mono hBU.size)
    clear hx0
    go_wp2_with fail
    go_ret2
    exact okStrs_nil _ _ _ hB
  · rw [hby] at hI
    have hV := fun (u : World) (hB : Below w.heap.size w u) => isValid_words A ss c (bs.length : Int) u ((h.below hB).more hB.size) hcap hl hs
    cases hq : W.krSet ss (bs.length : Int)
    · have hno : rpOk ss bs = false := by unfold rpOk rpAsk; rw [hq]; simp
      rw [rpOf_no hno, hno]
      rw [hq] at hV
      replace hV := Lib.hid hV
      clear h hs h' hs' hby hno hq
      go_enter Tryd.func7, Tryd.ntmps7
      go_wp2_with fail
      generalize (w.alloc (.cells #[.slice A' bs.length c'] 22)) = u at hBU hx0 hI ⊢
      refine hI.out.mono ?_
      rintro e w1 ⟨rfl, hB⟩
      replace hx0 := (hB.cell (p := ⟨w.heap.size, 0, none⟩) (World.block_lt_of_cell? _ _ hx0)).trans hx0
      replace hB := hBU.trans (hB.mono hBU.size)
      have hV1 := Lib.hid (hV.out w1 hB)
      go_wp2_with fail
      refine hV1.out.mono ?_
      rintro e w2 ⟨rfl, hB2⟩
      replace hB2 := hB.trans (hB2.mono hB.size)
      clear hx0
      go_wp2_with fail
      go_ret2
      exact okStrs_nil _ _ _ hB2
    · rw [hq] at hV
      replace hV := Lib.hid hV
      have hset := W.krSet_set hq
      have h12 := W.isSet_len ss hset
      have hask : rpAsk ss bs = true := by unfold rpAsk; rw [hby, hq]; rfl
      have Hsh := Lib.hid (fun k hk => W.isSet_short ss hset k hk)
      have Hkw := Lib.hid (show ∀ k, k < ss.length → W.krWd (bs.length : Int) (W.nth ss k).data.toList = true from fun k hk => by
        have hq2 := hq
        unfold W.krSet at hq2
        simp only [Bool.and_eq_true] at hq2
        rw [W.nth_lt ss k hk]
        exact List.all_eq_true.1 hq2.2.2 _ (List.getElem_mem hk))
      have Hby := Lib.hid hby
      have Hsz := Lib.hid (rpAll_size hset hby)
      have hrl := rpAll_len ss bs
      have Hrow := Lib.hid h
      have Hrow' := Lib.hid h'
      have Hcase := Lib.hid (show (anOk (rpAll ss bs) = false → rpOk ss bs = false ∧ rpOf ss bs = []) ∧ (anOk (rpAll ss bs) = true → (anOf (rpAll ss bs)).length < ss.length → rpOk ss bs = false ∧ rpOf ss bs = []) ∧ (anOk (rpAll ss bs) = true → ¬ (anOf (rpAll ss bs)).length < ss.length → rpOk ss bs = true ∧ rpOf ss bs = anOf (rpAll ss bs)) from by
        have e1 : anOk (rpAll ss bs) = true → anOf (rpAll ss bs) = ordB (rpAll ss bs) := fun e => by unfold anOf; rw [e]; rfl
        refine ⟨fun e => ?_, fun e hl => ?_, fun e hl => ?_⟩
        · have : rpOk ss bs = false := by unfold rpOk; rw [e]; simp
          exact ⟨this, rpOf_no this⟩
        · rw [e1 e] at hl
          have : rpOk ss bs = false := by unfold rpOk; rw [e, decide_eq_true hl]; simp
          exact ⟨this, rpOf_no this⟩
        · rw [e1 e] at hl ⊢
          have : rpOk ss bs = true := by unfold rpOk; rw [hask, e, decide_eq_false hl]; rfl
          exact ⟨this, rpOf_yes this⟩)
      clear h hs h' hs' hby hq hset hask
      go_enter Tryd.func7, Tryd.ntmps7
      go_wp2_with fail
      generalize (w.alloc (.cells #[.slice A' bs.length c'] 22)) = u at hBU hx0 hI ⊢
      refine hI.out.mono ?_
      rintro e w1 ⟨rfl, hB⟩
      replace hx0 := (hB.cell (p := ⟨w.heap.size, 0, none⟩) (World.block_lt_of_cell? _ _ hx0)).trans hx0
      replace hB := hBU.trans (hB.mono hBU.size)
      have hV1 := Lib.hid (hV.out w1 hB)
      go_wp2_with fail
      refine hV1.out.mono ?_
      rintro e w2 ⟨rfl, hB2⟩
      replace hx0 := Lib.hid ((hB2.cell (p := ⟨w.heap.size, 0, none⟩) (World.block_lt_of_cell? _ _ hx0)).trans hx0)
      replace hB2 := hB.trans (hB2.mono hB.size)
      have hmk : Makes 21 #[.pointer (some ⟨w.heap.size, 0, none⟩)] (rpB bs) ss w2 := fun k v hk hBv => by
        refine impl_repl1 _ _ A' bs c' v ((Hrow'.out.below (hB2.trans (hBv.mono hB2.size))).more (hB2.trans (hBv.mono hB2.size)).size) ?_ Hby.out (Hsh.out k hk) (Hkw.out k hk)
        exact (hBv.cell (p := ⟨w.heap.size, 0, none⟩) (World.block_lt_of_cell? _ _ hx0.out)).trans hx0.out
      have hlo := listOf_func 21 #[.pointer (some ⟨w.heap.size, 0, none⟩)] (enters_of Tryd.func21 (by kernel_rfl) rfl) (rpB bs) A ss c w2 ((Hrow.out.below hB2).more hB2.size) (by omega) hmk
      replace hlo : Hid (Calls Tryd.prog 20 #[.slice A ss.length c, .func (.func 21) #[] #[.pointer (some ⟨w.heap.size, 0, none⟩)]] w2 (GivesStrs w2 (rpAll ss bs))) := hlo
      obtain ⟨q1, q2⟩ := so_an (ss := rpAll ss bs) (by omega)
      have hst := fun (A : Option Addr) (c : Nat) (u : World) (hr : Row u u.heap.size A (strs (rpAll ss bs))) => impl_SetOf A (rpAll ss bs) c u hr (by omega) (fun s hs => by have := Hsz.out s hs; omega)
      rw [q1, q2] at hst
      replace hst := Lib.hid hst
      have hHB := Lib.hid hB2
      replace hrl := Lib.hid hrl
      clear hmk q1 q2 hB hB2
      generalize rpAll ss bs = L at hlo hst hrl Hcase
      go_wp2_with fail
      refine hlo.out.mono ?_
      rintro e w3 ⟨A3, c3, rfl, ho3, hB3⟩
      have hst3 := Lib.hid (hst.out A3 c3 w3 (Row.of_own ho3))
      have hB3 := Lib.hid (hHB.out.trans (hB3.mono hHB.out.size))
      clear ho3 hst hlo
      go_wp2_with fail
      refine hst3.out.mono ?_
      rintro e w4 ⟨A4, c4, rfl, ho4, hB4⟩
      have HO4 := Lib.hid (And.intro (own_base ho4 hB3.out.size) (hB3.out.trans (hB4.mono hB3.out.size)))
      clear ho4 hB4
      cases h1 : anOk L
      · have Hr := Lib.hid (Hcase.out.1 h1)
        clear h1
        go_wp2_with fail
        go_ret2
        rw [Hr.out.1, Hr.out.2]
        exact okStrs_nil _ _ _ HO4.out.2
      · by_cases h2 : (anOf L).length < ss.length
        · have Hr := Lib.hid (Hcase.out.2.1 h1 h2)
          have h2' : ((anOf L).length : Int) < (ss.length : Int) := by omega
          clear h1
          go_wp2_with fail
          go_ret2
          rw [Hr.out.1, Hr.out.2]
          exact okStrs_nil _ _ _ HO4.out.2
        · have Hr := Lib.hid (Hcase.out.2.2 h1 h2)
          have h2' : ¬ ((anOf L).length : Int) < (ss.length : Int) := by omega
          clear h1
          go_wp2_with fail
          go_ret2
          rw [Hr.out.1, Hr.out.2]
          exact okStrs_of HO4.out.1 rfl HO4.out.2
end Go.Proofs.YtnbgehaliicbnaaDoor
