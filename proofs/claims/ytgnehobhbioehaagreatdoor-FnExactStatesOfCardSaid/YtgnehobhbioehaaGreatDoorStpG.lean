/-
  WHAT THIS FILE PROVES: groups of states: the program's functions give the plain ones; asked: a reader in memory that holds the states and the table.
-/
import Derived.Test.YtgnehobhbioehaaGreatDoorStpI
import Derived.Test.YtgnehobhbioehaaGreatDoorStpT
import Derived.Deep.QuietTactic
import Derived.StillTailTactics
import Derived.BigQuiet
import Derived.Laws.BitsAllLaws
namespace Go.Proofs.YtgnehobhbioehaaGreatDoor
open Go.RowKit Go.Shelf

theorem wrap_u16_in (n : Int) (h : 0 ≤ n ∧ n ≤ 65535) : IntKind.u16.wrap n = n := IntWalk.u16_in n h
theorem or_bit16 (g x : Nat) (hg : g < 65536) (hx : x < 16) : bits .or .u16 (g : Int) (IntKind.u16.wrap ((2 : Int) ^ x)) = ((g ||| 2 ^ x : Nat) : Int) := by
  have hp : 2 ^ x < 65536 := Nat.pow_lt_pow_right (n := 16) (by omega) hx
  have e : IntKind.u16.wrap ((2 : Int) ^ x) = ((2 ^ x : Nat) : Int) := by
    rw [show ((2 : Int) ^ x) = ((2 ^ x : Nat) : Int) by simp]
    generalize 2 ^ x = p at hp ⊢
    exact IntWalk.u16_in _ (by omega)
  rw [e]
  exact u16_or_nat g (2 ^ x) hg hp
theorem and_one16 (g k : Nat) (hg : g < 65536) : bits .and .u16 ((g : Int) / (2 : Int) ^ k) 1 = if g.testBit k then 1 else 0 := by
  have e : ((g : Int) / (2 : Int) ^ k) = ((g / 2 ^ k : Nat) : Int) := by simp
  have hd := Nat.div_le_self g (2 ^ k)
  rw [e]
  refine (u16_and_nat (g / 2 ^ k) 1 (by omega) (by omega)).trans ?_
  rw [Nat.and_one_is_mod, Nat.testBit_eq_decide_div_mod_eq]
  by_cases h : g / 2 ^ k % 2 = 1
  · rw [h]; rfl
  · have : g / 2 ^ k % 2 = 0 := by omega
    rw [this]; rfl
def intsN (l : List Nat) : List Int := l.map fun (j : Nat) => (j : Int)
theorem intsN_len (l : List Nat) : (intsN l).length = l.length := by simp [intsN]
set_option maxHeartbeats 3200000 in
set_option maxRecDepth 100000 in
theorem impl_members (g : Nat) (w : World) (hg : g < 65536) :
    Calls Tryz.prog 34 #[.int .u16 g] w (GivesInts w (intsN (mems 12 g))) := by
  have Hms := Lib.hid (fun k => mems_succ k g)
  have Hml := Lib.hid (fun k => mems_len k g)
  have Hbt := Lib.hid (fun k => and_one16 g k hg)
  obtain ⟨i0, hi, hz0, hz1, hz2⟩ := info_parts infoInt
  have HR := Lib.hid (And.intro hi (And.intro hz0 (And.intro hz1 hz2)))
  have hg1 : (g : Int) < 65536 := by omega
  clear hi hz0 hz1 hz2
  go_enter Tryz.func34, Tryz.ntmps34
  go_wp2_with fail
  go_loopw [3, 5] (fun v i wr => ∃ (k : Nat) (acc : List Int), Hid (acc = intsN (mems k g)) ∧ k ≤ 12 ∧ i = .int .i64 k ∧ wr.ownsRow w.heap.size 3 1 v acc.length (ints acc) ∧ Below w.heap.size w wr) (fun _ i _ => 12 - (intOf i).toNat)
  case atStart => exact ⟨0, [], rfl, Nat.zero_le _, rfl, World.ownsRow_nil _ _ _ _, Below.refl _ _⟩
  case round =>
    obtain ⟨k, acc, hacc, hk, rfl, ho, hB⟩ := hrel
    obtain ⟨Av, cv, rfl⟩ := own_slice ho
    have hO := Lib.hid (And.intro ho hB)
    have hal : acc.length ≤ k := by rw [hacc.out, intsN_len]; exact Hml.out k
    clear ho hB
    by_cases hlt : k < 12
    · have hlt' : (k : Int) < 12 := by omega
      have hbt := Hbt.out k
      have hms := Hms.out k
      cases hd : g.testBit k
      · rw [hd] at hbt hms
        rw [if_neg (by simp)] at hbt
        have hN : Hid (acc = intsN (mems (k + 1) g)) := by show _ = _; rw [hacc.out, hms]; simp
        clear hms hd
        go_wp2_with fail
        go_roundw
        case rel => exact ⟨k + 1, acc, hN, by omega, by go_num, hO.out.1, hO.out.2⟩
        case measure => simp [intOf]; omega
      · rw [hd] at hbt hms
        rw [if_pos rfl] at hbt
        have hN : Hid (acc ++ [(k : Int)] = intsN (mems (k + 1) g)) := by show _ = _; rw [hacc.out, hms]; simp [intsN]
        have hsz := hO.out.2.size
        have hlt4 := Lib.hid hO.out.1.lt
        clear hms hd
        go_wp2_with (at_builtin; refine wpList_append_own _ rfl _ _ 35 rfl w.heap.size 3 i0 (.int .i64 0) 1 8 Tryz.underlying35 HR.out.1 HR.out.2.1 HR.out.2.2.1 HR.out.2.2.2 rfl (by decide) _ _ _ rfl (hO.out.1.alloc _) ⟨wr.heap.size, 0, none⟩ 1 1 [.int .i64 (k : Int)] rfl rfl (cell_one_new _ _ _) (one_cell _) (by unfold maxLen; omega) (by omega) (by simp; omega) ?_)
        intro v' w6 hown' hgrow _
        have hF6 := Lib.hid (And.intro hown' ((hO.out.2.alloc hsz _).grown hgrow (by simp; omega) (fun g hg => (hlt4.out g hg).1)))
        clear hown' hgrow hlt4
        go_wp2_with fail
        go_roundw
        case rel =>
          refine ⟨k + 1, acc ++ [(k : Int)], hN, by omega, by go_num, ?_, hF6.out.2⟩
          rw [ints_snoc, List.length_append]
          exact hF6.out.1
        case measure => simp [intOf]; omega
    · obtain rfl : k = 12 := by omega
      go_wp2_with fail
      go_ret
      rw [← hacc.out]
      exact givesInts_of hO.out.1 rfl hO.out.2
set_option maxHeartbeats 1600000 in
set_option maxRecDepth 100000 in
theorem groupOf_any (A : Option Addr) (l : List Nat) (c : Nat) (w : World) (h : Row w w.heap.size A (ints (intsN l))) (hl : l.length ≤ 100) (hb : ∀ j ∈ l, j < 12) :
    Calls Tryz.prog 32 #[.slice A l.length c] w fun e w' => e = .returned (.int .u16 ((orG l id : Nat) : Int)) ∧ w = w' := by
  have Hst := Lib.hid (show ∀ k (hk : k < l.length), orG (l.take (k + 1)) id = orG (l.take k) id ||| 2 ^ l[k] from fun k hk => by rw [List.take_succ_eq_append_getElem hk, orG_snoc]; rfl)
  have Hlt := Lib.hid (show ∀ k (hk : k < l.length), l[k] < 12 from fun k hk => hb _ (List.getElem_mem hk))
  have Hob := Lib.hid (show ∀ k, orG (l.take k) id < 4096 from fun k => orG_lt id 12 _ 0 (by omega) (fun j hj => hb j (List.mem_of_mem_take hj)))
  have Hall : Hid (orG (l.take l.length) id = orG l id) := by show _ = _; rw [List.take_length]
  have Hat := Lib.hid (show ∀ k (hk : k < l.length), (ints (intsN l))[k]? = some (.int .i64 (l[k] : Int)) from fun k hk => by
    rw [ints_at _ k (by rw [intsN_len]; exact hk)]
    simp [intsN])
  generalize orG l id = R at Hall ⊢
  replace h := Lib.hid h
  clear hb
  go_enter Tryz.func32, Tryz.ntmps32
  go_wp2
  go_loop [3, 8] (fun gv i => ∃ (k g : Nat), k ≤ l.length ∧ i = .int .i64 k ∧ gv = .int .u16 g ∧ Hid (g = orG (l.take k) id)) (fun _ i => l.length - (intOf i).toNat)
  case atStart => exact ⟨0, 0, Nat.zero_le _, rfl, rfl, rfl⟩
  case round =>
    obtain ⟨k, g, hk, rfl, rfl, hg⟩ := hrel
    by_cases hlt : k < l.length
    · obtain ⟨b, off, rfl, hb, hcc⟩ := h.out (by rw [ints_length, intsN_len]; omega)
      have hlt' : (k : Int) < (l.length : Int) := by omega
      have c1 := hcc k _ (Hat.out k hlt)
      clear hcc
      have hst := Hst.out k hlt
      have hx := Hlt.out k hlt
      have hob := Hob.out k
      rw [← hg.out] at hst hob
      generalize l[k] = x at c1 hst hx
      have ho := Lib.hid (or_bit16 g x (by omega) (by omega))
      have hN : Hid (g ||| 2 ^ x = orG (l.take (k + 1)) id) := hst.symm
      clear hst
      go_wp2_with fail
      go_round
      case rel => exact ⟨k + 1, g ||| 2 ^ x, by omega, by go_num, by rw [ho.out], hN⟩
      case measure => simp [intOf]; omega
    · obtain rfl : k = l.length := by omega
      obtain rfl : g = R := hg.out.trans Hall.out
      go_wp2_with fail
      go_ret
      exact ⟨rfl, rfl⟩
theorem groupOf_one (b x c : Nat) (w : World) (hc : w.cell? ⟨b, 0, none⟩ = some (.int .i64 (x : Int))) (hx : x < 12) :
    Calls Tryz.prog 32 #[.slice (some ⟨b, 0, none⟩) 1 c] w fun e w' => e = .returned (.int .u16 ((2 ^ x : Nat) : Int)) ∧ w = w' := by
  have h := groupOf_any (some ⟨b, 0, none⟩) [x] c w (row_one hc) (by simp) (fun j hj => by simp at hj; omega)
  have e : orG [x] id = 2 ^ x := by
    show 0 ||| 2 ^ x = _
    rw [Nat.zero_or]
  rw [e] at h
  exact h
theorem method_states (v : Value) (w : World) : (method 270 67 v "loop.example/g01164/impl.states").run Tryz.prog w = .ok (160, v) w := by kernel_rfl
theorem rd_states (A : Option Addr) (n c : Nat) (A2 : Option Addr) (c2 : Nat) (w : World) :
    Calls Tryz.prog 160 #[.agg #[.slice A n c, .slice A2 n c2]] w fun e w' => e = .returned (.slice A n c) ∧ Below w.heap.size w w' := by
  go_enter Tryz.func160, Tryz.ntmps160
  go_wp2_with fail
  go_ret
  exact ⟨rfl, (Below.refl _ _).alloc (Nat.le_refl _) _⟩
theorem method_letters (v : Value) (w : World) : (method 270 67 v "loop.example/g01164/impl.letters").run Tryz.prog w = .ok (159, v) w := by kernel_rfl
theorem rd_letters (A : Option Addr) (ss : List ByteArray) (c : Nat) (A2 : Option Addr) (c2 : Nat) (w : World) (h : RowTab w w.heap.size A2 ss) (h0 : 0 < (inB ss).length) :
    Calls Tryz.prog 159 #[.agg #[.slice A (inB ss).length c, .slice A2 (inB ss).length c2]] w fun e w' => e = .returned (.int .i64 ((ltrs ss : Nat) : Int)) ∧ Below w.heap.size w w' := by
  obtain ⟨b, off, A', c', rfl, hb, c1, _⟩ := h.row h0
  have h0' : (0 : Int) < ((inB ss).length : Int) := by omega
  have c1' : w.cell? ⟨b, off, none⟩ = some (.slice A' (ltrs ss) c') := c1
  go_enter Tryz.func159, Tryz.ntmps159
  go_wp2_with fail
  go_ret
  exact ⟨rfl, (Below.refl _ _).alloc (Nat.le_refl _) _⟩
theorem method_after (v : Value) (w : World) : (method 270 67 v "loop.example/g01164/impl.after").run Tryz.prog w = .ok (158, v) w := by kernel_rfl
theorem rd_after (A : Option Addr) (ss : List ByteArray) (c : Nat) (A2 : Option Addr) (c2 q k : Nat) (w : World) (h : RowTab w w.heap.size A2 ss) (hq : q < (inB ss).length) (hk : k < ltrs ss) :
    Calls Tryz.prog 158 #[.agg #[.slice A (inB ss).length c, .slice A2 (inB ss).length c2], .int .i64 q, .int .i64 k] w fun e w' => e = .returned (.int .i64 ((tr ss q k : Nat) : Int)) ∧ Below w.heap.size w w' := by
  obtain ⟨b, off, b', off', c', rfl, hb, c1, hb', c2⟩ := h.read hq hk
  have hq' : (q : Int) < ((inB ss).length : Int) := by omega
  have hk' : (k : Int) < (ltrs ss : Int) := by omega
  go_enter Tryz.func158, Tryz.ntmps158
  go_wp2_with fail
  go_ret
  exact ⟨rfl, (Below.refl _ _).alloc (Nat.le_refl _) _⟩

/-- what is asked of a set -/
theorem tr_lt2 {ss : List ByteArray} (h : 0 < (inB ss).length) : ∀ i k, tr ss i k < (inB ss).length := fun i k => tr_lt h i k
set_option maxHeartbeats 3200000 in
set_option maxRecDepth 100000 in
theorem impl_afterLetter (A : Option Addr) (ss : List ByteArray) (c : Nat) (A2 : Option Addr) (c2 g k : Nat) (w : World) (h : RowTab w w.heap.size A2 ss) (h0 : 0 < (inB ss).length) (hn : (inB ss).length ≤ 11) (hg : g < 2 ^ (inB ss).length) (hk : k < ltrs ss) :
    Calls Tryz.prog 53 #[.int .u16 g, rdV A (inB ss).length c A2 c2, .int .i64 k] w fun e w' => e = .returned (.int .u16 ((nxt (tr ss) (inB ss).length k g : Nat) : Int)) ∧ Below w.heap.size w w' := by
  have hp : 2 ^ (inB ss).length ≤ 2048 := Nat.pow_le_pow_right (n := 2) (by omega) hn
  have hmm : mems 12 g = mems (inB ss).length g := by
    have := mems_more hg (12 - (inB ss).length)
    rwa [show (inB ss).length + (12 - (inB ss).length) = 12 by omega] at this
  have hme := impl_members g w (by omega)
  rw [hmm] at hme
  have hal := Lib.hid (fun (q : Nat) (hq : q < (inB ss).length) (u : World) (hB : Below w.heap.size w u) => rd_after A ss c A2 c2 q k u ((h.below hB).more hB.size) hq hk)
  have hmt := method_after (.agg #[.slice A (inB ss).length c, .slice A2 (inB ss).length c2])
  have hml := mems_len (inB ss).length g
  have Hin := Lib.hid (show ∀ i (hi : i < (mems (inB ss).length g).length), (mems (inB ss).length g)[i] < (inB ss).length from fun i hi => (mems_mem.1 (List.getElem_mem hi)).1)
  have HN := Lib.hid (show nxt (tr ss) (inB ss).length k g = orG (mems (inB ss).length g) (fun j => tr ss j k) from rfl)
  have Htl := Lib.hid (fun i => tr_lt2 h0 i k)
  generalize nxt (tr ss) (inB ss).length k g = R at HN ⊢
  generalize mems (inB ss).length g = ms at hme hml Hin HN
  have Hst := Lib.hid (show ∀ i (hi : i < ms.length), orG (ms.take (i + 1)) (fun j => tr ss j k) = orG (ms.take i) (fun j => tr ss j k) ||| 2 ^ tr ss ms[i] k from fun i hi => by rw [List.take_succ_eq_append_getElem hi, orG_snoc])
  have Hob := Lib.hid (show ∀ i, orG (ms.take i) (fun j => tr ss j k) < 2048 from fun i => orG_lt _ 11 _ 0 (by omega) (fun j _ => Nat.lt_of_lt_of_le (Htl.out j) hn))
  have Hall : Hid (orG (ms.take ms.length) (fun j => tr ss j k) = R) := by show _ = _; rw [List.take_length]; exact HN.out.symm
  have Hat := Lib.hid (show ∀ i (hi : i < ms.length), (ints (intsN ms))[i]? = some (.int .i64 (ms[i] : Int)) from fun i hi => by
    rw [ints_at _ i (by rw [intsN_len]; exact hi)]
    simp [intsN])
  have hil : (intsN ms).length = ms.length := intsN_len ms
  replace hme := Lib.hid hme
  generalize (inB ss).length = n at *
  clear h hmm hp
  go_enter Tryz.func53, Tryz.ntmps53
  go_wp2_with fail
  refine hme.out.mono ?_
  rintro e w1 ⟨A1, cI, rfl, ho, hB⟩
  rw [hil]
  have hR1 := Lib.hid (Row.of_own ho)
  have HB1 := Lib.hid hB
  replace hil := Lib.hid hil
  clear ho hB
  go_wp2_with fail
  go_loopw [7, 13] (fun gv i wr => ∃ (j m : Nat), j ≤ ms.length ∧ i = .int .i64 j ∧ gv = .int .u16 m ∧ Hid (m = orG (ms.take j) (fun j => tr ss j k)) ∧ Hid (Below w1.heap.size w1 wr)) (fun _ i _ => ms.length - (intOf i).toNat)
  case atStart => exact ⟨0, 0, Nat.zero_le _, rfl, rfl, rfl, Below.refl _ _⟩
  case round =>
    obtain ⟨j, m, hj, rfl, rfl, hm, hB2⟩ := hrel
    by_cases hlt : j < ms.length
    · obtain ⟨b, off, rfl, hb, hcc⟩ := hR1.out (by rw [ints_length, hil.out]; omega)
      have hlt' : (j : Int) < (ms.length : Int) := by omega
      have c1 := (hB2.out.cell (p := ⟨b, off + j, none⟩) hb).trans (hcc j _ (Hat.out j hlt))
      clear hcc
      have hst := Hst.out j hlt
      have hx := Hin.out j hlt
      have hob := Hob.out j
      rw [← hm.out] at hst hob
      generalize ms[j] = x at c1 hst hx
      have hBt := HB1.out.trans (hB2.out.mono HB1.out.size)
      have hcall := hal.out x hx wr hBt
      have hty := Htl.out x
      generalize tr ss x k = y at hst hcall hty
      have hy12 : 2 ^ y < 65536 := Nat.pow_lt_pow_right (n := 16) (by omega) (by omega)
      have ho := Lib.hid (u16_or_nat m (2 ^ y) (by omega) hy12)
      have hN : Hid (m ||| 2 ^ y = orG (ms.take (j + 1)) (fun j => tr ss j k)) := hst.symm
      replace hcall := Lib.hid hcall
      clear hst hBt
      go_wp2_with fail
      refine hcall.out.mono ?_
      rintro e w2 ⟨rfl, hB3⟩
      have hg1 := Lib.hid (groupOf_one w2.heap.size y 1 (w2.alloc (.cells #[.int .i64 (y : Int)] 3)) (by rw [World.cell?_alloc_at _ _ _ _ rfl]; rfl) (by omega))
      have hB4 := Lib.hid ((hB2.out.trans (hB3.mono hB2.out.size)).alloc (Nat.le_trans hB2.out.size hB3.size) (.cells #[.int .i64 (y : Int)] 3))
      clear hB3
      generalize 2 ^ y = p at hg1 ho hN hy12
      go_wp2_with fail
      refine hg1.out.mono ?_
      rintro e w3 ⟨rfl, rfl⟩
      go_wp2_with fail
      go_roundw
      case rel => exact ⟨j + 1, m ||| p, by omega, by go_num, by rw [ho.out], hN, hB4⟩
      case measure => simp [intOf]; omega
    · obtain rfl : j = ms.length := by omega
      obtain rfl : m = R := hm.out.trans Hall.out
      go_wp2_with fail
      go_ret
      exact ⟨rfl, HB1.out.trans (hB2.out.mono HB1.out.size)⟩
set_option maxHeartbeats 3200000 in
set_option maxRecDepth 100000 in
theorem impl_afterWord (A : Option Addr) (ss : List ByteArray) (c : Nat) (A2 : Option Addr) (c2 g0 : Nat) (s : ByteArray) (w : World) (h : RowTab w w.heap.size A2 ss) (h0 : 0 < (inB ss).length) (hn : (inB ss).length ≤ 11) (hg : g0 < 2 ^ (inB ss).length) (hk : W.krWd (ltrs ss : Nat) s.data.toList = true) (hs : s.size ≤ 60) :
    Calls Tryz.prog 33 #[.int .u16 g0, rdV A (inB ss).length c A2 c2, .string s] w fun e w' => e = .returned (.int .u16 ((grp (tr ss) (inB ss).length g0 s.data.toList : Nat) : Int)) ∧ Below w.heap.size w w' := by
  have hsl : s.data.toList.length = s.size := (Lib.size_eq s).symm
  have Hlet := Lib.hid (show ∀ k (hk : k < s.size), 97 ≤ s[k].toNat ∧ (s[k].toNat : Int) < 97 + (ltrs ss : Int) from fun k hk' => krWd_at2 hk k (by rw [hsl]; exact hk'))
  have Hst := Lib.hid (show ∀ k (hk : k < s.size), grp (tr ss) (inB ss).length g0 (s.data.toList.take (k + 1)) = nxt (tr ss) (inB ss).length (s[k].toNat - 97) (grp (tr ss) (inB ss).length g0 (s.data.toList.take k)) from fun k hk' => grp_take (tr ss) _ g0 s.data.toList k (by rw [hsl]; exact hk'))
  have Hlt := Lib.hid (show ∀ k, grp (tr ss) (inB ss).length g0 (s.data.toList.take k) < 2 ^ (inB ss).length from fun k => grp_lt (tr_lt2 h0) _ _ hg)
  have Hall : Hid (grp (tr ss) (inB ss).length g0 (s.data.toList.take s.size) = grp (tr ss) (inB ss).length g0 s.data.toList) := by show _ = _; rw [← hsl, List.take_length]
  have h00 : Hid (grp (tr ss) (inB ss).length g0 (s.data.toList.take 0) = g0) := rfl
  have Hal := Lib.hid (fun (g k : Nat) (hg : g < 2 ^ (inB ss).length) (hk : k < ltrs ss) (u : World) (hB : Below w.heap.size w u) => impl_afterLetter A ss c A2 c2 g k u ((h.below hB).more hB.size) h0 hn hg hk)
  have hL : ltrs ss ≤ 3 := by rcases ltrs_two ss with e | e <;> omega
  generalize grp (tr ss) (inB ss).length g0 s.data.toList = R at Hall ⊢
  clear hsl hk h hg
  go_enter Tryz.func33, Tryz.ntmps33
  go_wp2_with fail
  go_loopw [0, 10] (fun gv v wr => ∃ (k g : Nat), k ≤ s.size ∧ v = .int .i64 k ∧ gv = .int .u16 g ∧ Hid (g = grp (tr ss) (inB ss).length g0 (s.data.toList.take k)) ∧ Hid (Below w.heap.size w wr)) (fun _ v _ => s.size - (intOf v).toNat)
  case atStart => exact ⟨0, g0, Nat.zero_le _, rfl, rfl, h00.out.symm, Below.refl _ _⟩
  case round =>
    obtain ⟨k, g, hk, rfl, rfl, hg, hB⟩ := hrel
    by_cases hlt : k < s.size
    · have hlt' : (k : Int) < (s.size : Int) := by omega
      have hl := Hlet.out k hlt
      have hst := Hst.out k hlt
      have hgn := Hlt.out k
      rw [← hg.out] at hst hgn
      have hbb := s[k].toNat_lt
      have hsub : ((s[k].toNat : Int) - 97) % 256 = (s[k].toNat : Int) - 97 := by omega
      have hc : s[k].toNat - 97 < ltrs ss := by omega
      generalize hx : s[k].toNat - 97 = x at hst hc
      have hx1 : (s[k].toNat : Int) - 97 = (x : Int) := by omega
      have hwr : IntKind.u8.wrap (x : Int) = (x : Int) := IntWalk.u8_in _ (by omega)
      have h97 : ((⟨#[97, 98, 99]⟩ : ByteArray)[0]'(by decide)).toNat = 97 := rfl
      have hcall := Lib.hid (Hal.out g x hgn hc wr.drew hB.out.drew)
      have hN : Hid (nxt (tr ss) (inB ss).length x g = grp (tr ss) (inB ss).length g0 (s.data.toList.take (k + 1))) := hst.symm
      generalize nxt (tr ss) (inB ss).length x g = y at hcall hN
      clear hst hx hl
      go_wp2_with fail
      go_still_tail 8, (by kernel_rfl)
      change wpList _ _ _ _ _ wr.drew
      have hBd := Lib.hid hB.out.drew
      generalize wr.drew = w2 at hcall hBd ⊢
      go_wp2_with fail
      refine hcall.out.mono ?_
      rintro e w3 ⟨rfl, hB3⟩
      have hF := Lib.hid (hBd.out.trans (hB3.mono hBd.out.size))
      clear hB3
      go_wp2_with fail
      go_roundw
      case rel => exact ⟨k + 1, y, by omega, by go_num, rfl, hN, hF⟩
      case measure => simp [intOf]; omega
    · obtain rfl : k = s.size := by omega
      obtain rfl : g = R := hg.out.trans Hall.out
      go_wp2_with fail
      go_ret
      exact ⟨rfl, hB.out⟩
theorem impl_isState (A : Option Addr) (n c : Nat) (A2 : Option Addr) (c2 : Nat) (q : Int) (w : World) (_hn : n ≤ 11) :
    Calls Tryz.prog 31 #[rdV A n c A2 c2, .int .i64 q] w fun e w' => e = .returned (.bool (decide (0 ≤ q ∧ q < n))) ∧ Below w.heap.size w w' := by
  have hmt := method_states (.agg #[.slice A n c, .slice A2 n c2])
  have hs := Lib.hid (rd_states A n c A2 c2 w)
  by_cases h0 : 0 ≤ q
  · have hd : decide (0 ≤ q ∧ q < (n : Int)) = decide (q < (n : Int)) := by simp [h0]
    rw [hd]
    clear hd
    go_enter Tryz.func31, Tryz.ntmps31
    go_wp2_with fail
    refine hs.out.mono ?_
    rintro e w1 ⟨rfl, hB⟩
    go_wp2_with fail
    go_ret
    exact ⟨rfl, hB⟩
  · have hd : decide (0 ≤ q ∧ q < (n : Int)) = false := decide_eq_false (fun e => h0 e.1)
    rw [hd]
    clear hd
    go_enter Tryz.func31, Tryz.ntmps31
    go_wp2_with fail
    go_ret
    exact ⟨rfl, Below.refl _ _⟩
theorem impl_allStates (A : Option Addr) (n c : Nat) (A2 : Option Addr) (c2 : Nat) (w : World) (hn : n ≤ 11) :
    Calls Tryz.prog 37 #[rdV A n c A2 c2] w fun e w' => e = .returned (.int .u16 ((2 ^ n - 1 : Nat) : Int)) ∧ Below w.heap.size w w' := by
  have hmt := method_states (.agg #[.slice A n c, .slice A2 n c2])
  have hs := Lib.hid (rd_states A n c A2 c2 w)
  have hp : 2 ^ n ≤ 2048 := Nat.pow_le_pow_right (n := 2) (by omega) hn
  have hp1 : 0 < 2 ^ n := Nat.two_pow_pos n
  have e1 : Hid (IntKind.u16.wrap (IntKind.u16.wrap ((2 : Int) ^ n) - 1) = ((2 ^ n - 1 : Nat) : Int)) := by
    show _ = _
    rw [show ((2 : Int) ^ n) = ((2 ^ n : Nat) : Int) by simp]
    generalize 2 ^ n = p at hp hp1 ⊢
    rw [IntWalk.u16_in (p : Int) (by omega), IntWalk.u16_in ((p : Int) - 1) (by omega)]
    omega
  rw [← e1.out]
  clear hp hp1
  go_enter Tryz.func37, Tryz.ntmps37
  go_wp2_with fail
  refine hs.out.mono ?_
  rintro e w1 ⟨rfl, hB⟩
  go_wp2_with fail
  go_ret
  exact ⟨rfl, hB⟩
end Go.Proofs.YtgnehobhbioehaaGreatDoor
