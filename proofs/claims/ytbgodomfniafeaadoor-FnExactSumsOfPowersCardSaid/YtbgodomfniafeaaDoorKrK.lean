/-
  WHAT THIS FILE PROVES: Kraft's sums, room, first prefix sets and powers: the program's exported functions give what the plain ones say; asked: slices in memory, lengths that an int holds, no more than capacities.
-/
import Derived.Test.YtbgodomfniafeaaDoorKrJ
import Derived.Test.YtbgodomfniafeaaDoorKrF
import Derived.Test.YtbgodomfniafeaaDoorKrG
import Derived.Lib.AtoiErrMem
import Derived.Laws.IdiomStrings
namespace Go.Proofs.YtbgodomfniafeaaDoor
open Go.RowKit Go.Shelf

set_option maxHeartbeats 1600000 in
theorem impl_KraftSum (A : Option Addr) (ss : List ByteArray) (c : Nat) (L : Int) (w : World) (h : Row w w.heap.size A (strs ss)) (hcap : ss.length ≤ c) (hl : ss.length ≤ 9223372036854775807) (hs : ∀ s ∈ ss, s.size ≤ 9223372036854775807) :
    Calls Tryd.prog 13 #[.slice A ss.length c, .int .i64 L] w fun e w' => e = .returned (.tuple #[ratV ((ksOf ss L).1 : Nat) ((ksOf ss L).2 : Nat), .bool (W.krSet ss L)]) ∧ Below w.heap.size w w' := by
  have hB := Lib.hid (resW_below w)
  have hc := sum_words A ss c L (resW w) ((h.below hB.out).more hB.out.size) hcap hl hs
  generalize W.krSet ss L = ok at hc ⊢
  generalize ksOf ss L = pq at hc ⊢
  obtain ⟨p, q⟩ := pq
  replace hc := Lib.hid hc
  clear h hs
  go_enter Tryd.func13, Tryd.ntmps13
  go_wp2_with fail
  refine hc.out.mono ?_
  rintro e w1 ⟨rfl, hB1⟩
  obtain ⟨c0, c1, f0, f1⟩ := res_cells hB1
  have hB2 := Lib.hid (hB.out.trans (hB1.mono hB.out.size))
  clear hB1
  go_wp2
  exact bodyPost_ret (v := .tuple #[ratV p q, .bool ok]) (by simp [results, Tryd.results13, go_sem, c0, c1]) rfl ⟨rfl, (hB2.out.setCell (Nat.le_refl _) _).setCell (Nat.le_refl _) _⟩
set_option maxHeartbeats 1600000 in
theorem impl_SumOfLengths (A : Option Addr) (z : List Int) (c : Nat) (L : Int) (w : World) (h : Row w w.heap.size A (ints z)) (hl : z.length ≤ 1099511627776) :
    Calls Tryd.prog 18 #[.slice A z.length c, .int .i64 L] w fun e w' => e = .returned (.tuple #[ratV ((slOf z L).1 : Nat) ((slOf z L).2 : Nat), .bool (W.krList z L)]) ∧ Below w.heap.size w w' := by
  have hB := Lib.hid (resW_below w)
  have hc := sum_given A z c L (resW w) ((h.below hB.out).more hB.out.size) hl
  generalize W.krList z L = ok at hc ⊢
  generalize slOf z L = pq at hc ⊢
  obtain ⟨p, q⟩ := pq
  replace hc := Lib.hid hc
  clear h
  go_enter Tryd.func18, Tryd.ntmps18
  go_wp2_with fail
  refine hc.out.mono ?_
  rintro e w1 ⟨rfl, hB1⟩
  obtain ⟨c0, c1, f0, f1⟩ := res_cells hB1
  have hB2 := Lib.hid (hB.out.trans (hB1.mono hB.out.size))
  clear hB1
  go_wp2
  exact bodyPost_ret (v := .tuple #[ratV p q, .bool ok]) (by simp [results, Tryd.results18, go_sem, c0, c1]) rfl ⟨rfl, (hB2.out.setCell (Nat.le_refl _) _).setCell (Nat.le_refl _) _⟩
/-- what is left of 1 beside a sum, of L ^ 8 -/
def rbOf (z : List Int) (L : Int) : Int := if W.krList z L then ((L.toNat ^ 8 : Nat) : Int) - ((W.shares L.toNat z : Nat) : Int) else 0
theorem rbOf_no {z : List Int} {L : Int} (h : W.krList z L = false) : rbOf z L = 0 := by unfold rbOf; rw [h]; rfl
theorem rbOf_yes {z : List Int} {m : Nat} (h : W.krList z m = true) : rbOf z m = ((m ^ 8 : Nat) : Int) - ((W.shares m z : Nat) : Int) := by unfold rbOf; rw [h, Int.toNat_natCast]; rfl
set_option maxHeartbeats 1600000 in
theorem impl_roomBeside (A : Option Addr) (z : List Int) (c : Nat) (L : Int) (w : World) (h : Row w w.heap.size A (ints z)) (hl : z.length ≤ 1099511627776) :
    Calls Tryd.prog 39 #[.slice A z.length c, .int .i64 L] w fun e w' => e = .returned (.tuple #[.int .i64 (rbOf z L), .bool (W.krList z L)]) ∧ ∃ n, w' = w.drewN n := by
  have hc := isValid_given A z c L w h hl
  cases hq : W.krList z L
  · rw [rbOf_no hq]
    rw [hq] at hc
    replace hc := Lib.hid hc
    clear h hq
    go_enter Tryd.func39, Tryd.ntmps39
    go_wp2_with (go_at_call 51; refine hc.out.mono ?_; rintro e w' ⟨rfl, n, rfl⟩)
    go_ret2
    exact ⟨rfl, n, rfl⟩
  · rw [hq] at hc
    replace hc := Lib.hid hc
    obtain ⟨hlt, h12, hall, _⟩ := W.krList_parts hq
    obtain ⟨m, rfl, hm2, hm3⟩ := let_nat hlt
    rw [rbOf_yes hq]
    have hpa := fun (u : World) (g : Row u u.heap.size A (ints z)) => parts_given A z c m u g h12 hall hm2 hm3
    have hwh := fun u => impl_wholeOf m u hm3
    have hS := shares_26 hm2 hm3 h12 hall
    have hD := W.whole_le m hm3
    generalize W.shares m z = S at hpa hS ⊢
    generalize m ^ 8 = D at hwh hD ⊢
    replace hpa := Lib.hid hpa
    replace hwh := Lib.hid hwh
    replace h := Lib.hid h
    clear hq hlt hall
    go_enter Tryd.func39, Tryd.ntmps39
    go_wp2_with (go_at_call 51; refine hc.out.mono ?_; rintro e w' ⟨rfl, n, rfl⟩)
    have hB1 := Lib.hid (below_drewN (Below.refl w.heap.size w) n)
    have hp1 := Lib.hid (hpa.out (w.drewN n) ((h.out.below hB1.out).more hB1.out.size))
    go_wp2_with (first | (go_at_call 54; refine (hwh.out _).mono ?_; rintro e w' ⟨rfl, rfl⟩) | (go_at_call 53; refine hp1.out.mono ?_; rintro e w' ⟨rfl, rfl⟩))
    go_ret2
    exact ⟨rfl, n, rfl⟩
theorem cbOf_room (z : List Int) (L : Int) : cbOf z L = (W.krList z L && decide (0 ≤ rbOf z L)) := by
  cases h : W.krList z L
  · rw [cbOf_no h]; rfl
  · obtain ⟨m, rfl, _, _⟩ := let_nat (W.krList_parts h).1
    rw [cbOf_yes h, rbOf_yes h, Bool.true_and]
    generalize W.shares m z = S
    generalize m ^ 8 = D
    rw [Bool.eq_iff_iff, decide_eq_true_eq, decide_eq_true_eq]
    omega
set_option maxHeartbeats 1600000 in
theorem impl_CanBePrefix (A : Option Addr) (z : List Int) (c : Nat) (L : Int) (w : World) (h : Row w w.heap.size A (ints z)) (hl : z.length ≤ 1099511627776) :
    Calls Tryd.prog 21 #[.slice A z.length c, .int .i64 L] w fun e w' => e = .returned (.tuple #[.bool (cbOf z L), .bool (W.krList z L)]) ∧ Below w.heap.size w w' := by
  have hc := impl_roomBeside A z c L w h hl
  rw [cbOf_room]
  generalize rbOf z L = r at hc ⊢
  cases hq : W.krList z L
  all_goals
    rw [hq] at hc
    replace hc := Lib.hid hc
    clear h hq
    go_enter Tryd.func21, Tryd.ntmps21
    go_wp2_with (go_at_call 39; refine hc.out.mono ?_; rintro e w' ⟨rfl, n, rfl⟩)
    go_ret2
    exact ⟨by simp, below_drewN (Below.refl _ _) _⟩

/-- bytes as cells -/
def bys (l : List UInt8) : List Value := l.map fun b => .int .u8 (b.toNat : Int)
theorem bys_snoc (l : List UInt8) (b : UInt8) : bys (l ++ [b]) = bys l ++ [.int .u8 (b.toNat : Int)] := by simp [bys]
theorem one_byte (x : Int) : ∀ u ∈ [Value.int .u8 x], u.oneCell' = true := fun u hu => by
  simp only [List.mem_cons, List.mem_nil_iff, or_false] at hu
  subst hu
  rfl
theorem infoByte : (Tryd.prog.info? 5).map (fun i => (i.zero, i.size, i.bytes)) = some (some (.int .u8 0), 1, 1) := by kernel_rfl
theorem abc_byte (d : Nat) (h : d < 3) : ((⟨#[97, 98, 99]⟩ : ByteArray)[d]'h).toNat = 97 + d := by
  match d, h with
  | 0, _ => rfl
  | 1, _ => rfl
  | 2, _ => rfl
theorem lt_toNat (d : Nat) (h : d < 3) : (lt d).toNat = 97 + d := by
  match d, h with
  | 0, _ => rfl
  | 1, _ => rfl
  | 2, _ => rfl
set_option maxRecDepth 100000 in
set_option maxHeartbeats 1600000 in
theorem impl_wordBehind (T m : Nat) (l : Int) (w : World) (hT : T ≤ 1000000) (hm2 : 2 ≤ m) (hm3 : m ≤ 3) (h1 : 1 ≤ l) (h8 : l ≤ 8) :
    Calls Tryd.prog 42 #[.int .i64 T, .int .i64 m, .int .i64 l] w fun e w' => e = .returned (.string (txtB m (T / W.part m l) l.toNat)) ∧ Below w.heap.size w w' := by
  obtain ⟨n, rfl⟩ := Int.eq_ofNat_of_zero_le (show 0 ≤ l by omega)
  have hn1 : 1 ≤ n := by omega
  have hn8 : n ≤ 8 := by omega
  have Hdg := Lib.hid (fun k (hk : k < n) => digit_eq m T (n : Int) k h1 h8 (by rw [Int.toNat_natCast]; exact hk))
  have Htk := Lib.hid (fun k (hk : k < n) => txt_take m (T / W.part m (n : Int)) n k hk)
  rw [Int.toNat_natCast] at *
  have Hal : Hid ((txt m (T / W.part m (n : Int)) n).take n = txt m (T / W.part m (n : Int)) n) := List.take_of_length_le (by rw [txt_length]; omega)
  have Htl : Hid ((txt m (T / W.part m (n : Int)) n).length = n) := txt_length _ _ _
  have hEnd : Hid (txtB m (T / W.part m (n : Int)) n = ⟨(txt m (T / W.part m (n : Int)) n).toArray⟩) := rfl
  have Hpp := Lib.hid (fun (k : Nat) (hk : k < n) (u : World) => impl_partsOf m ((k : Int) + 1) u hm3 (by omega) (by omega))
  have Hp0 := Lib.hid (fun (k : Nat) => W.part_pos m hm2 ((k : Int) + 1))
  rw [hEnd.out]
  generalize txt m (T / W.part m (n : Int)) n = ls at Htk Hal Htl ⊢
  obtain ⟨i0, hi, hz0, hz1, hz2⟩ := info_parts infoByte
  have HR := Lib.hid (And.intro hi (And.intro hz0 (And.intro hz1 hz2)))
  have hm1 : (0 : Int) < (m : Int) := by omega
  have hm0 : ((m : Int) == 0) = false := beq_eq_false_iff_ne.2 (by omega)
  clear hi hz0 hz1 hz2 hEnd
  go_enter Tryd.func42, Tryd.ntmps42
  go_wp2
  go_loopw [7, 10] (fun v kv wr => ∃ k : Nat, k ≤ n ∧ kv = .int .i64 k ∧ wr.ownsRow w.heap.size 5 1 v k (bys (ls.take k)) ∧ Below w.heap.size w wr) (fun _ kv _ => n - (intOf kv).toNat)
  case atStart => exact ⟨0, Nat.zero_le _, rfl, World.ownsRow_nil _ _ _ _, Below.refl _ _⟩
  case round =>
    obtain ⟨k, hk, rfl, ho, hB⟩ := hrel
    have hO := Lib.hid (And.intro ho hB)
    have hszr := hB.size
    clear ho hB
    by_cases hlt : k < n
    · have hlt' : (k : Int) < (n : Int) := by omega
      have hdg := Hdg.out k hlt
      have htk := Htk.out k hlt
      have hpp := Hpp.out k hlt
      have hp0 := Hp0.out k
      rw [← hdg] at htk
      generalize W.part m ((k : Int) + 1) = p at hpp hp0 htk
      have hpi : (0 : Int) < (p : Int) := by omega
      have hpi0 : ((p : Int) == 0) = false := beq_eq_false_iff_ne.2 (by omega)
      have hdv := Nat.div_le_self T p
      have e1 : ((T : Int) / (p : Int)) = ((T / p : Nat) : Int) := by omega
      have hmd := Nat.mod_lt (T / p) (show m > 0 by omega)
      generalize T / p = q at hdv e1 hmd htk
      have e2 : ((q : Int) % (m : Int)) = ((q % m : Nat) : Int) := by omega
      generalize q % m = d at hmd e2 htk
      have hd3 : d < 3 := by omega
      have hd3' : (d : Int) < 3 := by omega
      have hab := abc_byte d hd3
      have hlt3 := lt_toNat d hd3
      replace htk := Lib.hid htk
      replace hpp := Lib.hid hpp
      clear hdg
      go_wp2_with (first | (go_at_call 43; refine (hpp.out _).mono ?_; rintro e w' ⟨rfl, rfl⟩) | (at_builtin; refine wpList_append_own _ rfl _ _ 67 rfl w.heap.size 5 i0 (.int .u8 0) 1 1 Tryd.underlying67 HR.out.1 HR.out.2.1 HR.out.2.2.1 HR.out.2.2.2 rfl (by decide) _ _ _ rfl (hO.out.1.alloc _) ⟨wr.heap.size, 0, none⟩ 1 1 [.int .u8 (97 + (d : Int))] rfl rfl (cell_one_new _ _ _) (one_byte _) (by unfold maxLen; omega) (by omega) (by simp; omega) ?_))
      intro v' w3 hown' hgrow _
      have hO2 := Lib.hid (And.intro hown' hgrow)
      clear hown' hgrow
      go_wp2
      go_roundw
      case rel =>
        refine ⟨k + 1, by omega, by go_num, ?_, ?_⟩
        · rw [htk.out, bys_snoc, hlt3, Int.natCast_add]
          exact hO2.out.1
        · have hlt := hO.out.1.lt
          exact (hO.out.2.alloc hszr _).grown hO2.out.2 (by simp; omega) (fun g hg => (hlt g hg).1)
      case measure => simp [intOf]; omega
    · obtain rfl : k = n := by omega
      have ho := hO.out.1
      rw [Hal.out] at ho
      obtain ⟨A', c', rfl⟩ := own_slice ho
      obtain ⟨g, rfl, hbg, hlg⟩ := own_form ho (by omega)
      have hcv := run_convert_bytes_back (P := Tryd.prog) wr 67 9 5 ⟨g, 0, none⟩ c' ls Tryd.underlying67 Tryd.underlying5 Tryd.underlying9 (fun j hj => by
        rw [addr_at, ho.cellAt _ (by have := Htl.out; omega)]
        unfold bys
        rw [Nat.zero_add, List.getElem?_map, List.getElem?_eq_getElem hj]
        rfl)
      rw [Htl.out] at hcv
      have HB := Lib.hid hO.out.2
      clear ho hO
      go_wp2
      go_ret
      exact ⟨rfl, HB.out⟩
end Go.Proofs.YtbgodomfniafeaaDoor
