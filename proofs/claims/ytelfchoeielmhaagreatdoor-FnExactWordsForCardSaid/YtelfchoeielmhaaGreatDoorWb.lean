/-
  WHAT THIS FILE PROVES: the word whose letters are the digits of a number of parts: the program's function gives the plain one; asked: numbers that an int holds.
-/
import Derived.Test.YtelfchoeielmhaaGreatDoorArith
import Derived.Test.YtelfchoeielmhaaGreatDoorKrT
import Derived.Test.YtelfchoeielmhaaGreatDoorShelf
import Derived.Test.YtelfchoeielmhaaGreatDoorAppend
import Derived.OwnWalk
import Derived.BigQuiet
import Derived.Maps.AppendAt
import Derived.Lib.AtoiErrMem
import Derived.Laws.IdiomStrings
namespace Go.Proofs.YtelfchoeielmhaaGreatDoor
open Go.RowKit Go.Shelf

/-- a digit of what has been taken is one of the number -/
theorem digit_eqD (L T : Nat) (l : Int) (k : Nat) (h1 : 1 ≤ l) (h8 : l ≤ 11) (hk : k < l.toNat) : T / W.partD L ((k : Int) + 1) % L = (T / W.partD L l) / L ^ (l.toNat - 1 - k) % L := by
  unfold W.partD
  rw [Nat.div_div_eq_div_mul, ← Nat.pow_add]
  congr 3
  omega
/-- bytes as cells -/
def bys (l : List UInt8) : List Value := l.map fun b => .int .u8 (b.toNat : Int)
theorem bys_snoc (l : List UInt8) (b : UInt8) : bys (l ++ [b]) = bys l ++ [.int .u8 (b.toNat : Int)] := by simp [bys]
theorem one_byte (x : Int) : ∀ u ∈ [Value.int .u8 x], u.oneCell' = true := fun u hu => by
  simp only [List.mem_cons, List.mem_nil_iff, or_false] at hu
  subst hu
  rfl
theorem infoByte : (Tryz.prog.info? 5).map (fun i => (i.zero, i.size, i.bytes)) = some (some (.int .u8 0), 1, 1) := by kernel_rfl
theorem abc_byte (d : Nat) (h : d < 3) : ((⟨#[97, 98, 99]⟩ : ByteArray)[d]'h).toNat = 97 + d := by
  match d, h with
  | 0, _ => rfl
  | 1, _ => rfl
  | 2, _ => rfl
theorem lt_toNat (d : Nat) (h : d < 3) : (lt d).toNat = 97 + d := by
  match d, h with
  | 0, _ => rfl
  | 1, _ => rfl
  | 2, _ => rfl
set_option maxRecDepth 100000 in
set_option maxHeartbeats 1600000 in
theorem impl_wordBehind (T m : Nat) (l : Int) (w : World) (hT : T ≤ 1000000) (hm2 : 2 ≤ m) (hm3 : m ≤ 3) (h1 : 1 ≤ l) (h8 : l ≤ 11) :
    Calls Tryz.prog 35 #[.int .i64 T, .int .i64 m, .int .i64 l] w fun e w' => e = .returned (.string (txtB m (T / W.partD m l) l.toNat)) ∧ Below w.heap.size w w' := by
  obtain ⟨n, rfl⟩ := Int.eq_ofNat_of_zero_le (show 0 ≤ l by omega)
  have hn1 : 1 ≤ n := by omega
  have hn8 : n ≤ 11 := by omega
  have Hdg := Lib.hid (fun k (hk : k < n) => digit_eqD m T (n : Int) k h1 h8 (by rw [Int.toNat_natCast]; exact hk))
  have Htk := Lib.hid (fun k (hk : k < n) => txt_take m (T / W.partD m (n : Int)) n k hk)
  rw [Int.toNat_natCast] at *
  have Hal : Hid ((txt m (T / W.partD m (n : Int)) n).take n = txt m (T / W.partD m (n : Int)) n) := List.take_of_length_le (by rw [txt_length]; omega)
  have Htl : Hid ((txt m (T / W.partD m (n : Int)) n).length = n) := txt_length _ _ _
  have hEnd : Hid (txtB m (T / W.partD m (n : Int)) n = ⟨(txt m (T / W.partD m (n : Int)) n).toArray⟩) := rfl
  have Hpp := Lib.hid (fun (k : Nat) (hk : k < n) (u : World) => impl_partsOf m ((k : Int) + 1) u hm3 (by omega) (by omega))
  have Hp0 := Lib.hid (fun (k : Nat) => W.partD_pos m hm2 ((k : Int) + 1))
  rw [hEnd.out]
  generalize txt m (T / W.partD m (n : Int)) n = ls at Htk Hal Htl ⊢
  obtain ⟨i0, hi, hz0, hz1, hz2⟩ := info_parts infoByte
  have HR := Lib.hid (And.intro hi (And.intro hz0 (And.intro hz1 hz2)))
  have hm1 : (0 : Int) < (m : Int) := by omega
  have hm0 : ((m : Int) == 0) = false := beq_eq_false_iff_ne.2 (by omega)
  clear hi hz0 hz1 hz2 hEnd
  go_enter Tryz.func35, Tryz.ntmps35
  go_wp2
  go_loopw [7, 10] (fun v kv wr => ∃ k : Nat, k ≤ n ∧ kv = .int .i64 k ∧ wr.ownsRow w.heap.size 5 1 v k (bys (ls.take k)) ∧ Below w.heap.size w wr) (fun _ kv _ => n - (intOf kv).toNat)
  case atStart => exact ⟨0, Nat.zero_le _, rfl, World.ownsRow_nil _ _ _ _, Below.refl _ _⟩
  case round =>
    obtain ⟨k, hk, rfl, ho, hB⟩ := hrel
    have hO := Lib.hid (And.intro ho hB)
    have hszr := hB.size
    clear ho hB
    by_cases hlt : k < n
    · have hlt' : (k : Int) < (n : Int) := by omega
      have hdg := Hdg.out k hlt
      have htk := Htk.out k hlt
      have hpp := Hpp.out k hlt
      have hp0 := Hp0.out k
      rw [← hdg] at htk
      generalize W.partD m ((k : Int) + 1) = p at hpp hp0 htk
      have hpi : (0 : Int) < (p : Int) := by omega
      have hpi0 : ((p : Int) == 0) = false := beq_eq_false_iff_ne.2 (by omega)
      have hdv := Nat.div_le_self T p
      have e1 : ((T : Int) / (p : Int)) = ((T / p : Nat) : Int) := by omega
      have hmd := Nat.mod_lt (T / p) (show m > 0 by omega)
      generalize T / p = q at hdv e1 hmd htk
      have e2 : ((q : Int) % (m : Int)) = ((q % m : Nat) : Int) := by omega
      generalize q % m = d at hmd e2 htk
      have hd3 : d < 3 := by omega
      have hd3' : (d : Int) < 3 := by omega
      have hab := abc_byte d hd3
      have hlt3 := lt_toNat d hd3
      replace htk := Lib.hid htk
      replace hpp := Lib.hid hpp
      clear hdg
      go_wp2_with (first | (go_at_call 36; refine (hpp.out _).mono ?_; rintro e w' ⟨rfl, rfl⟩) | (at_builtin; refine wpList_append_own _ rfl _ _ 47 rfl w.heap.size 5 i0 (.int .u8 0) 1 1 Tryz.underlying47 HR.out.1 HR.out.2.1 HR.out.2.2.1 HR.out.2.2.2 rfl (by decide) _ _ _ rfl (hO.out.1.alloc _) ⟨wr.heap.size, 0, none⟩ 1 1 [.int .u8 (97 + (d : Int))] rfl rfl (cell_one_new _ _ _) (one_byte _) (by unfold maxLen; omega) (by omega) (by simp; omega) ?_))
      intro v' w3 hown' hgrow _
      have hO2 := Lib.hid (And.intro hown' hgrow)
      clear hown' hgrow
      go_wp2
      go_roundw
      case rel =>
        refine ⟨k + 1, by omega, by go_num, ?_, ?_⟩
        · rw [htk.out, bys_snoc, hlt3, Int.natCast_add]
          exact hO2.out.1
        · have hlt := hO.out.1.lt
          exact (hO.out.2.alloc hszr _).grown hO2.out.2 (by simp; omega) (fun g hg => (hlt g hg).1)
      case measure => simp [intOf]; omega
    · obtain rfl : k = n := by omega
      have ho := hO.out.1
      rw [Hal.out] at ho
      obtain ⟨A', c', rfl⟩ := own_slice ho
      obtain ⟨g, rfl, hbg, hlg⟩ := own_form ho (by omega)
      have hcv := run_convert_bytes_back (P := Tryz.prog) wr 47 9 5 ⟨g, 0, none⟩ c' ls Tryz.underlying47 Tryz.underlying5 Tryz.underlying9 (fun j hj => by
        rw [addr_at, ho.cellAt _ (by have := Htl.out; omega)]
        unfold bys
        rw [Nat.zero_add, List.getElem?_map, List.getElem?_eq_getElem hj]
        rfl)
      rw [Htl.out] at hcv
      have HB := Lib.hid hO.out.2
      clear ho hO
      go_wp2
      go_ret
      exact ⟨rfl, HB.out⟩
end Go.Proofs.YtelfchoeielmhaaGreatDoor
