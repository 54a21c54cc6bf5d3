/-
  WHAT THIS FILE PROVES: the specification's function that sorts texts and drops repeats hands back a slice with the same texts in strict order: its own argument, or one of its own; asked: a slice of texts in memory, room.
-/
import Derived.Test.YtiemoocdffobgaaDoorMerge
import Derived.Test.YtiemoocdffobgaaDoorAppend
import Derived.Test.YtiemoocdffobgaaDoorLess
import Derived.Deep.RegionHeld3
import Derived.Test.YtiemoocdffobgaaDoorMemS
import Derived.Deep.RegionWith
namespace Go.Proofs.YtiemoocdffobgaaDoor
open Go.RowKit Go.Shelf

namespace W
open Go.Sort in
theorem bytesLess_eqW (x y : List UInt8) : Op.bytesLess x y = decide (x < y) := bytesLess_eq x y
end W
theorem toList_eqS {s t : ByteArray} : (s.toList == t.toList) = decide (s = t) := by
  by_cases h : s = t
  · subst h; simp
  · rw [decide_eq_false h]
    exact beq_eq_false_iff_ne.2 (fun e => h (data_inj (by rw [Lib.toList_data, Lib.toList_data] at e; exact e)))
theorem leq_no {a b : ByteArray} (h : b.data.toList < a.data.toList) : (Op.bytesLess a.toList b.toList || a.toList == b.toList) = false := by
  rw [Lib.toList_data, Lib.toList_data, W.bytesLess_eqW, decide_eq_false (fun h2 => List.lt_asymm h h2), Bool.false_or]
  exact beq_eq_false_iff_ne.2 (fun e => by rw [e] at h; exact List.lt_irrefl _ h)
theorem leq_yes {a b : ByteArray} (h : ¬ b.data.toList < a.data.toList) : (Op.bytesLess a.toList b.toList || a.toList == b.toList) = true := by
  rw [Lib.toList_data, Lib.toList_data, W.bytesLess_eqW]
  by_cases h2 : a.data.toList < b.data.toList
  · rw [decide_eq_true h2]; rfl
  · rw [List.le_antisymm (List.not_lt.1 h) (List.not_lt.1 h2)]
    simp
theorem cells_str2 (w : World) (v : Value) (t : TypeId) : ∀ (j : Nat) u, [v][j]? = some u → (w.alloc (.cells #[v] t)).cell? ((⟨w.heap.size, 0, none⟩ : Addr).add j) = some u := fun j u hu => by
  obtain rfl : j = 0 := by have := (List.getElem?_eq_some_iff.1 hu).1; simpa using this
  rw [addr_at, Nat.zero_add, World.cell?_alloc_at _ _ _ _ rfl]
  exact hu
def SrtR (l m : List ByteArray) : Prop := LInc m ∧ ∀ x, x ∈ m ↔ x ∈ l
def GivesSorted (w0 : World) (A : Option Addr) (c : Nat) (l : List ByteArray) (e : Ending) (w' : World) : Prop :=
  ∃ (m : List ByteArray) (A' : Option Addr) (c' : Nat), SrtR l m ∧ e = .returned (.slice A' m.length c') ∧ ((A' = A ∧ c' = c ∧ m = l) ∨ w'.ownsRow w0.heap.size 9 1 (.slice A' m.length c') m.length (strs m)) ∧ m.length ≤ l.length ∧ Below w0.heap.size w0 w'

set_option maxRecDepth 100000 in
set_option maxHeartbeats 3200000 in
theorem spec_dcSorted : ∀ (n : Nat) (A : Option Addr) (l : List ByteArray) (c : Nat) (w : World), l.length = n → l.length ≤ c → Row w w.heap.size A (strs l) → n ≤ 262144 →
    Calls Tryd.prog 34 #[.slice A l.length c] w (GivesSorted w A c l) := by
  intro n
  induction n using Nat.strongRecOn with
  | ind n ih =>
    intro A l c w hn hcap h hl
    by_cases h2 : l.length < 2
    · have hres : Hid (SrtR l l) := ⟨LInc.short h2, fun x => Iff.rfl⟩
      have h2' : (l.length : Int) < 2 := by omega
      clear h hn ih hcap
      go_enter Tryd.func34, Tryd.ntmps34
      go_wp2
      go_ret
      exact ⟨l, A, c, hres.out, rfl, .inl ⟨rfl, rfl, rfl⟩, Nat.le_refl _, Below.refl _ _⟩
    · obtain ⟨b, off, rfl, hb, _⟩ := h (by rw [strs_length]; omega)
      have h2' : ¬ (l.length : Int) < 2 := by omega
      obtain ⟨k, hk⟩ : ∃ k, k = l.length / 2 := ⟨_, rfl⟩
      have hk1 : 1 ≤ k := by omega
      have hk2 : k < l.length := by omega
      have hq : (l.length : Int).tdiv 2 = (k : Int) := by rw [hk]; exact (Int.ofNat_tdiv l.length 2).symm
      have hq2 : (l.length : Int) / 2 = (k : Int) := by omega
      have hq3 : IntKind.i64.wrap ((l.length : Int).tdiv 2) = (k : Int) := by rw [hq]; exact IntWalk.i64_in _ (by omega)
      have hkn : (k : Int).toNat = k := by omega
      have hq6 : l.length / 2 = k := hk.symm
      have hq7 : IntKind.i64.wrap (k : Int) = (k : Int) := IntWalk.i64_in _ (by omega)
      have hq8 : IntKind.i64.wrap ((l.length : Int) / 2) = (k : Int) := by rw [hq2]; exact hq7
      have hk0 : (0 : Int) ≤ (k : Int) := by omega
      have hf : Row w w.heap.size (some ⟨b, off, none⟩) (strs (l.take k)) := by rw [← strs_take]; exact h.front k
      have hbk : Row w w.heap.size (some ⟨b, off + k, none⟩) (strs (l.drop k)) := by rw [← strs_drop]; exact h.back k
      have l1 : (l.take k).length = k := by rw [List.length_take]; omega
      have l2 : (l.drop k).length = l.length - k := List.length_drop
      have r1 := fun W hr => ih k (by omega) (some ⟨b, off, none⟩) (l.take k) c W l1 (by omega) hr (by omega)
      have r2 := fun W hr => ih (l.length - k) (by omega) (some ⟨b, off + k, none⟩) (l.drop k) (c - k) W l2 (by omega) hr (by omega)
      rw [l1] at r1
      rw [l2] at r2
      have hkc : (k : Int) ≤ (c : Int) := by omega
      have hkl : (k : Int) ≤ (l.length : Int) := by omega
      have hkne : ¬ c = k := by omega
      have hc0 : ¬ c = 0 := by omega
      replace r1 := Lib.hid r1
      replace r2 := Lib.hid r2
      replace hf := Lib.hid hf
      replace hbk := Lib.hid hbk
      replace l1 := Lib.hid l1
      replace l2 := Lib.hid l2
      replace hn := Lib.hid hn
      replace hk := Lib.hid hk
      clear h ih
      go_enter Tryd.func34, Tryd.ntmps34
      go_wp2_with fail
      go_region_with (first
        | (go_at_call_of 34 (Value.slice (some ⟨b, off, none⟩) k c); refine (r1.out w.drew hf.out).mono ?_; rintro e w1 ⟨m1, A1, c1', hs1, rfl, ho1, hl1, hB1⟩; have H1 := Lib.hid (And.intro hs1 (And.intro ho1 (And.intro hl1 hB1))); clear hs1 ho1 hl1 hB1)
        | (go_at_call_of 34 (Value.slice (some ⟨b, off + k, none⟩) (l.length - k) (c - k)); refine (r2.out w1 (((show Row w.drew w.drew.heap.size _ _ from hbk.out).below H1.out.2.2.2).more H1.out.2.2.2.size)).mono ?_; rintro e w2 ⟨m2, A2, c2', hs2, rfl, ho2, hl2, hB2⟩; have H2 := Lib.hid (And.intro hs2 (And.intro ho2 (And.intro hl2 hB2))); clear hs2 ho2 hl2 hB2))
      have hB2 := H1.out.2.2.2.trans (H2.out.2.2.2.mono H1.out.2.2.2.size)
      have hBw : Below w.heap.size w w2 := ((Below.refl w.heap.size w).drew).trans hB2
      have R1 : Row w2 w2.heap.size A1 (strs m1) := by
        rcases H1.out.2.1 with ⟨rfl, rfl, rfl⟩ | ho
        · exact (hf.out.below hBw).more hBw.size
        · exact ((Row.of_own ho).below H2.out.2.2.2).more H2.out.2.2.2.size
      have R2 : Row w2 w2.heap.size A2 (strs m2) := by
        rcases H2.out.2.1 with ⟨rfl, rfl, rfl⟩ | ho
        · exact (hbk.out.below hBw).more hBw.size
        · exact Row.of_own ho
      have hm1 := H1.out.2.2.1
      have hm2 := H2.out.2.2.1
      rw [l1.out] at hm1
      rw [l2.out] at hm2
      have HS := Lib.hid (And.intro H1.out.1 H2.out.1)
      have HR := Lib.hid (And.intro R1 (And.intro R2 hBw))
      have hz := hBw.size
      have htd := List.take_append_drop k l
      have Hsplit : Hid (∀ x, (x ∈ m1 ∨ x ∈ m2) ↔ x ∈ l) := fun x => by
        rw [HS.out.1.2, HS.out.2.2, ← List.mem_append, htd]
      obtain ⟨i1, hi1, hy0, hy1, hy2⟩ := info_parts infoStr
      have HI := Lib.hid (And.intro hi1 (And.intro hy0 (And.intro hy1 hy2)))
      clear hi1 hy0 hy1 hy2 H1 H2 hB2 hBw R1 R2 hf hbk l1 l2 r1 r2 htd hq hq2 hq3 hq6 hq7 hq8 hkn hk0 hkc hkl hkne hc0
      go_wp2_with fail
      have hnn := hn.out
      have hlm : m1.length + m2.length ≤ 262144 := by omega
      clear hnn
      go_loopw [6, 7, 5] (fun iv jv ov wr => ∃ (i j : Nat) (out : List ByteArray), i ≤ m1.length ∧ j ≤ m2.length ∧ iv = .int .i64 i ∧ jv = .int .i64 j ∧ MInv m1 m2 out i j ∧ wr.ownsRow w2.heap.size 9 1 ov out.length (strs out) ∧ Below w2.heap.size w2 wr)
        (fun iv jv _ _ => (m1.length - (intOf iv).toNat) + (m2.length - (intOf jv).toNat))
      case atStart => exact ⟨0, 0, [], Nat.zero_le _, Nat.zero_le _, rfl, rfl, MInv.start _ _, World.ownsRow_nil _ _ _ _, Below.refl _ _⟩
      case round =>
        obtain ⟨i, j, out, hi, hj, rfl, rfl, hM, ho, hB⟩ := hrel
        obtain ⟨Ao, co, rfl⟩ := own_slice ho
        have hol := hM.len
        have HM := Lib.hid hM
        have hO := Lib.hid (And.intro ho hB)
        clear hM
        by_cases hia : i < m1.length
        · obtain ⟨ba, oa, rfl, hba, hca⟩ := HR.out.1 (by rw [strs_length]; omega)
          have c1 := (hB.cell (p := ⟨ba, oa + i, none⟩) hba).trans (hca i _ (strs_nth m1 i hia))
          have hia' : (i : Int) < (m1.length : Int) := by omega
          clear hca hba
          by_cases hjb : j < m2.length
          · obtain ⟨bb, ob, rfl, hbb, hcb⟩ := HR.out.2.1 (by rw [strs_length]; omega)
            have c2 := (hB.cell (p := ⟨bb, ob + j, none⟩) hbb).trans (hcb j _ (strs_nth m2 j hjb))
            have hjb' : (j : Int) < (m2.length : Int) := by omega
            have hje : ((j : Int) == (m2.length : Int)) = false := beq_eq_false_iff_ne.2 (by omega)
            clear hcb hbb ho hB
            by_cases hle : (W.nth m2 j).data.toList < (W.nth m1 i).data.toList
            · have HT := HM.out.takeB HS.out.1.1 HS.out.2.1 hjb (fun _ h3 => List.lt_asymm hle h3)
              have hcmp := leq_no hle
              obtain ⟨s, hs⟩ : ∃ s, s = W.nth m2 j := ⟨_, rfl⟩
              rw [← hs] at c2 HT hcmp
              obtain ⟨q, hqq⟩ : ∃ q, q = W.nth m1 i := ⟨_, rfl⟩
              rw [← hqq] at c1 hcmp
              clear hs hqq hle
              have c1d : wr.drew.cell? ⟨ba, oa + i, none⟩ = _ := c1
              have c2d : wr.drew.cell? ⟨bb, ob + j, none⟩ = _ := c2
              have hid1 : decide ((i : Int) < (m1.length : Int)) = true := decide_eq_true hia'
              have HP := Lib.hid HT.1
              have HK := Lib.hid HT.2
              clear HT
              by_cases h0 : out.length = 0
              · have hnew : newAt out s = true := by unfold newAt; rw [decide_eq_true h0]; rfl
                have HM2 := Lib.hid (HP.out hnew)
                obtain rfl : out = [] := List.eq_nil_of_length_eq_zero h0
                clear hnew HP HK h0
                have hOa := Lib.hid (hO.out.1.alloc (.cells #[.string s] 9))
                have hBa := Lib.hid (hO.out.2.alloc hO.out.2.size (.cells #[.string s] 9))
                go_wp2_with fail
                go_region
                all_goals
                  go_wp2_with (at_builtin; refine wpList_append_own _ rfl _ _ 22 rfl w2.heap.size 9 i1 _ 1 16 Tryd.underlying22 HI.out.1 HI.out.2.1 HI.out.2.2.1 HI.out.2.2.2 rfl (by decide) (.slice Ao 0 co) 0 (strs ([] : List ByteArray)) rfl hOa.out ⟨wr.heap.size, 0, none⟩ 1 1 [.string s] rfl rfl (cells_str2 wr _ _) (one_text _) (by unfold maxLen; omega) (by omega) hBa.out.size ?_)
                  intro v3 w3 ho3 hg3 _
                  have hB3 : Below w2.heap.size w2 w3 := by first | exact hBa.out.drew.grown hg3 hBa.out.size (fun k hk => (hOa.out.lt k hk).1) | exact hBa.out.drew.drew.grown hg3 hBa.out.size (fun k hk => (hOa.out.lt k hk).1)
                  have H3 := Lib.hid (And.intro (show w3.ownsRow w2.heap.size 9 1 v3 (([] : List ByteArray) ++ [s]).length (strs (([] : List ByteArray) ++ [s])) from ho3) hB3)
                  clear ho3 hg3 hB3 hOa hBa
                  go_wp2
                  first
                  | (refine ⟨⟨i, j + 1, [] ++ [s], by omega, by omega, by go_num, by go_num, HM2.out, H3.out.1, H3.out.2⟩, ?_⟩
                     simp [intOf]
                     omega)
                  | (go_roundw
                     case rel => exact ⟨i, j + 1, [] ++ [s], by omega, by omega, by go_num, by go_num, HM2.out, H3.out.1, H3.out.2⟩
                     case measure => simp [intOf]; omega)
              · obtain ⟨g, rfl, hg1, hg2⟩ := own_form hO.out.1 (by omega)
                have hlast : wr.drew.cell? ⟨g, out.length - 1, none⟩ = some (.string (W.nth out (out.length - 1))) := by
                  show wr.cell? _ = _
                  rw [hO.out.1.cellAt _ (by omega)]
                  exact strs_nth out _ (by omega)
                have hpo : 0 < out.length := by omega
                have hwo : IntKind.i64.wrap ((out.length : Int) - 1) = (out.length : Int) - 1 := IntWalk.i64_in _ (by omega)
                have hto : ((out.length : Int) - 1).toNat = out.length - 1 := by omega
                have hlo : (0 : Int) ≤ (out.length : Int) - 1 := by omega
                have hlo2 : (1 : Int) ≤ (out.length : Int) := by omega
                have heq := toList_eqS (s := W.nth out (out.length - 1)) (t := s)
                by_cases he : W.nth out (out.length - 1) = s
                · have hnew : newAt out s = false := by unfold newAt; rw [decide_eq_false h0, decide_eq_true he]; rfl
                  have HM2 := Lib.hid (HK.out hnew)
                  rw [decide_eq_true he] at heq
                  clear hnew HP HK
                  generalize W.nth out (out.length - 1) = lv at hlast heq he
                  have hlast2 : wr.drew.drew.cell? ⟨g, out.length - 1, none⟩ = some (.string lv) := hlast
                  clear he
                  go_wp2_with fail
                  go_region
                  all_goals
                    go_wp2
                    first
                    | (refine ⟨⟨i, j + 1, out, by omega, by omega, by go_num, by go_num, HM2.out, hO.out.1, (by first | exact hO.out.2.drew | exact hO.out.2.drew.drew)⟩, ?_⟩
                       simp [intOf]
                       omega)
                    | (go_roundw
                       case rel => exact ⟨i, j + 1, out, by omega, by omega, by go_num, by go_num, HM2.out, hO.out.1, (by first | exact hO.out.2.drew | exact hO.out.2.drew.drew)⟩
                       case measure => simp [intOf]; omega)
                · have hnew : newAt out s = true := by unfold newAt; rw [decide_eq_false h0, decide_eq_false he]; rfl
                  have HM2 := Lib.hid (HP.out hnew)
                  rw [decide_eq_false he] at heq
                  clear hnew HP HK
                  generalize W.nth out (out.length - 1) = lv at hlast heq he
                  have hlast2 : wr.drew.drew.cell? ⟨g, out.length - 1, none⟩ = some (.string lv) := hlast
                  have hln : (out ++ [s]).length = out.length + 1 := by simp
                  replace hln := Lib.hid hln
                  clear he
                  have hOa := Lib.hid (hO.out.1.alloc (.cells #[.string s] 9))
                  have hBa := Lib.hid (hO.out.2.alloc hO.out.2.size (.cells #[.string s] 9))
                  go_wp2_with fail
                  go_region
                  all_goals
                    go_wp2_with (at_builtin; refine wpList_append_own _ rfl _ _ 22 rfl w2.heap.size 9 i1 _ 1 16 Tryd.underlying22 HI.out.1 HI.out.2.1 HI.out.2.2.1 HI.out.2.2.2 rfl (by decide) (.slice (some ⟨g, 0, none⟩) out.length co) out.length (strs out) rfl hOa.out ⟨wr.heap.size, 0, none⟩ 1 1 [.string s] rfl rfl (cells_str2 wr _ _) (one_text _) (by unfold maxLen; omega) (by omega) hBa.out.size ?_)
                    intro v3 w3 ho3 hg3 _
                    have hB3 : Below w2.heap.size w2 w3 := by first | exact hBa.out.drew.grown hg3 hBa.out.size (fun k hk => (hOa.out.lt k hk).1) | exact hBa.out.drew.drew.grown hg3 hBa.out.size (fun k hk => (hOa.out.lt k hk).1)
                    have H3 := Lib.hid (And.intro (show w3.ownsRow w2.heap.size 9 1 v3 (out ++ [s]).length (strs (out ++ [s])) from (by rw [hln.out, strs_snoc]; exact ho3)) hB3)
                    clear ho3 hg3 hB3 hOa hBa
                    go_wp2
                    first
                    | (refine ⟨⟨i, j + 1, out ++ [s], by omega, by omega, by go_num, by go_num, HM2.out, H3.out.1, H3.out.2⟩, ?_⟩
                       simp [intOf]
                       omega)
                    | (go_roundw
                       case rel => exact ⟨i, j + 1, out ++ [s], by omega, by omega, by go_num, by go_num, HM2.out, H3.out.1, H3.out.2⟩
                       case measure => simp [intOf]; omega)
            · have HT := HM.out.takeA HS.out.1.1 HS.out.2.1 hia (fun _ => hle)
              have hcmp := leq_yes hle
              obtain ⟨s, hs⟩ : ∃ s, s = W.nth m1 i := ⟨_, rfl⟩
              rw [← hs] at c1 HT hcmp
              obtain ⟨q, hqq⟩ : ∃ q, q = W.nth m2 j := ⟨_, rfl⟩
              rw [← hqq] at c2 hcmp
              clear hs hqq hle
              have c1d : wr.drew.cell? ⟨ba, oa + i, none⟩ = _ := c1
              have c2d : wr.drew.cell? ⟨bb, ob + j, none⟩ = _ := c2
              have hid1 : decide ((i : Int) < (m1.length : Int)) = true := decide_eq_true hia'
              have HP := Lib.hid HT.1
              have HK := Lib.hid HT.2
              clear HT
              by_cases h0 : out.length = 0
              · have hnew : newAt out s = true := by unfold newAt; rw [decide_eq_true h0]; rfl
                have HM2 := Lib.hid (HP.out hnew)
                obtain rfl : out = [] := List.eq_nil_of_length_eq_zero h0
                clear hnew HP HK h0
                have hOa := Lib.hid (hO.out.1.alloc (.cells #[.string s] 9))
                have hBa := Lib.hid (hO.out.2.alloc hO.out.2.size (.cells #[.string s] 9))
                go_wp2_with fail
                go_region
                all_goals
                  go_wp2_with (at_builtin; refine wpList_append_own _ rfl _ _ 22 rfl w2.heap.size 9 i1 _ 1 16 Tryd.underlying22 HI.out.1 HI.out.2.1 HI.out.2.2.1 HI.out.2.2.2 rfl (by decide) (.slice Ao 0 co) 0 (strs ([] : List ByteArray)) rfl hOa.out ⟨wr.heap.size, 0, none⟩ 1 1 [.string s] rfl rfl (cells_str2 wr _ _) (one_text _) (by unfold maxLen; omega) (by omega) hBa.out.size ?_)
                  intro v3 w3 ho3 hg3 _
                  have hB3 : Below w2.heap.size w2 w3 := by first | exact hBa.out.drew.grown hg3 hBa.out.size (fun k hk => (hOa.out.lt k hk).1) | exact hBa.out.drew.drew.grown hg3 hBa.out.size (fun k hk => (hOa.out.lt k hk).1)
                  have H3 := Lib.hid (And.intro (show w3.ownsRow w2.heap.size 9 1 v3 (([] : List ByteArray) ++ [s]).length (strs (([] : List ByteArray) ++ [s])) from ho3) hB3)
                  clear ho3 hg3 hB3 hOa hBa
                  go_wp2
                  first
                  | (refine ⟨⟨i + 1, j, [] ++ [s], by omega, by omega, by go_num, by go_num, HM2.out, H3.out.1, H3.out.2⟩, ?_⟩
                     simp [intOf]
                     omega)
                  | (go_roundw
                     case rel => exact ⟨i + 1, j, [] ++ [s], by omega, by omega, by go_num, by go_num, HM2.out, H3.out.1, H3.out.2⟩
                     case measure => simp [intOf]; omega)
              · obtain ⟨g, rfl, hg1, hg2⟩ := own_form hO.out.1 (by omega)
                have hlast : wr.drew.cell? ⟨g, out.length - 1, none⟩ = some (.string (W.nth out (out.length - 1))) := by
                  show wr.cell? _ = _
                  rw [hO.out.1.cellAt _ (by omega)]
                  exact strs_nth out _ (by omega)
                have hpo : 0 < out.length := by omega
                have hwo : IntKind.i64.wrap ((out.length : Int) - 1) = (out.length : Int) - 1 := IntWalk.i64_in _ (by omega)
                have hto : ((out.length : Int) - 1).toNat = out.length - 1 := by omega
                have hlo : (0 : Int) ≤ (out.length : Int) - 1 := by omega
                have hlo2 : (1 : Int) ≤ (out.length : Int) := by omega
                have heq := toList_eqS (s := W.nth out (out.length - 1)) (t := s)
                by_cases he : W.nth out (out.length - 1) = s
                · have hnew : newAt out s = false := by unfold newAt; rw [decide_eq_false h0, decide_eq_true he]; rfl
                  have HM2 := Lib.hid (HK.out hnew)
                  rw [decide_eq_true he] at heq
                  clear hnew HP HK
                  generalize W.nth out (out.length - 1) = lv at hlast heq he
                  have hlast2 : wr.drew.drew.cell? ⟨g, out.length - 1, none⟩ = some (.string lv) := hlast
                  clear he
                  go_wp2_with fail
                  go_region
                  all_goals
                    go_wp2
                    first
                    | (refine ⟨⟨i + 1, j, out, by omega, by omega, by go_num, by go_num, HM2.out, hO.out.1, (by first | exact hO.out.2.drew | exact hO.out.2.drew.drew)⟩, ?_⟩
                       simp [intOf]
                       omega)
                    | (go_roundw
                       case rel => exact ⟨i + 1, j, out, by omega, by omega, by go_num, by go_num, HM2.out, hO.out.1, (by first | exact hO.out.2.drew | exact hO.out.2.drew.drew)⟩
                       case measure => simp [intOf]; omega)
                · have hnew : newAt out s = true := by unfold newAt; rw [decide_eq_false h0, decide_eq_false he]; rfl
                  have HM2 := Lib.hid (HP.out hnew)
                  rw [decide_eq_false he] at heq
                  clear hnew HP HK
                  generalize W.nth out (out.length - 1) = lv at hlast heq he
                  have hlast2 : wr.drew.drew.cell? ⟨g, out.length - 1, none⟩ = some (.string lv) := hlast
                  have hln : (out ++ [s]).length = out.length + 1 := by simp
                  replace hln := Lib.hid hln
                  clear he
                  have hOa := Lib.hid (hO.out.1.alloc (.cells #[.string s] 9))
                  have hBa := Lib.hid (hO.out.2.alloc hO.out.2.size (.cells #[.string s] 9))
                  go_wp2_with fail
                  go_region
                  all_goals
                    go_wp2_with (at_builtin; refine wpList_append_own _ rfl _ _ 22 rfl w2.heap.size 9 i1 _ 1 16 Tryd.underlying22 HI.out.1 HI.out.2.1 HI.out.2.2.1 HI.out.2.2.2 rfl (by decide) (.slice (some ⟨g, 0, none⟩) out.length co) out.length (strs out) rfl hOa.out ⟨wr.heap.size, 0, none⟩ 1 1 [.string s] rfl rfl (cells_str2 wr _ _) (one_text _) (by unfold maxLen; omega) (by omega) hBa.out.size ?_)
                    intro v3 w3 ho3 hg3 _
                    have hB3 : Below w2.heap.size w2 w3 := by first | exact hBa.out.drew.grown hg3 hBa.out.size (fun k hk => (hOa.out.lt k hk).1) | exact hBa.out.drew.drew.grown hg3 hBa.out.size (fun k hk => (hOa.out.lt k hk).1)
                    have H3 := Lib.hid (And.intro (show w3.ownsRow w2.heap.size 9 1 v3 (out ++ [s]).length (strs (out ++ [s])) from (by rw [hln.out, strs_snoc]; exact ho3)) hB3)
                    clear ho3 hg3 hB3 hOa hBa
                    go_wp2
                    first
                    | (refine ⟨⟨i + 1, j, out ++ [s], by omega, by omega, by go_num, by go_num, HM2.out, H3.out.1, H3.out.2⟩, ?_⟩
                       simp [intOf]
                       omega)
                    | (go_roundw
                       case rel => exact ⟨i + 1, j, out ++ [s], by omega, by omega, by go_num, by go_num, HM2.out, H3.out.1, H3.out.2⟩
                       case measure => simp [intOf]; omega)
          · have hje : ((j : Int) == (m2.length : Int)) = true := by rw [beq_iff_eq]; omega
            have hjn : ¬ (j : Int) < (m2.length : Int) := by omega
            have HT := HM.out.takeA HS.out.1.1 HS.out.2.1 hia (fun h3 => absurd h3 hjb)
            obtain ⟨s, hs⟩ : ∃ s, s = W.nth m1 i := ⟨_, rfl⟩
            rw [← hs] at c1 HT
            clear hs ho hB
            have c1d : wr.drew.cell? ⟨ba, oa + i, none⟩ = _ := c1
            have hid1 : decide ((i : Int) < (m1.length : Int)) = true := decide_eq_true hia'
            have HP := Lib.hid HT.1
            have HK := Lib.hid HT.2
            clear HT
            by_cases h0 : out.length = 0
            · have hnew : newAt out s = true := by unfold newAt; rw [decide_eq_true h0]; rfl
              have HM2 := Lib.hid (HP.out hnew)
              obtain rfl : out = [] := List.eq_nil_of_length_eq_zero h0
              clear hnew HP HK h0
              have hOa := Lib.hid (hO.out.1.alloc (.cells #[.string s] 9))
              have hBa := Lib.hid (hO.out.2.alloc hO.out.2.size (.cells #[.string s] 9))
              go_wp2_with fail
              go_region
              all_goals
                go_wp2_with (at_builtin; refine wpList_append_own _ rfl _ _ 22 rfl w2.heap.size 9 i1 _ 1 16 Tryd.underlying22 HI.out.1 HI.out.2.1 HI.out.2.2.1 HI.out.2.2.2 rfl (by decide) (.slice Ao 0 co) 0 (strs ([] : List ByteArray)) rfl hOa.out ⟨wr.heap.size, 0, none⟩ 1 1 [.string s] rfl rfl (cells_str2 wr _ _) (one_text _) (by unfold maxLen; omega) (by omega) hBa.out.size ?_)
                intro v3 w3 ho3 hg3 _
                have hB3 : Below w2.heap.size w2 w3 := by first | exact hBa.out.drew.grown hg3 hBa.out.size (fun k hk => (hOa.out.lt k hk).1) | exact hBa.out.drew.drew.grown hg3 hBa.out.size (fun k hk => (hOa.out.lt k hk).1)
                have H3 := Lib.hid (And.intro (show w3.ownsRow w2.heap.size 9 1 v3 (([] : List ByteArray) ++ [s]).length (strs (([] : List ByteArray) ++ [s])) from ho3) hB3)
                clear ho3 hg3 hB3 hOa hBa
                go_wp2
                first
                | (refine ⟨⟨i + 1, j, [] ++ [s], by omega, by omega, by go_num, by go_num, HM2.out, H3.out.1, H3.out.2⟩, ?_⟩
                   simp [intOf]
                   omega)
                | (go_roundw
                   case rel => exact ⟨i + 1, j, [] ++ [s], by omega, by omega, by go_num, by go_num, HM2.out, H3.out.1, H3.out.2⟩
                   case measure => simp [intOf]; omega)
            · obtain ⟨g, rfl, hg1, hg2⟩ := own_form hO.out.1 (by omega)
              have hlast : wr.drew.cell? ⟨g, out.length - 1, none⟩ = some (.string (W.nth out (out.length - 1))) := by
                show wr.cell? _ = _
                rw [hO.out.1.cellAt _ (by omega)]
                exact strs_nth out _ (by omega)
              have hpo : 0 < out.length := by omega
              have hwo : IntKind.i64.wrap ((out.length : Int) - 1) = (out.length : Int) - 1 := IntWalk.i64_in _ (by omega)
              have hto : ((out.length : Int) - 1).toNat = out.length - 1 := by omega
              have hlo : (0 : Int) ≤ (out.length : Int) - 1 := by omega
              have hlo2 : (1 : Int) ≤ (out.length : Int) := by omega
              have heq := toList_eqS (s := W.nth out (out.length - 1)) (t := s)
              by_cases he : W.nth out (out.length - 1) = s
              · have hnew : newAt out s = false := by unfold newAt; rw [decide_eq_false h0, decide_eq_true he]; rfl
                have HM2 := Lib.hid (HK.out hnew)
                rw [decide_eq_true he] at heq
                clear hnew HP HK
                generalize W.nth out (out.length - 1) = lv at hlast heq he
                have hlast2 : wr.drew.drew.cell? ⟨g, out.length - 1, none⟩ = some (.string lv) := hlast
                clear he
                go_wp2_with fail
                go_region
                all_goals
                  go_wp2
                  first
                  | (refine ⟨⟨i + 1, j, out, by omega, by omega, by go_num, by go_num, HM2.out, hO.out.1, (by first | exact hO.out.2.drew | exact hO.out.2.drew.drew)⟩, ?_⟩
                     simp [intOf]
                     omega)
                  | (go_roundw
                     case rel => exact ⟨i + 1, j, out, by omega, by omega, by go_num, by go_num, HM2.out, hO.out.1, (by first | exact hO.out.2.drew | exact hO.out.2.drew.drew)⟩
                     case measure => simp [intOf]; omega)
              · have hnew : newAt out s = true := by unfold newAt; rw [decide_eq_false h0, decide_eq_false he]; rfl
                have HM2 := Lib.hid (HP.out hnew)
                rw [decide_eq_false he] at heq
                clear hnew HP HK
                generalize W.nth out (out.length - 1) = lv at hlast heq he
                have hlast2 : wr.drew.drew.cell? ⟨g, out.length - 1, none⟩ = some (.string lv) := hlast
                have hln : (out ++ [s]).length = out.length + 1 := by simp
                replace hln := Lib.hid hln
                clear he
                have hOa := Lib.hid (hO.out.1.alloc (.cells #[.string s] 9))
                have hBa := Lib.hid (hO.out.2.alloc hO.out.2.size (.cells #[.string s] 9))
                go_wp2_with fail
                go_region
                all_goals
                  go_wp2_with (at_builtin; refine wpList_append_own _ rfl _ _ 22 rfl w2.heap.size 9 i1 _ 1 16 Tryd.underlying22 HI.out.1 HI.out.2.1 HI.out.2.2.1 HI.out.2.2.2 rfl (by decide) (.slice (some ⟨g, 0, none⟩) out.length co) out.length (strs out) rfl hOa.out ⟨wr.heap.size, 0, none⟩ 1 1 [.string s] rfl rfl (cells_str2 wr _ _) (one_text _) (by unfold maxLen; omega) (by omega) hBa.out.size ?_)
                  intro v3 w3 ho3 hg3 _
                  have hB3 : Below w2.heap.size w2 w3 := by first | exact hBa.out.drew.grown hg3 hBa.out.size (fun k hk => (hOa.out.lt k hk).1) | exact hBa.out.drew.drew.grown hg3 hBa.out.size (fun k hk => (hOa.out.lt k hk).1)
                  have H3 := Lib.hid (And.intro (show w3.ownsRow w2.heap.size 9 1 v3 (out ++ [s]).length (strs (out ++ [s])) from (by rw [hln.out, strs_snoc]; exact ho3)) hB3)
                  clear ho3 hg3 hB3 hOa hBa
                  go_wp2
                  first
                  | (refine ⟨⟨i + 1, j, out ++ [s], by omega, by omega, by go_num, by go_num, HM2.out, H3.out.1, H3.out.2⟩, ?_⟩
                     simp [intOf]
                     omega)
                  | (go_roundw
                     case rel => exact ⟨i + 1, j, out ++ [s], by omega, by omega, by go_num, by go_num, HM2.out, H3.out.1, H3.out.2⟩
                     case measure => simp [intOf]; omega)
        · have hian : ¬ (i : Int) < (m1.length : Int) := by omega
          by_cases hjb : j < m2.length
          · obtain ⟨bb, ob, rfl, hbb, hcb⟩ := HR.out.2.1 (by rw [strs_length]; omega)
            have c2 := (hB.cell (p := ⟨bb, ob + j, none⟩) hbb).trans (hcb j _ (strs_nth m2 j hjb))
            have hjb' : (j : Int) < (m2.length : Int) := by omega
            have hje : ((j : Int) == (m2.length : Int)) = false := beq_eq_false_iff_ne.2 (by omega)
            have HT := HM.out.takeB HS.out.1.1 HS.out.2.1 hjb (fun h3 => absurd h3 hia)
            obtain ⟨s, hs⟩ : ∃ s, s = W.nth m2 j := ⟨_, rfl⟩
            rw [← hs] at c2 HT
            clear hcb hbb ho hB hs
            have hid1 : decide ((i : Int) < (m1.length : Int)) = false := decide_eq_false hian
            have HP := Lib.hid HT.1
            have HK := Lib.hid HT.2
            clear HT
            by_cases h0 : out.length = 0
            · have hnew : newAt out s = true := by unfold newAt; rw [decide_eq_true h0]; rfl
              have HM2 := Lib.hid (HP.out hnew)
              obtain rfl : out = [] := List.eq_nil_of_length_eq_zero h0
              clear hnew HP HK h0
              have hOa := Lib.hid (hO.out.1.alloc (.cells #[.string s] 9))
              have hBa := Lib.hid (hO.out.2.alloc hO.out.2.size (.cells #[.string s] 9))
              go_wp2_with fail
              go_region
              all_goals
                go_wp2_with (at_builtin; refine wpList_append_own _ rfl _ _ 22 rfl w2.heap.size 9 i1 _ 1 16 Tryd.underlying22 HI.out.1 HI.out.2.1 HI.out.2.2.1 HI.out.2.2.2 rfl (by decide) (.slice Ao 0 co) 0 (strs ([] : List ByteArray)) rfl hOa.out ⟨wr.heap.size, 0, none⟩ 1 1 [.string s] rfl rfl (cells_str2 wr _ _) (one_text _) (by unfold maxLen; omega) (by omega) hBa.out.size ?_)
                intro v3 w3 ho3 hg3 _
                have hB3 : Below w2.heap.size w2 w3 := by first | exact hBa.out.drew.grown hg3 hBa.out.size (fun k hk => (hOa.out.lt k hk).1) | exact hBa.out.drew.drew.grown hg3 hBa.out.size (fun k hk => (hOa.out.lt k hk).1)
                have H3 := Lib.hid (And.intro (show w3.ownsRow w2.heap.size 9 1 v3 (([] : List ByteArray) ++ [s]).length (strs (([] : List ByteArray) ++ [s])) from ho3) hB3)
                clear ho3 hg3 hB3 hOa hBa
                go_wp2
                first
                | (refine ⟨⟨i, j + 1, [] ++ [s], by omega, by omega, by go_num, by go_num, HM2.out, H3.out.1, H3.out.2⟩, ?_⟩
                   simp [intOf]
                   omega)
                | (go_roundw
                   case rel => exact ⟨i, j + 1, [] ++ [s], by omega, by omega, by go_num, by go_num, HM2.out, H3.out.1, H3.out.2⟩
                   case measure => simp [intOf]; omega)
            · obtain ⟨g, rfl, hg1, hg2⟩ := own_form hO.out.1 (by omega)
              have hlast : wr.drew.cell? ⟨g, out.length - 1, none⟩ = some (.string (W.nth out (out.length - 1))) := by
                show wr.cell? _ = _
                rw [hO.out.1.cellAt _ (by omega)]
                exact strs_nth out _ (by omega)
              have hpo : 0 < out.length := by omega
              have hwo : IntKind.i64.wrap ((out.length : Int) - 1) = (out.length : Int) - 1 := IntWalk.i64_in _ (by omega)
              have hto : ((out.length : Int) - 1).toNat = out.length - 1 := by omega
              have hlo : (0 : Int) ≤ (out.length : Int) - 1 := by omega
              have hlo2 : (1 : Int) ≤ (out.length : Int) := by omega
              have heq := toList_eqS (s := W.nth out (out.length - 1)) (t := s)
              by_cases he : W.nth out (out.length - 1) = s
              · have hnew : newAt out s = false := by unfold newAt; rw [decide_eq_false h0, decide_eq_true he]; rfl
                have HM2 := Lib.hid (HK.out hnew)
                rw [decide_eq_true he] at heq
                clear hnew HP HK
                generalize W.nth out (out.length - 1) = lv at hlast heq he
                have hlast2 : wr.drew.drew.cell? ⟨g, out.length - 1, none⟩ = some (.string lv) := hlast
                clear he
                go_wp2_with fail
                go_region
                all_goals
                  go_wp2
                  first
                  | (refine ⟨⟨i, j + 1, out, by omega, by omega, by go_num, by go_num, HM2.out, hO.out.1, (by first | exact hO.out.2.drew | exact hO.out.2.drew.drew)⟩, ?_⟩
                     simp [intOf]
                     omega)
                  | (go_roundw
                     case rel => exact ⟨i, j + 1, out, by omega, by omega, by go_num, by go_num, HM2.out, hO.out.1, (by first | exact hO.out.2.drew | exact hO.out.2.drew.drew)⟩
                     case measure => simp [intOf]; omega)
              · have hnew : newAt out s = true := by unfold newAt; rw [decide_eq_false h0, decide_eq_false he]; rfl
                have HM2 := Lib.hid (HP.out hnew)
                rw [decide_eq_false he] at heq
                clear hnew HP HK
                generalize W.nth out (out.length - 1) = lv at hlast heq he
                have hlast2 : wr.drew.drew.cell? ⟨g, out.length - 1, none⟩ = some (.string lv) := hlast
                have hln : (out ++ [s]).length = out.length + 1 := by simp
                replace hln := Lib.hid hln
                clear he
                have hOa := Lib.hid (hO.out.1.alloc (.cells #[.string s] 9))
                have hBa := Lib.hid (hO.out.2.alloc hO.out.2.size (.cells #[.string s] 9))
                go_wp2_with fail
                go_region
                all_goals
                  go_wp2_with (at_builtin; refine wpList_append_own _ rfl _ _ 22 rfl w2.heap.size 9 i1 _ 1 16 Tryd.underlying22 HI.out.1 HI.out.2.1 HI.out.2.2.1 HI.out.2.2.2 rfl (by decide) (.slice (some ⟨g, 0, none⟩) out.length co) out.length (strs out) rfl hOa.out ⟨wr.heap.size, 0, none⟩ 1 1 [.string s] rfl rfl (cells_str2 wr _ _) (one_text _) (by unfold maxLen; omega) (by omega) hBa.out.size ?_)
                  intro v3 w3 ho3 hg3 _
                  have hB3 : Below w2.heap.size w2 w3 := by first | exact hBa.out.drew.grown hg3 hBa.out.size (fun k hk => (hOa.out.lt k hk).1) | exact hBa.out.drew.drew.grown hg3 hBa.out.size (fun k hk => (hOa.out.lt k hk).1)
                  have H3 := Lib.hid (And.intro (show w3.ownsRow w2.heap.size 9 1 v3 (out ++ [s]).length (strs (out ++ [s])) from (by rw [hln.out, strs_snoc]; exact ho3)) hB3)
                  clear ho3 hg3 hB3 hOa hBa
                  go_wp2
                  first
                  | (refine ⟨⟨i, j + 1, out ++ [s], by omega, by omega, by go_num, by go_num, HM2.out, H3.out.1, H3.out.2⟩, ?_⟩
                     simp [intOf]
                     omega)
                  | (go_roundw
                     case rel => exact ⟨i, j + 1, out ++ [s], by omega, by omega, by go_num, by go_num, HM2.out, H3.out.1, H3.out.2⟩
                     case measure => simp [intOf]; omega)
          · obtain rfl : i = m1.length := by omega
            obtain rfl : j = m2.length := by omega
            have he := HM.out.ended
            have hjn : ¬ (m2.length : Int) < (m2.length : Int) := by omega
            have HF := Lib.hid (And.intro (show SrtR l out from ⟨he.1, fun x => (he.2 x).trans (Hsplit.out x)⟩) (And.intro (own_base hO.out.1 hz) (HR.out.2.2.trans (hO.out.2.mono hz))))
            clear he ho hB hO
            go_wp2
            go_ret
            exact ⟨out, Ao, co, HF.out.1, rfl, .inr HF.out.2.1, by omega, HF.out.2.2⟩

end Go.Proofs.YtiemoocdffobgaaDoor
