/-
  WHAT THIS FILE PROVES: the program's list of complete prefix sets has as many sets as are counted letter by letter; asked: two or three letters, at most nine words.
-/
import Derived.Test.YtnbgehaliicbnaaCpM
import Derived.Test.YtnbgehaliicbnaaSConcat
import Derived.Test.YtnbgehaliicbnaaInOrder
import Derived.Test.YtnbgehaliicbnaaKrI
import Derived.Test.YtnbgehaliicbnaaStep
import Derived.Deep.RegionHeld3
namespace Go.Proofs.Ytnbgehaliicbnaa
open Go.RowKit Go.Shelf

theorem infoRow : (Try.prog.info? 35).map (fun i => (i.zero, i.size, i.bytes)) = some (some (.slice none 0 0), 1, 24) := by kernel_rfl
/-- the boxes as the closure gets them -/
def cpB (P Q N M : Nat) : Array Value := #[.pointer (some ⟨N, 0, none⟩), .pointer (some ⟨P, 0, none⟩), .pointer (some ⟨Q, 0, none⟩), .pointer (some ⟨M, 0, none⟩)]
/-- so many sets more, all else as it was -/
def CpOut (u : World) (P Q N M base n L m : Nat) (u' : World) : Prop := ∃ v' vs', CpMem u' 26 P Q N M base n L v' m vs' ∧ Keeps u u' ∧ Below base u u'
/-- what one call of the closure does, so many steps deep -/
def CpDec (n L f : Nat) : Prop := ∀ (u : World) (P Q N M base : Nat) (words opens : List ByteArray) (A A' : Option Addr) (c c' : Nat) (v : Value) (m : Nat) (vs : List Value),
  CpMem u 26 P Q N M base n L v m vs → RowT u A (strs words) → RowT u A' (strs opens) → opens.length ≤ c' → (words.length + opens.length ≤ n → 3 * (n + 1 - (words.length + opens.length)) + opens.length ≤ f) →
  (∀ x ∈ opens, x.size + f ≤ 60) → words.length ≤ 12 → opens.length ≤ 12 → m + cpD n L f words.length opens.length ≤ 100000 →
  Calls Try.prog 26 #[.slice A words.length c, .slice A' opens.length c', .pointer (some ⟨N, 0, none⟩), .pointer (some ⟨P, 0, none⟩), .pointer (some ⟨Q, 0, none⟩), .pointer (some ⟨M, 0, none⟩)] u
    fun e u' => e = .returned (.tuple #[]) ∧ CpOut u P Q N M base n L (m + cpD n L f words.length opens.length) u'

/-- too many words -/
theorem cpDec_many (n L f : Nat) (u : World) (P Q N M base : Nat) (words opens : List ByteArray) (A A' : Option Addr) (c c' : Nat) (v : Value) (m : Nat) (vs : List Value)
    (hM : CpMem u 26 P Q N M base n L v m vs) (hn : n ≤ 9) (hw : words.length ≤ 12) (ho : opens.length ≤ 12) (h : n < words.length + opens.length) :
    Calls Try.prog 26 #[.slice A words.length c, .slice A' opens.length c', .pointer (some ⟨N, 0, none⟩), .pointer (some ⟨P, 0, none⟩), .pointer (some ⟨Q, 0, none⟩), .pointer (some ⟨M, 0, none⟩)] u
      fun e u' => e = .returned (.tuple #[]) ∧ CpOut u P Q N M base n L (m + cpD n L f words.length opens.length) u' := by
  rw [cpD_zero n L f h, Nat.add_zero]
  have cN := boxed hM.hN
  have hM' := Lib.hid hM
  have hlt : (n : Int) < (words.length : Int) + (opens.length : Int) := by omega
  clear hM
  generalize words.length = a at *
  generalize opens.length = b at *
  go_enter Try.func26, Try.ntmps26
  go_wp2
  refine bodyPost_ret (results_none rfl _ _ _) rfl ?_
  exact ⟨rfl, v, vs, hM'.out, Keeps.refl _, Below.refl _ _⟩
theorem cpDec_zero (n L : Nat) (hn : n ≤ 9) : CpDec n L 0 := by
  intro u P Q N M base words opens A A' c c' v m vs hM hA hA' hc hf hx hw ho hm
  exact cpDec_many n L 0 u P Q N M base words opens A A' c c' v m vs hM hn hw ho (by omega)
set_option maxHeartbeats 6400000 in
set_option maxRecDepth 100000 in
theorem cpDec_end (n L f : Nat) (u : World) (P Q N M base : Nat) (words : List ByteArray) (A A' : Option Addr) (c c' : Nat) (v : Value) (m : Nat) (vs : List Value)
    (hM : CpMem u 26 P Q N M base n L v m vs) (hA : RowT u A (strs words)) (hn : n ≤ 9) (hw : words.length ≤ n) (hm : m + cpD n L (f + 1) words.length 0 ≤ 100000) :
    Calls Try.prog 26 #[.slice A words.length c, .slice A' 0 c', .pointer (some ⟨N, 0, none⟩), .pointer (some ⟨P, 0, none⟩), .pointer (some ⟨Q, 0, none⟩), .pointer (some ⟨M, 0, none⟩)] u
      fun e u' => e = .returned (.tuple #[]) ∧ CpOut u P Q N M base n L (m + cpD n L (f + 1) words.length 0) u' := by
  have cN := boxed hM.hN
  rw [cpD_end n L f (by omega)] at hm ⊢
  by_cases hne : words.length = n
  · rw [if_pos hne] at hm ⊢
    have hio := impl_inOrder A words c u.drew hA.row (by omega)
    have cP : u.drew.cell? ⟨P, 0, none⟩ = some v := boxed hM.hP
    obtain ⟨i0, hi, hz0, hz1, hz2⟩ := info_parts infoRow
    have HR := Lib.hid (And.intro hi (And.intro hz0 (And.intro hz1 hz2)))
    have hM' := Lib.hid hM
    have h9 : (words.length : Int) ≤ 9 := by omega
    have hle : ¬ (n : Int) < (words.length : Int) := by omega
    have heq : ((words.length : Int) == (n : Int)) = true := by rw [hne]; simp
    obtain ⟨Av, cv, rfl⟩ := own_slice hM.own
    replace hio := Lib.hid hio
    clear hM hi hz0 hz1 hz2
    replace hne := Lib.hid hne
    go_enter Try.func26, Try.ntmps26
    go_wp2
    go_region_law (first
      | (refine step_own_append _ rfl (.tmp 24) (.tmp 27) 25 rfl base 35 i0 (.slice none 0 0) 1 24 Try.underlying25 HR.out.1 HR.out.2.1 HR.out.2.2.1 HR.out.2.2.2 rfl (by decide) (.slice Av m cv) m vs (by simp [Act.eval]) hMa.out.own ⟨w1.heap.size, 0, none⟩ 1 1 [.slice A1 (ordB words).length c1] (by simp [Act.eval]) rfl (fun i u hu => cell_one_new _ _ _ i u hu) (one_row _ _ _) (by unfold maxLen; omega) (by omega) hMa.out.bs (fun v1 w6 ho6 hg6 => ?_); obtain ⟨A6, c6, rfl⟩ := own_slice ho6; have cP6 := boxed (hMa.out.box hg6); have fP6 := Lib.frozen_of_heap (hMa.out.box hg6) 0; have hput := Lib.hid (hMa.out.put hg6 ho6))
      | (go_simp; go_at_call 27; refine hio.out.mono ?_; rintro e w1 ⟨A1, c1, rfl, ho1, hB1⟩; have hM1 := Lib.hid (hM'.out.drew.below hB1); have cP1 := boxed hM1.out.hP; have hMa := Lib.hid (hM1.out.below ((Below.refl _ _).alloc (Nat.le_refl _) (.cells #[.slice A1 (ordB words).length c1] 35))); have cPa := boxed hMa.out.hP; have HB1 := Lib.hid hB1; clear ho1 hB1))
    all_goals
      go_wp2
      refine bodyPost_ret (results_none rfl _ _ _) rfl ?_
      have hBa : Below u.heap.size u (w1.alloc (.cells #[.slice A1 (ordB words).length c1] 35)) := ((Below.refl u.heap.size u).drew.trans HB1.out).alloc HB1.out.size _
      exact ⟨rfl, _, _, hput.out.1, (Keeps.of_below hBa).trans hput.out.2.1, (hBa.mono hM'.out.bs).trans hput.out.2.2⟩
  · rw [if_neg hne, Nat.add_zero] at hm ⊢
    have hM' := Lib.hid hM
    have h9 : (words.length : Int) ≤ 9 := by omega
    have hle : ¬ (n : Int) < (words.length : Int) := by omega
    have heq : ((words.length : Int) == (n : Int)) = false := beq_eq_false_iff_ne.2 (by omega)
    clear hM hA
    generalize words.length = a at *
    go_enter Try.func26, Try.ntmps26
    go_wp2
    refine bodyPost_ret (results_none rfl _ _ _) rfl ?_
    exact ⟨rfl, v, vs, hM'.out, Keeps.refl _, Below.refl _ _⟩
end Go.Proofs.Ytnbgehaliicbnaa
