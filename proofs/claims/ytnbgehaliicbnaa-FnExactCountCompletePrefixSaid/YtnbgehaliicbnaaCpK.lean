/-
  WHAT THIS FILE PROVES: the number of complete prefix sets: the program's function gives the plain one; nothing is asked of the memory.
-/
import Derived.Test.YtnbgehaliicbnaaCpJ
namespace Go.Proofs.Ytnbgehaliicbnaa
open Go.RowKit Go.Shelf

theorem run_store_func (w : World) (a : Addr) (f : Fn) (x y : Array Value) (m : Mode) : (store a (.func f x y) m).run Try.prog w = stored Try.prog w a (.func f x y) m := run_store Try.prog w a _ m rfl
attribute [local go_sem] run_store_func
/-- so many sets are handed back -/
def CpMany (w : World) (k : Nat) (e : Ending) (w' : World) : Prop := ∃ A c, e = .returned (.slice A k c) ∧ Below w.heap.size w w'
/-- the world behind the boxes, the closure in its own -/
abbrev cpF (w : World) : Value := .func (.func 26) #[] #[.pointer (some ⟨w.heap.size + 1, 0, none⟩), .pointer (some ⟨w.heap.size + 1 + 1, 0, none⟩), .pointer (some ⟨w.heap.size + 1 + 1 + 1, 0, none⟩), .pointer (some ⟨w.heap.size, 0, none⟩)]
abbrev cpV (w : World) (L n : Nat) (x : Value) : World := (((w.alloc (.cells #[.int .i64 (L : Int)] 3)).alloc (.cells #[.int .i64 (n : Int)] 3)).alloc (.cells #[.slice none 0 0] 25)).alloc (.cells #[x] 43)
theorem cp_heap (w : World) (L n : Nat) (x : Value) : (cpV w L n x).heap[w.heap.size]? = some (.cells #[.int .i64 (L : Int)] 3 (0, 0)) ∧ (cpV w L n x).heap[w.heap.size + 1]? = some (.cells #[.int .i64 (n : Int)] 3 (0, 0)) ∧
    (cpV w L n x).heap[w.heap.size + 1 + 1]? = some (.cells #[.slice none 0 0] 25 (0, 0)) ∧ (cpV w L n x).heap[w.heap.size + 1 + 1 + 1]? = some (.cells #[x] 43 (0, 0)) := by
  have s1 : (w.alloc (.cells #[.int .i64 (L : Int)] 3)).heap.size = w.heap.size + 1 := by simp
  have s2 : ((w.alloc (.cells #[.int .i64 (L : Int)] 3)).alloc (.cells #[.int .i64 (n : Int)] 3)).heap.size = w.heap.size + 1 + 1 := by simp
  have s3 : (((w.alloc (.cells #[.int .i64 (L : Int)] 3)).alloc (.cells #[.int .i64 (n : Int)] 3)).alloc (.cells #[.slice none 0 0] 25)).heap.size = w.heap.size + 1 + 1 + 1 := by simp
  refine ⟨?_, ?_, ?_, ?_⟩
  · exact (Below.heap_alloc _ _ _ (by omega)).trans ((Below.heap_alloc _ _ _ (by omega)).trans ((Below.heap_alloc _ _ _ (by omega)).trans (heap_alloc_new w _)))
  · have := heap_alloc_new (w.alloc (.cells #[.int .i64 (L : Int)] 3)) (.cells #[.int .i64 (n : Int)] 3)
    rw [s1] at this
    exact (Below.heap_alloc _ _ _ (by omega)).trans ((Below.heap_alloc _ _ _ (by omega)).trans this)
  · have := heap_alloc_new ((w.alloc (.cells #[.int .i64 (L : Int)] 3)).alloc (.cells #[.int .i64 (n : Int)] 3)) (.cells #[.slice none 0 0] 25)
    rw [s2] at this
    exact (Below.heap_alloc _ _ _ (by omega)).trans this
  · have := heap_alloc_new (((w.alloc (.cells #[.int .i64 (L : Int)] 3)).alloc (.cells #[.int .i64 (n : Int)] 3)).alloc (.cells #[.slice none 0 0] 25)) (.cells #[x] 43)
    rw [s3] at this
    exact this
theorem cp_start (w : World) (L n : Nat) : CpMem (cpV w L n (cpF w)) 26 (w.heap.size + 1 + 1) (w.heap.size + 1 + 1 + 1) (w.heap.size + 1) w.heap.size w.heap.size n L (.slice none 0 0) 0 [] ∧ Below w.heap.size w (cpV w L n (cpF w)) := by
  obtain ⟨h1, h2, h3, h4⟩ := cp_heap w L n (cpF w)
  have hB : Below w.heap.size w (cpV w L n (cpF w)) := ((((Below.refl _ _).alloc (Nat.le_refl _) _).alloc (by simp) _).alloc (by simp; omega) _).alloc (by simp; omega) _
  exact ⟨⟨by omega, hB.size, h2, h1, h4, h3, World.ownsRow_nil _ _ _ _⟩, hB⟩
set_option maxHeartbeats 3200000 in
set_option maxRecDepth 100000 in
theorem impl_completePrefixSets (n L : Nat) (hL : L = 2 ∨ L = 3) (hn : n ≤ 9) (w : World) :
    Calls Try.prog 16 #[.int .i64 L, .int .i64 n] w (CpMany w (cpS (cpC L 7) L n)) := by
  have eg : ∀ args w, (callFunc 26 args).run Try.prog w = .ok (.enter 26 args) w := enters_of Try.func26 (by kernel_rfl) rfl
  have hdec := Lib.hid (cpDec_all n L hL hn 40)
  have hbd := (cp_bd (m := 7) (p := L) hL (Nat.le_refl 7) (by omega) hn).1
  have hsame := Lib.hid (cp_same hL hn)
  have cW := boxed (cp_heap w L n .nilFunc).2.2.2
  have fW := Lib.frozen_of_heap (cp_heap w L n .nilFunc).2.2.2 0
  unfold cpV at cW fW
  have hst := Lib.hid (cp_start w L n)
  go_enter Try.func16, Try.ntmps16
  go_wp2
  have hM0 := Lib.hid hst.out.1
  have hB0 := Lib.hid hst.out.2
  clear cW fW hst
  unfold cpV at hM0 hB0
  go_wp2
  generalize (((w.alloc (.cells #[.int .i64 (L : Int)] 3)).alloc (.cells #[.int .i64 (n : Int)] 3)).alloc (.cells #[.slice none 0 0] 25)).alloc (.cells #[cpF w] 43) = u at hM0 hB0 ⊢
  generalize hPe : w.heap.size + 1 + 1 = P at *
  generalize hNe : w.heap.size + 1 = N at *
  have hQe : P + 1 = P + 1 := rfl
  generalize P + 1 = Q at *
  generalize hMe : w.heap.size = M at *
  have cQ := boxed hM0.out.drew.hQ
  have cM := boxed hM0.out.drew.hM
  have hB3' := Lib.hid (Below.refl u.heap.size u).drew
  have hol := Lib.hid (impl_oneLonger ⟨#[]⟩ L u.drew (by show 0 ≤ 60; omega) (by omega))
  have hkl := kids_len ⟨#[]⟩ L
  have Hxo := Lib.hid (show ∀ x ∈ kids ⟨#[]⟩ L, x.size + 40 ≤ 60 from fun x hx => by
    unfold kids at hx
    obtain ⟨j, hj, rfl⟩ := List.mem_map.1 hx
    have hj' : j < L := by simpa using hj
    have := kid_size ⟨#[]⟩ j (by omega)
    rw [this]
    show 0 + 1 + 40 ≤ 60
    omega)
  generalize kids ⟨#[]⟩ L = ks at hol hkl Hxo
  replace hkl := Lib.hid hkl
  go_region_held3 (fun w' => w'.cell? ⟨Q, 0, none⟩ = some (.func (.func 26) #[] #[.pointer (some ⟨N, 0, none⟩), .pointer (some ⟨P, 0, none⟩), .pointer (some ⟨Q, 0, none⟩), .pointer (some ⟨M, 0, none⟩)]) ∧ w'.cell? ⟨M, 0, none⟩ = some (.int .i64 (L : Int))) (first | assumption | (exact ⟨by assumption, by assumption⟩) | go_keep) (first
    | (go_at_call 29; refine hol.out.mono ?_; rintro e w4 ⟨A4, c4, rfl, ho4, hB4⟩; have hB4' := Lib.hid (hB3'.out.trans hB4); have hM4 := Lib.hid (hM0.out.below hB4'.out); have cQ4 := boxed hM4.out.hQ; have cM4 := boxed hM4.out.hM; have hd2 := Lib.hid (hdec.out w4 P Q N M M [] ks none A4 0 c4 (.slice none 0 0) 0 [] hM4.out (RowT.nil _ _) (RowT.of_own ho4) (own_cap ho4) (by rw [hkl.out]; simp; omega) Hxo.out (by simp) (by rw [hkl.out]; omega) (by rw [hkl.out]; simp only [List.length_nil]; rw [hsame.out]; omega)); clear ho4 hB4)
    | (go_at_call 26; refine hd2.out.mono ?_; rintro e w6 ⟨rfl, hO6⟩; have cQ6 : w6.cell? ⟨Q, 0, none⟩ = some (.func (.func 26) #[] #[.pointer (some ⟨N, 0, none⟩), .pointer (some ⟨P, 0, none⟩), .pointer (some ⟨Q, 0, none⟩), .pointer (some ⟨M, 0, none⟩)]) := (by obtain ⟨v6, vs6, h6, _⟩ := hO6; exact boxed h6.hQ); have cM6 : w6.cell? ⟨M, 0, none⟩ = some (.int .i64 (L : Int)) := (by obtain ⟨v6, vs6, h6, _⟩ := hO6; exact boxed h6.hM)))
  obtain ⟨v6, vs6, hM6, hK6, hB6⟩ := hO6
  rw [hkl.out, List.length_nil, hsame.out, Nat.zero_add] at hM6
  obtain ⟨A6, c6, rfl⟩ := own_slice hM6.own
  have cP6 := boxed hM6.hP
  have HB6 := Lib.hid (hB0.out.trans ((hB4'.out.mono hM0.out.bs).trans hB6))
  clear hM6
  go_wp2
  go_ret
  exact ⟨A6, c6, rfl, hMe ▸ HB6.out⟩
theorem impl_CountCompletePrefix (L n : Int) (w : World) :
    Calls Try.prog 6 #[.int .i64 L, .int .i64 n] w fun e w' => e = .returned (.tuple #[.int .i64 (cpOf L n : Nat), .bool (cpOk L n)]) ∧ Below w.heap.size w w' := by
  have hk := impl_areLetters L w
  cases hq : W.krLet L
  · have hno : cpOk L n = false := by unfold cpOk; rw [hq]; rfl
    rw [cpOf_no hno, hno]
    rw [hq] at hk
    replace hk := Lib.hid hk
    clear hno hq
    go_enter Try.func6, Try.ntmps6
    go_wp2_with fail
    refine hk.out.mono ?_
    rintro e w1 ⟨rfl, rfl⟩
    go_wp2_with fail
    go_ret2
    exact ⟨rfl, Below.refl _ _⟩
  · rw [hq] at hk
    replace hk := Lib.hid hk
    by_cases hr : 1 ≤ n ∧ n ≤ 9
    · obtain ⟨j, rfl⟩ := Int.eq_ofNat_of_zero_le (show (0 : Int) ≤ n by omega)
      have hLc : L = ((L.toNat : Nat) : Int) ∧ (L.toNat = 2 ∨ L.toNat = 3) := by
        rcases W.krLet_cases hq with rfl | rfl <;> simp
      generalize L.toNat = l at hLc
      obtain ⟨rfl, hl⟩ := hLc
      have hok : cpOk (l : Int) (j : Int) = true := by unfold cpOk; rw [hq, decide_eq_true hr]; rfl
      rw [cpOf_yes hok, hok]
      have hs := Lib.hid (fun u => impl_completePrefixSets j l hl (by omega) u)
      generalize cpS (cpC l 7) l j = x at hs ⊢
      have h1 : ¬ (j : Int) < 1 := by omega
      have h2 : ¬ (9 : Int) < (j : Int) := by omega
      clear hok hq hr
      go_enter Try.func6, Try.ntmps6
      go_wp2_with fail
      refine hk.out.mono ?_
      rintro e w1 ⟨rfl, rfl⟩
      go_wp2_with fail
      refine (hs.out _).mono ?_
      rintro e w2 ⟨A2, c2, rfl, hB2⟩
      go_wp2_with fail
      go_ret2
      exact ⟨rfl, hB2⟩
    · have hno : cpOk L n = false := by unfold cpOk; rw [decide_eq_false hr]; simp
      rw [cpOf_no hno, hno]
      clear hno hq
      by_cases h1 : n < 1
      · clear hr
        go_enter Try.func6, Try.ntmps6
        go_wp2_with fail
        refine hk.out.mono ?_
        rintro e w1 ⟨rfl, rfl⟩
        go_wp2_with fail
        go_ret2
        exact ⟨rfl, Below.refl _ _⟩
      · have h2 : (9 : Int) < n := by omega
        clear hr
        go_enter Try.func6, Try.ntmps6
        go_wp2_with fail
        refine hk.out.mono ?_
        rintro e w1 ⟨rfl, rfl⟩
        go_wp2_with fail
        go_ret2
        exact ⟨rfl, Below.refl _ _⟩
end Go.Proofs.Ytnbgehaliicbnaa
