/-
  WHAT THIS FILE PROVES: the program's closure that lists complete prefix sets, where a word is open: it calls itself twice; asked: what stands in the boxes, rows of texts.
-/
import Derived.Test.YtnbgehaliicbnaaCpI
namespace Go.Proofs.Ytnbgehaliicbnaa
open Go.RowKit Go.Shelf

theorem cp_concat (U : World) (words : List ByteArray) (A : Option Addr) (c : Nat) (t : List ByteArray) (A2 : Option Addr) (c2 : Nat) (ws : List ByteArray) (he : ws = words ++ t) (h : RowT U A (strs words)) (h2 : RowT U A2 (strs t)) (l1 : words.length ≤ 262144) (l2 : t.length ≤ 262144) (W : World)
    (hW : W = (U.alloc (.cells #[.slice A words.length c, .slice A2 t.length c2] 35)) ∨ W = (U.alloc (.cells #[.slice A words.length c, .slice A2 t.length c2] 35)).drew) :
    Calls Try.prog 28 #[.slice (some ⟨U.heap.size, 0, none⟩) 2 2] W
      fun e w2 => ∃ A3 c3, e = .returned (.slice A3 ws.length c3) ∧ RowT w2 A3 (strs ws) ∧ ws.length ≤ c3 ∧ Below U.heap.size U w2 := by
  subst he
  have hBa : Below U.heap.size U W := by
    rcases hW with rfl | rfl
    · exact (Below.refl _ _).alloc (Nat.le_refl _) _
    · exact ((Below.refl _ _).alloc (Nat.le_refl _) _).drew
  have hk := Keeps.of_below hBa
  refine (slices_Concat2 U.heap.size A A2 words t c c2 W ?_ ?_ ?_ (h.keeps hk).row (h2.keeps hk).row l1 l2).mono ?_
  · rcases hW with rfl | rfl
    · show U.heap.size < (U.heap.push _).size
      rw [Array.size_push]; omega
    · show U.heap.size < (U.heap.push _).size
      rw [Array.size_push]; omega
  · rcases hW with rfl | rfl
    · rw [World.cell?_alloc_at _ _ _ _ rfl]; rfl
    · show (U.alloc _).cell? _ = _
      rw [World.cell?_alloc_at _ _ _ _ rfl]; rfl
  · rcases hW with rfl | rfl
    · rw [World.cell?_alloc_at _ _ _ _ rfl]; rfl
    · show (U.alloc _).cell? _ = _
      rw [World.cell?_alloc_at _ _ _ _ rfl]; rfl
  · rintro e w2 ⟨A3, c3, rfl, ho, hB⟩
    exact ⟨A3, c3, rfl, RowT.of_own ho, own_cap ho, hBa.trans (hB.mono hBa.size)⟩
theorem rowT_one (U : World) (s : ByteArray) : RowT (U.alloc (.cells #[.string s] 9)) (some ⟨U.heap.size, 0, none⟩) (strs [s]) := fun _ =>
  ⟨U.heap.size, 0, #[.string s], (0, 0), rfl, heap_alloc_new U _, fun i v hv => by
    have hi : i = 0 := by
      have := (List.getElem?_eq_some_iff.1 hv).1
      simpa [strs] using this
    subst hi
    simpa [strs] using hv⟩

set_option maxHeartbeats 6400000 in
set_option maxRecDepth 100000 in
theorem cpDec_on (n L f : Nat) (hL : L = 2 ∨ L = 3) (hn : n ≤ 9) (ih : CpDec n L f) (u : World) (P Q N M base : Nat) (words : List ByteArray) (s : ByteArray) (rest : List ByteArray) (A A' : Option Addr) (c c' : Nat) (v : Value) (m : Nat) (vs : List Value)
    (hM : CpMem u 26 P Q N M base n L v m vs) (hA : RowT u A (strs words)) (hA' : RowT u A' (strs (s :: rest))) (hc : rest.length + 1 ≤ c') (hle : words.length + (rest.length + 1) ≤ n)
    (hf : 3 * (n + 1 - (words.length + (rest.length + 1))) + (rest.length + 1) ≤ f + 1) (hx : ∀ x ∈ s :: rest, x.size + (f + 1) ≤ 60) (hm : m + cpD n L (f + 1) words.length (rest.length + 1) ≤ 100000) :
    Calls Try.prog 26 #[.slice A words.length c, .slice A' ((rest.length + 1 : Nat)) c', .pointer (some ⟨N, 0, none⟩), .pointer (some ⟨P, 0, none⟩), .pointer (some ⟨Q, 0, none⟩), .pointer (some ⟨M, 0, none⟩)] u
      fun e u' => e = .returned (.tuple #[]) ∧ CpOut u P Q N M base n L (m + cpD n L (f + 1) words.length (rest.length + 1)) u' := by
  have cN := boxed hM.hN
  rw [cpD_on n L f (by omega)] at hm ⊢
  have eg : ∀ args w, (callFunc 26 args).run Try.prog w = .ok (.enter 26 args) w := enters_of Try.func26 (by kernel_rfl) rfl
  obtain ⟨b, off, cs, fr, rfl, hb, hcc⟩ := hA' (by simp [strs])
  have c0 : u.drew.cell? ⟨b, off, none⟩ = some (.string s) := by
    show u.cell? _ = _
    rw [Lib.cell_of_heap hb]
    have := hcc 0 (.string s) rfl
    rwa [Nat.add_zero] at this
  have hM' := Lib.hid hM
  have hRw := Lib.hid hA
  have hRo := Lib.hid (RowT.tail hA')
  have Hx := Lib.hid hx
  have ihh := Lib.hid ih
  have h9 : (words.length : Int) ≤ 9 := by omega
  have hl1 : ¬ (n : Int) < (words.length : Int) + ((rest.length : Int) + 1) := by omega
  have hne : (((rest.length : Int) + 1) == 0) = false := beq_eq_false_iff_ne.2 (by omega)
  have hc3 : (rest.length : Int) + 1 ≤ (c' : Int) := by omega
  have hc4 : (1 : Int) ≤ (rest.length : Int) + 1 := by omega
  clear hM hA hA' hcc hx ih
  go_enter Try.func26, Try.ntmps26
  go_wp2
  go_region
  have hRo2 : RowT u (if c' = 1 then some ⟨b, off, none⟩ else some ⟨b, off + 1, none⟩) (strs rest) := by
    by_cases e : c' = 1
    · intro h0
      rw [strs_length] at h0
      omega
    · rw [if_neg e]
      exact hRo.out
  generalize (if c' = 1 then some (⟨b, off, none⟩ : Addr) else some ⟨b, off + 1, none⟩) = Ao at hRo2 ⊢
  have cQ := boxed hM'.out.drew.hQ
  have hM1 := Lib.hid hM'.out.drew
  have hRw1 := Lib.hid (hRw.out.keeps (Keeps.of_below (Below.refl u.heap.size u).drew))
  have hRo1 := Lib.hid (hRo2.keeps (Keeps.of_below (Below.refl u.heap.size u).drew))
  have hK1 := Lib.hid (And.intro (Keeps.of_below (Below.refl u.heap.size u).drew) (Below.refl base u).drew)
  clear c0 cN hRo2 hRw hRo hb hM'
  go_wp2
  generalize u.drew = u1 at cQ hM1 hRw1 hRo1 hK1 ⊢
  obtain ⟨ws, hws⟩ : ∃ ws, ws = words ++ [s] := ⟨_, rfl⟩
  have hlw := Lib.hid (show ws.length = words.length + 1 by rw [hws]; simp)
  have hcat1 := cp_concat (u1.alloc (.cells #[.string s] 9)) words A c [s] (some ⟨u1.heap.size, 0, none⟩) 1 ws hws (hRw1.out.keeps (Keeps.of_below ((Below.refl _ _).alloc (Nat.le_refl _) _))) (rowT_one u1 s) (by omega) (by simp) _ (.inr rfl)
  rw [show (u1.alloc (.cells #[.string s] 9)).heap.size = u1.heap.size + 1 by simp] at hcat1
  replace hcat1 : Hid (Calls Try.prog 28 #[.slice (some ⟨u1.heap.size + 1, 0, none⟩) 2 2] ((u1.alloc (.cells #[.string s] 9)).alloc (.cells #[.slice A words.length c, .slice (some ⟨u1.heap.size, 0, none⟩) 1 1] 35)).drew
    fun e w2 => ∃ A3 c3, e = .returned (.slice A3 ws.length c3) ∧ RowT w2 A3 (strs ws) ∧ ws.length ≤ c3 ∧ Below (u1.heap.size + 1) (u1.alloc (.cells #[.string s] 9)) w2) := hcat1
  replace hws := Lib.hid hws
  go_region_held3 (fun w' => w'.cell? ⟨Q, 0, none⟩ = some (.func (.func 26) #[] #[.pointer (some ⟨N, 0, none⟩), .pointer (some ⟨P, 0, none⟩), .pointer (some ⟨Q, 0, none⟩), .pointer (some ⟨M, 0, none⟩)])) (first | assumption | go_keep) (first
    | (go_at_call 28; refine hcat1.out.mono ?_; rintro e w2 ⟨A2, c2, rfl, hr2, hcp2, hB2⟩; have hB2' := Lib.hid (((Below.refl u1.heap.size u1).alloc (Nat.le_refl _) (.cells #[.string s] 9)).trans (hB2.mono (Nat.le_succ _))); have hM2 := Lib.hid (hM1.out.below hB2'.out); have cQ2 := boxed hM2.out.hQ; have hd1 := Lib.hid (ihh.out w2 P Q N M base ws rest A2 Ao c2 (c' - 1) v m vs hM2.out hr2 (hRo1.out.keeps (Keeps.of_below hB2'.out)) (by omega) (by rw [hlw.out]; omega) (fun x hx => by have := Hx.out x (List.mem_cons_of_mem _ hx); omega) (by rw [hlw.out]; omega) (by omega) (by rw [hlw.out]; omega)); clear hr2 hB2)
    | (go_at_call 26; refine hd1.out.mono ?_; rintro e w3 ⟨rfl, hO3⟩; have cQ3 : w3.cell? ⟨Q, 0, none⟩ = some (.func (.func 26) #[] #[.pointer (some ⟨N, 0, none⟩), .pointer (some ⟨P, 0, none⟩), .pointer (some ⟨Q, 0, none⟩), .pointer (some ⟨M, 0, none⟩)]) := (by obtain ⟨v3, vs3, h3, _⟩ := hO3; exact boxed h3.hQ)))
  clear hd1 cQ2 hcat1
  obtain ⟨v3, vs3, hM3, hK3, hB3⟩ := hO3
  rw [hlw.out] at hM3
  have hK31 := Lib.hid (And.intro (hK1.out.1.trans ((Keeps.of_below hB2'.out).trans hK3)) (hK1.out.2.trans ((hB2'.out.mono hM1.out.bs).trans hB3)))
  have hRw3 := Lib.hid (hRw1.out.keeps ((Keeps.of_below hB2'.out).trans hK3))
  have hRo3 := Lib.hid (hRo1.out.keeps ((Keeps.of_below hB2'.out).trans hK3))
  have cM3 := boxed hM3.hM
  have hM3' := Lib.hid hM3
  have hB3' := Lib.hid (Below.refl w3.heap.size w3).drew
  clear hM1 hM2 hK1 hRw1 hRo1 hB2' hM3 hK3 hB3
  have hs60 := Hx.out s (List.mem_cons_self)
  have hol := Lib.hid (impl_oneLonger s L w3.drew (by omega) (by omega))
  have hkl := kids_len s L
  obtain ⟨os, hos⟩ : ∃ os, os = kids s L ++ rest := ⟨_, rfl⟩
  have hlo := Lib.hid (show os.length = rest.length + L by rw [hos, List.length_append, hkl]; omega)
  have Hxo := Lib.hid (show ∀ x ∈ os, x.size + f ≤ 60 from fun x hx => by
    rw [hos, List.mem_append] at hx
    rcases hx with hx | hx
    · unfold kids at hx
      obtain ⟨j, hj, rfl⟩ := List.mem_map.1 hx
      have hj' : j < L := by simpa using hj
      have := kid_size s j (by omega)
      omega
    · have := Hx.out x (List.mem_cons_of_mem _ hx)
      omega)
  replace hos := Lib.hid hos
  replace hkl := Lib.hid hkl
  go_wp2
  go_region_held3 (fun w' => w'.cell? ⟨Q, 0, none⟩ = some (.func (.func 26) #[] #[.pointer (some ⟨N, 0, none⟩), .pointer (some ⟨P, 0, none⟩), .pointer (some ⟨Q, 0, none⟩), .pointer (some ⟨M, 0, none⟩)]) ∧ w'.cell? ⟨M, 0, none⟩ = some (.int .i64 (L : Int))) (first | assumption | (exact ⟨by assumption, by assumption⟩) | go_keep) (first
    | (go_at_call 29; refine hol.out.mono ?_; rintro e w4 ⟨A4, c4, rfl, ho4, hB4⟩; have hB4' := Lib.hid (hB3'.out.trans hB4); have hM4 := Lib.hid (hM3'.out.below hB4'.out); have cQ4 := boxed hM4.out.hQ; have cM4 := boxed hM4.out.hM; have hcat2 := Lib.hid (cp_concat w4 (kids s L) A4 c4 rest Ao (c' - 1) os hos.out (RowT.of_own ho4) (hRo3.out.keeps (Keeps.of_below hB4'.out)) (by rw [hkl.out]; omega) (by omega) _ (.inl rfl)); clear ho4 hB4)
    | (go_at_call 28; refine hcat2.out.mono ?_; rintro e w5 ⟨A5, c5, rfl, hr5, hcp5, hB5⟩; have hB5' := Lib.hid (hB4'.out.trans (hB5.mono hB4'.out.size)); have hM5 := Lib.hid (hM3'.out.below hB5'.out); have cQ5 := boxed hM5.out.hQ; have cM5 := boxed hM5.out.hM; have hd2 := Lib.hid (ihh.out w5 P Q N M base words os A A5 c c5 v3 _ vs3 hM5.out (hRw3.out.keeps (Keeps.of_below hB5'.out)) hr5 hcp5 (by rw [hlo.out]; omega) Hxo.out (by omega) (by rw [hlo.out]; omega) (by rw [hlo.out]; omega)); clear hr5 hB5)
    | (go_at_call 26; refine hd2.out.mono ?_; rintro e w6 ⟨rfl, hO6⟩; have cQ6 : w6.cell? ⟨Q, 0, none⟩ = some (.func (.func 26) #[] #[.pointer (some ⟨N, 0, none⟩), .pointer (some ⟨P, 0, none⟩), .pointer (some ⟨Q, 0, none⟩), .pointer (some ⟨M, 0, none⟩)]) := (by obtain ⟨v6, vs6, h6, _⟩ := hO6; exact boxed h6.hQ); have cM6 : w6.cell? ⟨M, 0, none⟩ = some (.int .i64 (L : Int)) := (by obtain ⟨v6, vs6, h6, _⟩ := hO6; exact boxed h6.hM)))
  obtain ⟨v6, vs6, hM6, hK6, hB6⟩ := hO6
  rw [hlo.out, Nat.add_assoc] at hM6
  go_wp2
  go_end0
  exact ⟨rfl, v6, vs6, hM6, hK31.out.1.trans ((Keeps.of_below hB5'.out).trans hK6), hK31.out.2.trans ((hB5'.out.mono hM3'.out.bs).trans hB6)⟩
theorem cpDec_succ (n L f : Nat) (hL : L = 2 ∨ L = 3) (hn : n ≤ 9) (ih : CpDec n L f) : CpDec n L (f + 1) := by
  intro u P Q N M base words opens A A' c c' v m vs hM hA hA' hc hf hx hw ho hm
  by_cases h : n < words.length + opens.length
  · exact cpDec_many n L (f + 1) u P Q N M base words opens A A' c c' v m vs hM hn hw ho h
  · cases opens with
    | nil => exact cpDec_end n L f u P Q N M base words A A' c c' v m vs hM hA hn (by simpa using h) hm
    | cons s rest =>
      rw [List.length_cons] at *
      exact cpDec_on n L f hL hn ih u P Q N M base words s rest A A' c c' v m vs hM hA hA' hc (by omega) (hf (by omega)) hx hm
theorem cpDec_all (n L : Nat) (hL : L = 2 ∨ L = 3) (hn : n ≤ 9) : ∀ f, CpDec n L f
  | 0 => cpDec_zero n L hn
  | f + 1 => cpDec_succ n L f hL hn (cpDec_all n L hL hn f)
end Go.Proofs.Ytnbgehaliicbnaa
