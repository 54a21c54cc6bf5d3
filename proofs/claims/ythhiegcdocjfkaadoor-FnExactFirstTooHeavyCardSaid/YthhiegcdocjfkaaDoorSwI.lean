/-
  WHAT THIS FILE PROVES: weighted sums, mean lengths and weights of inner words: the program's functions give what the plain ones say; asked: slices in memory, lengths that an int holds.
-/
import Derived.Test.YthhiegcdocjfkaaDoorSwS
import Derived.Test.YthhiegcdocjfkaaDoorLeJ
import Derived.Test.YthhiegcdocjfkaaDoorLofV
import Derived.Test.YthhiegcdocjfkaaDoorInnI
namespace Go.Proofs.YthhiegcdocjfkaaDoor
open Go.RowKit Go.Shelf

/-- the parts of a word, times a number -/
def ptV (z : List Int) (tf : ByteArray → Nat) (s : ByteArray) : Int := ((tf s * W.paW z s.data.toList : Nat) : Int)
theorem ptV_sum (z : List Int) (tf : ByteArray → Nat) : ∀ ws : List ByteArray, (ws.map (ptV z tf)).sum = ((W.suL z tf ws : Nat) : Int)
  | [] => rfl
  | s :: ws => by
    have ih := ptV_sum z tf ws
    unfold W.suL at ih ⊢
    rw [List.map_cons, List.map_cons, List.sum_cons, List.sum_cons, ih, Int.natCast_add]
    rfl
theorem ptV_le {z : List Int} (hz : W.wtB z = true) (tf : ByteArray → Nat) (ws : List ByteArray) (hw : W.Sh8 ws) (ht : ∀ k, k < ws.length → tf (W.nth ws k) ≤ 8) : ∀ x ∈ ws.map (ptV z tf), 0 ≤ x ∧ x ≤ 800000000 := fun x hx => by
  obtain ⟨s, hs, rfl⟩ := List.mem_map.1 hx
  obtain ⟨k, hk, rfl⟩ := List.getElem_of_mem hs
  have h1 : tf ws[k] * W.paW z ws[k].data.toList ≤ 8 * 100000000 := by
    rw [← W.nth_lt ws k hk]
    exact Nat.mul_le_mul (ht k hk) (W.paW_all hz _ (hw k hk).1)
  unfold ptV
  generalize tf ws[k] * W.paW z ws[k].data.toList = m at h1
  omega
set_option maxHeartbeats 1600000 in
theorem lw_sumOf (g : Nat) (eg : ∀ args w, (callFunc g args).run Tryd.prog w = .ok (.enter g args) w) (tf : ByteArray → Nat) (A : Option Addr) (ws : List ByteArray) (c : Nat) (B : Option Addr) (z : List Int) (d : Nat) (w : World) (h : Row w w.heap.size A (strs ws)) (hzr : Row w w.heap.size B (ints z))
    (hz : W.wtB z = true) (hw : W.Sh8 ws) (ht : ∀ k, k < ws.length → tf (W.nth ws k) ≤ 8) (hl : ws.length ≤ 1000) (hq : MakesV g (.slice B z.length d) (ptV z tf) ws w) :
    Calls Tryd.prog 30 #[.slice B z.length d, .slice A ws.length c, .func (.func g) #[.slice B z.length d] #[]] w fun e w' => e = .returned (ratV ((W.low (W.suL z tf ws) (W.wtT z ^ 8)).1 : Nat) ((W.low (W.suL z tf ws) (W.wtT z ^ 8)).2 : Nat)) ∧ Below w.heap.size w w' := by
  have hB := Lib.hid (leV_below w)
  have hr0 := Lib.hid ((h.below hB.out).more hB.out.size)
  have hr2 := Lib.hid ((hzr.below hB.out).more hB.out.size)
  have hli := Lib.hid (listOf_funcV g (.slice B z.length d) eg (ptV z tf) A ws c (leV w) hr0.out (by omega) (fun k u hk hu => hq k u hk (hB.out.trans (hu.mono hB.out.size))))
  have hto := fun (A' : Option Addr) (c' : Nat) (u : World) (hu : Row u u.heap.size A' (ints (ws.map (ptV z tf)))) => impl_totalOfB 800000000 (by decide) (by decide) (ws.map (ptV z tf)).length A' (ws.map (ptV z tf)) c' u rfl hu (by rw [List.length_map]; omega) (ptV_le hz tf ws hw ht)
  have hwh := fun (u : World) (hu : Row u u.heap.size B (ints z)) => lw_whole B z d u hu hz
  have hS := W.suL_le hz tf ws hw ht ws.length (Nat.le_refl _)
  rw [List.take_length] at hS
  have hS2 : W.suL z tf ws ≤ 4611686018427387904 := by omega
  clear hS
  have hQ0 : 0 < W.wtT z ^ 8 := Nat.pow_pos (by have := (W.wtT_le hz).2; omega)
  have hQ := W.wtT_pow hz 8 (Nat.le_refl _) 8 (Nat.le_refl _)
  rw [ptV_sum] at hto
  generalize ws.map (ptV z tf) = L at hli hto
  generalize W.wtT z ^ 8 = Q at hwh hQ hQ0 ⊢
  generalize W.suL z tf ws = P at hto hS2 ⊢
  have hra := fun (u : World) => impl_ratioOf P Q u hS2 hQ hQ0
  generalize W.low P Q = pq at hra ⊢
  obtain ⟨p, q⟩ := pq
  dsimp only at hra ⊢
  replace hto := Lib.hid hto
  replace hwh := Lib.hid hwh
  replace hra := Lib.hid hra
  clear h hzr hz hw ht hq hS2 hQ hQ0 eg
  go_enter Tryd.func30, Tryd.ntmps30
  go_wp2_with fail
  refine hli.out.mono ?_
  rintro e w1 ⟨A1, c1, rfl, ho1, hB1⟩
  have hto1 := Lib.hid (hto.out A1 c1 w1 (Row.of_own ho1))
  have hwh1 := Lib.hid (hwh.out w1 ((hr2.out.below hB1).more hB1.size))
  have H1 := Lib.hid hB1
  clear ho1 hB1
  go_wp2_with (first | (go_at_call 50; refine hto1.out.mono ?_; rintro e w' ⟨rfl, rfl⟩) | (go_at_call 53; refine hwh1.out.mono ?_; rintro e w' ⟨rfl, rfl⟩))
  refine (hra.out _).mono ?_
  rintro e w2 ⟨rfl, hB2⟩
  have hB3 := H1.out.trans (hB2.mono H1.out.size)
  have hB4 := Lib.hid (hB.out.trans (hB3.mono hB.out.size))
  obtain ⟨c0, c1', f0, f1⟩ := res_cells hB3
  clear hB2 hB3
  go_wp2
  exact bodyPost_ret (v := ratV p q) (by simp [results, Tryd.results30, go_sem, c0, c1']) rfl ⟨rfl, (hB4.out.setCell (Nat.le_refl _) _).setCell (Nat.le_refl _) _⟩
theorem makes_parts (B : Option Addr) (z : List Int) (d : Nat) (ws : List ByteArray) (w : World) (h : Row w w.heap.size B (ints z)) (hz : W.wtB z = true) (hw : W.Sh8 ws) : MakesV 31 (.slice B z.length d) (ptV z W.oneT) ws w := fun k u hk hu =>
  (lw_partsOf (W.nth ws k) B z d u (hw k hk).1 (hw k hk).2 ((h.below hu).more hu.size) hz).mono fun e u' h => by
    obtain ⟨rfl, n, rfl⟩ := h
    refine ⟨?_, below_drewN (Below.refl _ _) n⟩
    unfold ptV W.oneT
    rw [Nat.one_mul]
theorem parts_sum (A : Option Addr) (ws : List ByteArray) (c : Nat) (B : Option Addr) (z : List Int) (d : Nat) (w : World) (h : Row w w.heap.size A (strs ws)) (hzr : Row w w.heap.size B (ints z))
    (hz : W.wtB z = true) (hw : W.Sh8 ws) (hl : ws.length ≤ 1000) :
    Calls Tryd.prog 30 #[.slice B z.length d, .slice A ws.length c, .func (.func 31) #[.slice B z.length d] #[]] w fun e w' => e = .returned (ratV ((W.low (W.suL z W.oneT ws) (W.wtT z ^ 8)).1 : Nat) ((W.low (W.suL z W.oneT ws) (W.wtT z ^ 8)).2 : Nat)) ∧ Below w.heap.size w w' :=
  lw_sumOf 31 (enters_of Tryd.func31 (by kernel_rfl) rfl) W.oneT A ws c B z d w h hzr hz hw (fun _ _ => by unfold W.oneT; omega) hl (makes_parts B z d ws w hzr hz hw)
theorem lw_each (s : ByteArray) (A : Option Addr) (z : List Int) (c : Nat) (w : World) (hs : s.size ≤ 8) (hwd : W.isWd s.data.toList = true) (h : Row w w.heap.size A (ints z)) (hz : W.wtB z = true) :
    Calls Tryd.prog 33 #[.slice A z.length c, .string s] w fun e w' => e = .returned (.int .i64 (ptV z W.sizT s)) ∧ ∃ n, w' = w.drewN n := by
  have hc := Lib.hid (lw_partsOf s A z c w hs hwd h hz)
  have hP := W.paW_all hz s hs
  have hv : ptV z W.sizT s = ((W.paW z s.data.toList * s.size : Nat) : Int) := by unfold ptV W.sizT; rw [Nat.mul_comm]
  rw [hv]
  generalize W.paW z s.data.toList = P at hc hP ⊢
  have hm : P * s.size ≤ 100000000 * 8 := Nat.mul_le_mul hP hs
  have e1 := Lib.hid (mul_wrap P s.size (Nat.le_trans hm (by decide)))
  have e2 := Lib.hid (mul_wrap2 P s.size (Nat.le_trans hm (by decide)))
  clear h hz hwd hv hm
  go_enter Tryd.func33, Tryd.ntmps33
  go_wp2_with (go_at_call 31; refine hc.out.mono ?_; rintro e w' ⟨rfl, n, rfl⟩)
  go_ret
  exact ⟨by rw [← e1.out]; rfl, n, rfl⟩
theorem makes_each (B : Option Addr) (z : List Int) (d : Nat) (ws : List ByteArray) (w : World) (h : Row w w.heap.size B (ints z)) (hz : W.wtB z = true) (hw : W.Sh8 ws) : MakesV 33 (.slice B z.length d) (ptV z W.sizT) ws w := fun k u hk hu =>
  (lw_each (W.nth ws k) B z d u (hw k hk).1 (hw k hk).2 ((h.below hu).more hu.size) hz).mono fun e u' h => by
    obtain ⟨rfl, n, rfl⟩ := h
    exact ⟨rfl, below_drewN (Below.refl _ _) n⟩
theorem each_sum (A : Option Addr) (ws : List ByteArray) (c : Nat) (B : Option Addr) (z : List Int) (d : Nat) (w : World) (h : Row w w.heap.size A (strs ws)) (hzr : Row w w.heap.size B (ints z))
    (hz : W.wtB z = true) (hw : W.Sh8 ws) (hl : ws.length ≤ 1000) :
    Calls Tryd.prog 30 #[.slice B z.length d, .slice A ws.length c, .func (.func 33) #[.slice B z.length d] #[]] w fun e w' => e = .returned (ratV ((W.low (W.suL z W.sizT ws) (W.wtT z ^ 8)).1 : Nat) ((W.low (W.suL z W.sizT ws) (W.wtT z ^ 8)).2 : Nat)) ∧ Below w.heap.size w w' :=
  lw_sumOf 33 (enters_of Tryd.func33 (by kernel_rfl) rfl) W.sizT A ws c B z d w h hzr hz hw (fun k hk => (hw k hk).1) hl (makes_each B z d ws w hzr hz hw)
set_option maxHeartbeats 1600000 in
theorem impl_WeightedSum (A : Option Addr) (ss : List ByteArray) (c : Nat) (B : Option Addr) (z : List Int) (d : Nat) (w : World) (h : Row w w.heap.size A (strs ss)) (hl : ss.length ≤ 9223372036854775807) (hs : ∀ s ∈ ss, s.size ≤ 9223372036854775807) (g : Row w w.heap.size B (ints z)) (_hl2 : z.length ≤ 9223372036854775807) :
    Calls Tryd.prog 11 #[.slice A ss.length c, .slice B z.length d] w fun e w' => e = .returned (.tuple #[ratV ((W.wsOf W.oneT ss z).1 : Nat) ((W.wsOf W.oneT ss z).2 : Nat), .bool (W.wsOk ss z)]) ∧ Below w.heap.size w w' := by
  have hB := Lib.hid (leV_below w)
  have hr0 := Lib.hid ((h.below hB.out).more hB.out.size)
  have hr2 := Lib.hid ((g.below hB.out).more hB.out.size)
  have hc := impl_IsSet A ss c (leV w) hr0.out hl hs
  have hwt := fun (u : World) (hu : Row u u.heap.size B (ints z)) => impl_areLetterWeights B z d u hu
  clear h g hs
  cases h1 : W.isSet ss
  · have hno : W.wsOk ss z = false := by unfold W.wsOk; rw [h1]; rfl
    rw [W.wsOf_no hno, hno]
    rw [h1] at hc
    replace hc := Lib.hid hc
    clear hno h1 hwt
    go_enter Tryd.func11, Tryd.ntmps11
    go_wp2_with fail
    refine hc.out.mono ?_
    rintro e w1 ⟨rfl, hB1⟩
    have hB2 := Lib.hid (hB.out.trans (hB1.mono hB.out.size))
    obtain ⟨c0, c1, f0, f1⟩ := res_cells hB1
    clear hB1
    go_wp2
    exact bodyPost_ret (v := .tuple #[ratV 0 0, .bool false]) (by simp [results, Tryd.results11, go_sem, c0, c1]) rfl ⟨rfl, (hB2.out.setCell (Nat.le_refl _) _).setCell (Nat.le_refl _) _⟩
  · rw [h1] at hc
    replace hc := Lib.hid hc
    cases hz : W.wtB z
    · have hno : W.wsOk ss z = false := by unfold W.wsOk; rw [hz]; simp
      rw [W.wsOf_no hno, hno]
      rw [hz] at hwt
      replace hwt := Lib.hid hwt
      clear hno h1 hz
      go_enter Tryd.func11, Tryd.ntmps11
      go_wp2_with fail
      refine hc.out.mono ?_
      rintro e w1 ⟨rfl, hB1⟩
      have hB2 := Lib.hid (hB.out.trans (hB1.mono hB.out.size))
      have hw1 := Lib.hid (hwt.out w1 ((hr2.out.below hB1).more hB1.size))
      obtain ⟨c0, c1, f0, f1⟩ := res_cells hB1
      clear hB1
      go_wp2_with (go_at_call 29; refine hw1.out.mono ?_; rintro e w' ⟨rfl, rfl⟩)
      exact bodyPost_ret (v := .tuple #[ratV 0 0, .bool false]) (by simp [results, Tryd.results11, go_sem, c0, c1]) rfl ⟨rfl, (hB2.out.setCell (Nat.le_refl _) _).setCell (Nat.le_refl _) _⟩
    · have hyes : W.wsOk ss z = true := by unfold W.wsOk; rw [h1, hz]; rfl
      rw [W.wsOf_yes hyes, hyes]
      rw [hz] at hwt
      replace hwt := Lib.hid hwt
      have h12 := W.isSet_len ss h1
      have hsum := fun (u : World) (h0 : Row u u.heap.size A (strs ss)) (hq : Row u u.heap.size B (ints z)) => parts_sum A ss c B z d u h0 hq hz (W.set_Sh8 h1) (by omega)
      generalize W.low (W.suL z W.oneT ss) (W.wtT z ^ 8) = pq at hsum ⊢
      obtain ⟨p, q⟩ := pq
      dsimp only at hsum ⊢
      replace hsum := Lib.hid hsum
      clear hyes h1 hz
      go_enter Tryd.func11, Tryd.ntmps11
      go_wp2_with fail
      refine hc.out.mono ?_
      rintro e w1 ⟨rfl, hB1⟩
      have hw1 := Lib.hid (hwt.out w1 ((hr2.out.below hB1).more hB1.size))
      have H1 := Lib.hid hB1
      clear hB1
      have hs1 := Lib.hid (hsum.out w1 ((hr0.out.below H1.out).more H1.out.size) ((hr2.out.below H1.out).more H1.out.size))
      go_wp2_with (go_at_call 29; refine hw1.out.mono ?_; rintro e w' ⟨rfl, rfl⟩)
      refine hs1.out.mono ?_
      rintro e w3 ⟨rfl, hB3'⟩
      have hB3 := H1.out.trans (hB3'.mono H1.out.size)
      have hB4 := Lib.hid (hB.out.trans (hB3.mono hB.out.size))
      obtain ⟨c0, c1', f0, f1⟩ := res_cells hB3
      clear hB3' hB3
      go_wp2
      exact bodyPost_ret (v := .tuple #[ratV p q, .bool true]) (by simp [results, Tryd.results11, go_sem, c0, c1']) rfl ⟨rfl, (hB4.out.setCell (Nat.le_refl _) _).setCell (Nat.le_refl _) _⟩
set_option maxHeartbeats 1600000 in
theorem impl_MeanLength (A : Option Addr) (ss : List ByteArray) (c : Nat) (B : Option Addr) (z : List Int) (d : Nat) (w : World) (h : Row w w.heap.size A (strs ss)) (hl : ss.length ≤ 9223372036854775807) (hs : ∀ s ∈ ss, s.size ≤ 9223372036854775807) (g : Row w w.heap.size B (ints z)) (_hl2 : z.length ≤ 9223372036854775807) :
    Calls Tryd.prog 16 #[.slice A ss.length c, .slice B z.length d] w fun e w' => e = .returned (.tuple #[ratV ((W.wsOf W.sizT ss z).1 : Nat) ((W.wsOf W.sizT ss z).2 : Nat), .bool (W.wsOk ss z)]) ∧ Below w.heap.size w w' := by
  have hB := Lib.hid (leV_below w)
  have hr0 := Lib.hid ((h.below hB.out).more hB.out.size)
  have hr2 := Lib.hid ((g.below hB.out).more hB.out.size)
  have hc := impl_IsSet A ss c (leV w) hr0.out hl hs
  have hwt := fun (u : World) (hu : Row u u.heap.size B (ints z)) => impl_areLetterWeights B z d u hu
  clear h g hs
  cases h1 : W.isSet ss
  · have hno : W.wsOk ss z = false := by unfold W.wsOk; rw [h1]; rfl
    rw [W.wsOf_no hno, hno]
    rw [h1] at hc
    replace hc := Lib.hid hc
    clear hno h1 hwt
    go_enter Tryd.func16, Tryd.ntmps16
    go_wp2_with fail
    refine hc.out.mono ?_
    rintro e w1 ⟨rfl, hB1⟩
    have hB2 := Lib.hid (hB.out.trans (hB1.mono hB.out.size))
    obtain ⟨c0, c1, f0, f1⟩ := res_cells hB1
    clear hB1
    go_wp2
    exact bodyPost_ret (v := .tuple #[ratV 0 0, .bool false]) (by simp [results, Tryd.results16, go_sem, c0, c1]) rfl ⟨rfl, (hB2.out.setCell (Nat.le_refl _) _).setCell (Nat.le_refl _) _⟩
  · rw [h1] at hc
    replace hc := Lib.hid hc
    cases hz : W.wtB z
    · have hno : W.wsOk ss z = false := by unfold W.wsOk; rw [hz]; simp
      rw [W.wsOf_no hno, hno]
      rw [hz] at hwt
      replace hwt := Lib.hid hwt
      clear hno h1 hz
      go_enter Tryd.func16, Tryd.ntmps16
      go_wp2_with fail
      refine hc.out.mono ?_
      rintro e w1 ⟨rfl, hB1⟩
      have hB2 := Lib.hid (hB.out.trans (hB1.mono hB.out.size))
      have hw1 := Lib.hid (hwt.out w1 ((hr2.out.below hB1).more hB1.size))
      obtain ⟨c0, c1, f0, f1⟩ := res_cells hB1
      clear hB1
      go_wp2_with (go_at_call 29; refine hw1.out.mono ?_; rintro e w' ⟨rfl, rfl⟩)
      exact bodyPost_ret (v := .tuple #[ratV 0 0, .bool false]) (by simp [results, Tryd.results16, go_sem, c0, c1]) rfl ⟨rfl, (hB2.out.setCell (Nat.le_refl _) _).setCell (Nat.le_refl _) _⟩
    · have hyes : W.wsOk ss z = true := by unfold W.wsOk; rw [h1, hz]; rfl
      rw [W.wsOf_yes hyes, hyes]
      rw [hz] at hwt
      replace hwt := Lib.hid hwt
      have h12 := W.isSet_len ss h1
      have hsum := fun (u : World) (h0 : Row u u.heap.size A (strs ss)) (hq : Row u u.heap.size B (ints z)) => each_sum A ss c B z d u h0 hq hz (W.set_Sh8 h1) (by omega)
      generalize W.low (W.suL z W.sizT ss) (W.wtT z ^ 8) = pq at hsum ⊢
      obtain ⟨p, q⟩ := pq
      dsimp only at hsum ⊢
      replace hsum := Lib.hid hsum
      clear hyes h1 hz
      go_enter Tryd.func16, Tryd.ntmps16
      go_wp2_with fail
      refine hc.out.mono ?_
      rintro e w1 ⟨rfl, hB1⟩
      have hw1 := Lib.hid (hwt.out w1 ((hr2.out.below hB1).more hB1.size))
      have H1 := Lib.hid hB1
      clear hB1
      have hs1 := Lib.hid (hsum.out w1 ((hr0.out.below H1.out).more H1.out.size) ((hr2.out.below H1.out).more H1.out.size))
      go_wp2_with (go_at_call 29; refine hw1.out.mono ?_; rintro e w' ⟨rfl, rfl⟩)
      refine hs1.out.mono ?_
      rintro e w3 ⟨rfl, hB3'⟩
      have hB3 := H1.out.trans (hB3'.mono H1.out.size)
      have hB4 := Lib.hid (hB.out.trans (hB3.mono hB.out.size))
      obtain ⟨c0, c1', f0, f1⟩ := res_cells hB3
      clear hB3' hB3
      go_wp2
      exact bodyPost_ret (v := .tuple #[ratV p q, .bool true]) (by simp [results, Tryd.results16, go_sem, c0, c1']) rfl ⟨rfl, (hB4.out.setCell (Nat.le_refl _) _).setCell (Nat.le_refl _) _⟩
set_option maxHeartbeats 1600000 in
theorem impl_InnerWeight (A : Option Addr) (ss : List ByteArray) (c : Nat) (B : Option Addr) (z : List Int) (d : Nat) (w : World) (h : Row w w.heap.size A (strs ss)) (hl : ss.length ≤ 9223372036854775807) (hs : ∀ s ∈ ss, s.size ≤ 9223372036854775807) (g : Row w w.heap.size B (ints z)) (_hl2 : z.length ≤ 9223372036854775807) :
    Calls Tryd.prog 23 #[.slice A ss.length c, .slice B z.length d] w fun e w' => e = .returned (.tuple #[ratV ((iwOf ss z).1 : Nat) ((iwOf ss z).2 : Nat), .bool (W.wsOk ss z)]) ∧ Below w.heap.size w w' := by
  have hB := Lib.hid (leV_below w)
  have hr0 := Lib.hid ((h.below hB.out).more hB.out.size)
  have hr2 := Lib.hid ((g.below hB.out).more hB.out.size)
  have hc := impl_IsSet A ss c (leV w) hr0.out hl hs
  have hwt := fun (u : World) (hu : Row u u.heap.size B (ints z)) => impl_areLetterWeights B z d u hu
  clear h g hs
  cases h1 : W.isSet ss
  · have hno : W.wsOk ss z = false := by unfold W.wsOk; rw [h1]; rfl
    rw [iwOf_no hno, hno]
    rw [h1] at hc
    replace hc := Lib.hid hc
    clear hno h1 hwt
    go_enter Tryd.func23, Tryd.ntmps23
    go_wp2_with fail
    refine hc.out.mono ?_
    rintro e w1 ⟨rfl, hB1⟩
    have hB2 := Lib.hid (hB.out.trans (hB1.mono hB.out.size))
    obtain ⟨c0, c1, f0, f1⟩ := res_cells hB1
    clear hB1
    go_wp2
    exact bodyPost_ret (v := .tuple #[ratV 0 0, .bool false]) (by simp [results, Tryd.results23, go_sem, c0, c1]) rfl ⟨rfl, (hB2.out.setCell (Nat.le_refl _) _).setCell (Nat.le_refl _) _⟩
  · rw [h1] at hc
    replace hc := Lib.hid hc
    cases hz : W.wtB z
    · have hno : W.wsOk ss z = false := by unfold W.wsOk; rw [hz]; simp
      rw [iwOf_no hno, hno]
      rw [hz] at hwt
      replace hwt := Lib.hid hwt
      clear hno h1 hz
      go_enter Tryd.func23, Tryd.ntmps23
      go_wp2_with fail
      refine hc.out.mono ?_
      rintro e w1 ⟨rfl, hB1⟩
      have hB2 := Lib.hid (hB.out.trans (hB1.mono hB.out.size))
      have hw1 := Lib.hid (hwt.out w1 ((hr2.out.below hB1).more hB1.size))
      obtain ⟨c0, c1, f0, f1⟩ := res_cells hB1
      clear hB1
      go_wp2_with (go_at_call 29; refine hw1.out.mono ?_; rintro e w' ⟨rfl, rfl⟩)
      exact bodyPost_ret (v := .tuple #[ratV 0 0, .bool false]) (by simp [results, Tryd.results23, go_sem, c0, c1]) rfl ⟨rfl, (hB2.out.setCell (Nat.le_refl _) _).setCell (Nat.le_refl _) _⟩
    · have hyes : W.wsOk ss z = true := by unfold W.wsOk; rw [h1, hz]; rfl
      rw [iwOf_yes hyes, hyes]
      rw [hz] at hwt
      replace hwt := Lib.hid hwt
      have h12 := W.isSet_len ss h1
      have hlen := inB_len h1
      have hin := fun (u : World) (hu : Row u u.heap.size A (strs ss)) => impl_innerWords A ss c u hu h1
      have hsum := fun (A1 : Option Addr) (c1 : Nat) (u : World) (h0 : Row u u.heap.size A1 (strs (inB ss))) (hq : Row u u.heap.size B (ints z)) => parts_sum A1 (inB ss) c1 B z d u h0 hq hz (begs_Sh8 h1) (by omega)
      generalize inB ss = ws at hin hsum hlen ⊢
      generalize W.low (W.suL z W.oneT ws) (W.wtT z ^ 8) = pq at hsum ⊢
      obtain ⟨p, q⟩ := pq
      dsimp only at hsum ⊢
      replace hin := Lib.hid hin
      replace hsum := Lib.hid hsum
      clear hyes h1 hz
      go_enter Tryd.func23, Tryd.ntmps23
      go_wp2_with fail
      refine hc.out.mono ?_
      rintro e w1 ⟨rfl, hB1⟩
      have hw1 := Lib.hid (hwt.out w1 ((hr2.out.below hB1).more hB1.size))
      have H1 := Lib.hid hB1
      clear hB1
      have hin1 := Lib.hid (hin.out w1 ((hr0.out.below H1.out).more H1.out.size))
      go_wp2_with (go_at_call 29; refine hw1.out.mono ?_; rintro e w' ⟨rfl, rfl⟩)
      refine hin1.out.mono ?_
      rintro e w2 ⟨A1, c1, rfl, ho1, hB2'⟩
      have H2 := Lib.hid (H1.out.trans (hB2'.mono H1.out.size))
      have hs1 := Lib.hid (hsum.out A1 c1 w2 (Row.of_own ho1) ((hr2.out.below H2.out).more H2.out.size))
      clear ho1 hB2'
      go_wp2_with fail
      refine hs1.out.mono ?_
      rintro e w3 ⟨rfl, hB3'⟩
      have hB3 := H2.out.trans (hB3'.mono H2.out.size)
      have hB4 := Lib.hid (hB.out.trans (hB3.mono hB.out.size))
      obtain ⟨c0, c1', f0, f1⟩ := res_cells hB3
      clear hB3' hB3
      go_wp2
      exact bodyPost_ret (v := .tuple #[ratV p q, .bool true]) (by simp [results, Tryd.results23, go_sem, c0, c1']) rfl ⟨rfl, (hB4.out.setCell (Nat.le_refl _) _).setCell (Nat.le_refl _) _⟩
end Go.Proofs.YthhiegcdocjfkaaDoor
