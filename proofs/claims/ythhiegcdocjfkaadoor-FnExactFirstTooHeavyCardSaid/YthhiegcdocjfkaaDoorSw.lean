/-
  WHAT THIS FILE PROVES: sums of weights of words, each times a number: the specification's functions give what the plain ones say; asked: slices in memory, words of at most eight letters.
-/
import Derived.Test.YthhiegcdocjfkaaDoorLeR
namespace Go.Proofs.YthhiegcdocjfkaaDoor.W

/-- the parts of words, each times a number, of the sum to the power of 8 -/
def suL (z : List Int) (tf : ByteArray → Nat) (ws : List ByteArray) : Nat := (ws.map fun s => tf s * paW z s.data.toList).sum
theorem suL_zero (z : List Int) (tf : ByteArray → Nat) (ws : List ByteArray) : suL z tf (ws.take 0) = 0 := rfl
theorem suL_succ (z : List Int) (tf : ByteArray → Nat) (ws : List ByteArray) (k : Nat) (h : k < ws.length) : suL z tf (ws.take (k + 1)) = suL z tf (ws.take k) + tf (nth ws k) * paW z (nth ws k).data.toList := by
  unfold suL
  rw [List.take_succ_eq_append_getElem h, List.map_append, List.sum_append, nth_lt ws k h]
  simp
/-- words of at most eight letters -/
def Sh8 (ws : List ByteArray) : Prop := ∀ k, k < ws.length → (nth ws k).size ≤ 8 ∧ isWd (nth ws k).data.toList = true
theorem paW_all {z : List Int} (h : wtB z = true) (s : ByteArray) (hs : s.size ≤ 8) : paW z s.data.toList ≤ 100000000 := by
  have h8 : s.data.toList.length ≤ 8 := by rw [← Lib.size_eq]; exact hs
  have h1 := paW_le h s.data.toList h8 s.data.toList.length (Nat.le_refl _)
  rw [List.take_length] at h1
  unfold paW
  exact h1
theorem suL_le {z : List Int} (h : wtB z = true) (tf : ByteArray → Nat) (ws : List ByteArray) (hw : Sh8 ws) (ht : ∀ k, k < ws.length → tf (nth ws k) ≤ 8) : ∀ k, k ≤ ws.length → suL z tf (ws.take k) ≤ k * 800000000
  | 0, _ => by rw [suL_zero, Nat.zero_mul]; exact Nat.le_refl 0
  | k + 1, hk => by
    have ih := suL_le h tf ws hw ht k (by omega)
    have h1 : tf (nth ws k) * paW z (nth ws k).data.toList ≤ 8 * 100000000 := Nat.mul_le_mul (ht k (by omega)) (paW_all h _ (hw k (by omega)).1)
    rw [suL_succ z tf ws k (by omega)]
    omega
theorem set_Sh8 {ss : List ByteArray} (h : isSet ss = true) : Sh8 ss := fun k hk => by
  have h1 := isSet_short ss h k hk
  refine ⟨(short_size _ h1).2, ?_⟩
  unfold short at h1
  rw [Bool.and_eq_true] at h1
  exact h1.2
/-- what WeightedSum and MeanLength tell -/
def wsOk (ss : List ByteArray) (z : List Int) : Bool := isSet ss && wtB z
def wsOf (tf : ByteArray → Nat) (ss : List ByteArray) (z : List Int) : Nat × Nat := if wsOk ss z then low (suL z tf ss) (wtT z ^ 8) else (0, 0)
theorem wsOf_no {tf : ByteArray → Nat} {ss : List ByteArray} {z : List Int} (h : wsOk ss z = false) : wsOf tf ss z = (0, 0) := by unfold wsOf; rw [h]; rfl
theorem wsOf_yes {tf : ByteArray → Nat} {ss : List ByteArray} {z : List Int} (h : wsOk ss z = true) : wsOf tf ss z = low (suL z tf ss) (wtT z ^ 8) := by unfold wsOf; rw [h]; rfl
/-- one each -/
def oneT (_ : ByteArray) : Nat := 1
def sizT (s : ByteArray) : Nat := s.size
/-- the numbers of words as they lie in a slice -/
def tms (tf : ByteArray → Nat) (ws : List ByteArray) : List Int := ws.map fun s => ((tf s : Nat) : Int)
theorem tms_len (tf : ByteArray → Nat) (ws : List ByteArray) : (tms tf ws).length = ws.length := by simp [tms]
theorem tms_at (tf : ByteArray → Nat) (ws : List ByteArray) (k : Nat) (h : k < ws.length) : (tms tf ws)[k]? = some ((tf (nth ws k) : Nat) : Int) := by
  unfold tms
  rw [List.getElem?_map, List.getElem?_eq_getElem h, nth_lt ws k h]
  rfl
theorem tms_one (ws : List ByteArray) : tms oneT ws = List.replicate ws.length 1 := by
  show ws.map (fun _ => (1 : Int)) = _
  exact List.map_const' ..
theorem tms_size (ws : List ByteArray) : tms sizT ws = lens ws := rfl
end Go.Proofs.YthhiegcdocjfkaaDoor.W
namespace Go.Proofs.YthhiegcdocjfkaaDoor
open Go.RowKit Go.Shelf
theorem pow_part (z : List Int) (s : ByteArray) : W.prW z s.data.toList * W.wtT z ^ (8 - s.size) = W.paW z s.data.toList := by
  unfold W.paW
  rw [← Lib.size_eq, Nat.mul_comm]
theorem mul_wrapS (p q : Nat) (h : p * q ≤ 4611686018427387904) : IntKind.i64.wrap ((p : Int) * (q : Int)) = ((p * q : Nat) : Int) := by
  have h2 : ((p * q : Nat) : Int) ≤ 4611686018427387904 := by omega
  have h3 : (0 : Int) ≤ ((p * q : Nat) : Int) := by omega
  have e : ((p : Int) * (q : Int)) = ((p * q : Nat) : Int) := (Int.natCast_mul p q).symm
  rw [e]
  exact IntWalk.i64_in ((p * q : Nat) : Int) (by omega)
theorem add_wrapS (p q : Nat) (h : p ≤ 4611686018427387904) (h2 : q ≤ 1000000000000) : IntKind.i64.wrap ((p : Int) + (q : Int)) = ((p + q : Nat) : Int) := by
  rw [Int.natCast_add]
  exact IntWalk.i64_in _ (by omega)
set_option maxHeartbeats 1600000 in
theorem spec_leOnes (n : Nat) (w : World) (hn : n ≤ 1000) :
    Calls Tryd.prog 27 #[.int .i64 n] w (GivesInts w (List.replicate n 1)) := by
  obtain ⟨i0, hi, hz0, hz1, hz2⟩ := info_parts infoInt
  have HR := Lib.hid (And.intro hi (And.intro hz0 (And.intro hz1 hz2)))
  clear hi hz0 hz1 hz2
  go_enter Tryd.func27, Tryd.ntmps27
  go_wp2
  go_loopw [0, 3] (fun i v wr => ∃ k : Nat, k ≤ n ∧ i = .int .i64 ((n : Int) - k) ∧ wr.ownsRow w.heap.size 3 1 v k (ints (List.replicate k 1)) ∧ Below w.heap.size w wr)
    (fun i _ _ => (intOf i).toNat)
  case atStart => exact ⟨0, Nat.zero_le _, by simp, World.ownsRow_nil _ _ _ _, Below.refl _ _⟩
  case round =>
    obtain ⟨k, hk, rfl, ho, hB⟩ := hrel
    have hO := Lib.hid (And.intro ho hB)
    clear ho hB
    by_cases hlt : k < n
    · have hlt' : (0 : Int) < (n : Int) - k := by omega
      have Hs := Lib.hid (show List.replicate (k + 1) (1 : Int) = List.replicate k 1 ++ [1] from List.replicate_succ' ..)
      go_wp2_with (at_builtin; refine wpList_append_own _ rfl _ _ 23 rfl w.heap.size 3 i0 (.int .i64 0) 1 8 Tryd.underlying23 HR.out.1 HR.out.2.1 HR.out.2.2.1 HR.out.2.2.2 rfl (by decide) _ _ _ rfl (hO.out.1.alloc _) ⟨wr.heap.size, 0, none⟩ 1 1 [.int .i64 1] rfl rfl ?c1 ?c2 ?c3 ?c4 ?c5 ?_)
      case c1 => exact cell_one_new _ _ _
      case c2 => exact one_cell _
      case c3 => unfold maxLen; omega
      case c4 => omega
      case c5 => have := hO.out.2.size; simp; omega
      intro v' w1 hown' hgrow _
      have hO2 := Lib.hid (And.intro hown' hgrow)
      clear hown' hgrow
      go_wp2
      go_roundw
      case rel =>
        refine ⟨k + 1, by omega, by go_num, ?_, ?_⟩
        · rw [Hs.out, ints_snoc]
          exact hO2.out.1
        · have hlt := hO.out.1.lt
          exact (hO.out.2.alloc hO.out.2.size _).grown hO2.out.2 (by have := hO.out.2.size; simp; omega) (fun g hg => (hlt g hg).1)
      case measure => simp [intOf]; omega
    · obtain rfl : k = n := by omega
      have hlt' : ¬ ((0 : Int) < (k : Int) - k) := by omega
      go_wp2
      go_ret
      exact givesInts_of (by rw [List.length_replicate]; exact hO.out.1) rfl hO.out.2
set_option maxHeartbeats 1600000 in
theorem spec_leSum (tf : ByteArray → Nat) (A : Option Addr) (ws : List ByteArray) (c : Nat) (B : Option Addr) (d : Nat) (C : Option Addr) (z : List Int) (g : Nat) (w : World) (h : Row w w.heap.size A (strs ws)) (hts : Row w w.heap.size B (ints (W.tms tf ws))) (hzr : Row w w.heap.size C (ints z))
    (hz : W.wtB z = true) (hw : W.Sh8 ws) (ht : ∀ k, k < ws.length → tf (W.nth ws k) ≤ 8) (hl : ws.length ≤ 1000) :
    Calls Tryd.prog 26 #[.slice A ws.length c, .slice B ws.length d, .slice C z.length g] w fun e w' => e = .returned (ratV ((W.low (W.suL z tf ws) (W.wtT z ^ 8)).1 : Nat) ((W.low (W.suL z tf ws) (W.wtT z ^ 8)).2 : Nat)) ∧ Below w.heap.size w w' := by
  have hB := Lib.hid (leW_below w)
  have hr0 := Lib.hid ((h.below hB.out).more hB.out.size)
  have hr1 := Lib.hid hts
  have hr2 := Lib.hid ((hzr.below hB.out).more hB.out.size)
  clear h hts hzr
  have hpw := fun (j : Nat) (hj : j ≤ 8) (u : World) => spec_krPower (W.wtT z) j u (W.wtT_pow hz j hj) (by omega)
  have hto := fun (u : World) (hu : Row u u.heap.size C (ints z)) => spec_leTotal C z g u hu hz
  have hpr := fun (k : Nat) (hk : k < ws.length) (u : World) (hu : Row u u.heap.size C (ints z)) => spec_leProduct (W.nth ws k) C z g u (hw k hk).1 (hw k hk).2 hu hz
  have hSle := W.suL_le hz tf ws hw ht
  have hQ0 : 0 < W.wtT z ^ 8 := Nat.pow_pos (by have := (W.wtT_le hz).2; omega)
  have hQ := W.wtT_pow hz 8 (Nat.le_refl _) 8 (Nat.le_refl _)
  have hstep := Lib.hid (show ∀ k, k < ws.length → ∃ (t p q : Nat), tf (W.nth ws k) = t ∧ W.prW z (W.nth ws k).data.toList = p ∧ W.wtT z ^ (8 - (W.nth ws k).size) = q ∧ t * p ≤ 800000000 ∧ t * p * q ≤ 800000000 ∧ W.suL z tf (ws.take (k + 1)) = W.suL z tf (ws.take k) + t * p * q from fun k hk => by
    refine ⟨_, _, _, rfl, rfl, rfl, ?_, ?_, ?_⟩
    · have h1 := W.prW_le hz (W.nth ws k).data.toList (W.nth ws k).data.toList.length (Nat.le_refl _)
      rw [List.take_length] at h1
      have h2 := W.ten_pow (j := (W.nth ws k).data.toList.length) (n := 8) (by rw [← Lib.size_eq]; exact (hw k hk).1) (Nat.le_refl _)
      exact Nat.mul_le_mul (ht k hk) (Nat.le_trans h1 h2)
    · rw [Nat.mul_assoc, pow_part z _]
      exact Nat.mul_le_mul (ht k hk) (W.paW_all hz _ (hw k hk).1)
    · rw [Nat.mul_assoc, pow_part z _, W.suL_succ z tf ws k hk])
  have hsz := Lib.hid (fun k hk => (hw k hk).1)
  have hall := Lib.hid (show W.suL z tf (ws.take ws.length) = W.suL z tf ws by rw [List.take_length])
  have h0 := Lib.hid (W.suL_zero z tf ws)
  have hra := fun (u : World) => spec_krRatio (W.suL z tf ws) (W.wtT z ^ 8) u (by have := hSle ws.length (Nat.le_refl _); rw [List.take_length] at this; omega) hQ hQ0
  have hpw8 := Lib.hid (hpw 8 (Nat.le_refl _))
  generalize W.wtT z ^ 8 = Q at hra hpw8 ⊢
  generalize W.low (W.suL z tf ws) Q = pq at hra ⊢
  obtain ⟨p0, q0⟩ := pq
  dsimp only at hra ⊢
  replace hra := Lib.hid hra
  replace hpw := Lib.hid hpw
  replace hto := Lib.hid hto
  replace hpr := Lib.hid hpr
  replace hSle := Lib.hid hSle
  have htt := Lib.hid (fun k hk => W.tms_at tf ws k hk)
  have htl := Lib.hid (W.tms_len tf ws)
  clear hz hw ht hQ0 hQ
  go_enter Tryd.func26, Tryd.ntmps26
  go_wp2
  go_loopw [7, 12] (fun s i wr => ∃ (k q : Nat), k ≤ ws.length ∧ i = .int .i64 k ∧ s = .int .i64 q ∧ Hid (q = W.suL z tf (ws.take k)) ∧ ∃ n, wr = (leW w).drewN n) (fun _ i _ => ws.length - (intOf i).toNat)
  case atStart => exact ⟨0, 0, Nat.zero_le _, rfl, rfl, h0.out.symm, 0, rfl⟩
  case round =>
    obtain ⟨k, q, hk, rfl, rfl, hq, n, hwr⟩ := hrel
    replace hwr := Lib.hid hwr
    have hD : Hid (Below (leW w).heap.size (leW w) wr) := by rw [hwr.out]; exact below_drewN (Below.refl (leW w).heap.size (leW w)) n
    have hrz := Lib.hid (fun m => have hm := below_drewN hD.out m; (hr2.out.below hm).more hm.size)
    by_cases hlt : k < ws.length
    · obtain ⟨b, off, rfl, hb, hcc⟩ := hr0.out (by rw [strs_length]; omega)
      have c1 := (hD.out.cell (p := ⟨b, off + k, none⟩) hb).trans (hcc k _ (strs_nth ws k hlt))
      obtain ⟨b2, off2, rfl, hb2, hcc2⟩ := hr1.out (by rw [ints_length]; have := htl.out; omega)
      have hlt' : (k : Int) < (ws.length : Int) := by omega
      have c2 := hcc2 k (.int .i64 ((tf (W.nth ws k) : Nat) : Int)) (by unfold ints; rw [List.getElem?_map, htt.out k hlt]; rfl)
      have c4 := (hB.out.cell (p := ⟨b2, off2 + k, none⟩) hb2).trans c2
      have c3 := (hD.out.cell (p := ⟨b2, off2 + k, none⟩) (Nat.lt_of_lt_of_le hb2 hB.out.size)).trans c4
      clear hcc hcc2 c2 c4
      obtain ⟨t, p, r, e1, e2, e3, b1, b2', hst⟩ := hstep.out k hlt
      have hs8 := hsz.out k hlt
      have hp1 := hpr.out k hlt
      have hw1 := hpw.out (8 - (W.nth ws k).size) (by omega)
      rw [show ((8 - (W.nth ws k).size : Nat) : Int) = 8 - ((W.nth ws k).size : Int) by omega, e3] at hw1
      rw [e2] at hp1
      rw [e1] at c3
      have hqb := hSle.out k hk
      rw [← hq.out] at hqb hst
      replace hp1 := Lib.hid hp1
      replace hw1 := Lib.hid hw1
      have hst2 := Lib.hid hst
      have hkb : k * 800000000 ≤ 800000000000 := by omega
      have hq1 : q ≤ 800000000000 := Nat.le_trans hqb hkb
      clear e1 e2 e3 hst hqb hkb
      generalize W.nth ws k = x at c1 hp1 hw1 hs8
      have f1 := mul_wrapS t p (Nat.le_trans b1 (by decide))
      have f2 := mul_wrapS (t * p) r (Nat.le_trans b2' (by decide))
      have f3 := add_wrapS q (t * p * r) (Nat.le_trans hq1 (by decide)) (Nat.le_trans b2' (by decide))
      generalize t * p * r = v at f2 f3 hst2 b2'
      generalize t * p = u0 at f1 f2 b1
      clear b1 b2' hq1
      go_wp2
      go_quiet ((first | (go_at_call 42; refine (hp1.out _ (hrz.out _)).mono ?_; rintro e w' ⟨rfl, rfl⟩; exact ⟨rfl, _, rfl⟩) | (go_at_call 44; refine (hto.out _ (hrz.out _)).mono ?_; rintro e w' ⟨rfl, n2, rfl⟩; exact ⟨rfl, _, World.drewN_drewN _ _ _⟩) | (go_at_call 43; refine (hw1.out _).mono ?_; rintro e w' ⟨rfl, rfl⟩; exact ⟨rfl, _, rfl⟩)))
      go_wp2
      go_roundw
      case rel => exact ⟨k + 1, q + v, by omega, by go_num, by first | rfl | rw [f3], hst2.out.symm, n + nq, by rw [hwr.out, World.drewN_drewN]⟩
      case measure => simp [intOf]; omega
    · obtain rfl : k = ws.length := by omega
      obtain rfl := hq.out.trans hall.out
      have hto1 := Lib.hid (hto.out wr (hrz.out 0))
      go_wp2_with (first | (go_at_call 44; refine hto1.out.mono ?_; rintro e w' ⟨rfl, n2, rfl⟩) | (go_at_call 43; refine (hpw8.out _).mono ?_; rintro e w' ⟨rfl, rfl⟩))
      refine (hra.out _).mono ?_
      rintro e w2 ⟨rfl, hB2⟩
      have hD2 := below_drewN hD.out n2
      have hB3 := hD2.trans (hB2.mono hD2.size)
      have hB4 := Lib.hid (hB.out.trans (hB3.mono hB.out.size))
      obtain ⟨c0, c1, f0, f1⟩ := res_cells hB3
      clear hB2 hB3
      go_wp2
      exact bodyPost_ret (v := ratV p0 q0) (by simp [results, Tryd.results26, go_sem, c0, c1]) rfl ⟨rfl, (hB4.out.setCell (Nat.le_refl _) _).setCell (Nat.le_refl _) _⟩
end Go.Proofs.YthhiegcdocjfkaaDoor
