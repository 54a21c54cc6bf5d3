/-
  WHAT THIS FILE PROVES: the program's first ordered lengths of least cost: they are what the plain search finds; asked: a slice of weights in memory.
-/
import Derived.Test.YthkkneboblhmlaaFsI
import Derived.Test.YthkkneboblhmlaaBeI
import Derived.Test.YthkkneboblhmlaaTot
import Derived.Test.YthkkneboblhmlaaOlI
import Derived.Test.YthkkneboblhmlaaTcJ
import Derived.Test.YthkkneboblhmlaaSSMem
import Derived.Deep.RegionHeld3
import Derived.Laws.EntriesVeiled
import Derived.RegionTactic
import Derived.BigRegion
namespace Go.Proofs.Ythkkneboblhmlaa
open Go.RowKit Go.Shelf

/-- what the search's first test has captured lies in three boxes -/
def Boxed (z : List Int) (C : Int) (A : Option Addr) (c bw bc bk : Nat) (u : World) : Prop :=
  u.cell? ⟨bw, 0, none⟩ = some (.slice A z.length c) ∧ u.cell? ⟨bc, 0, none⟩ = some (.int .i64 C) ∧ u.cell? ⟨bk, 0, none⟩ = some (.func (.func 21) #[] #[]) ∧ bw < u.heap.size ∧ bc < u.heap.size ∧ bk < u.heap.size
theorem Boxed.below {z : List Int} {C : Int} {A : Option Addr} {c bw bc bk : Nat} {u u' : World} (h : Boxed z C A c bw bc bk u) (hB : Below u.heap.size u u') : Boxed z C A c bw bc bk u' := by
  obtain ⟨h1, h2, h3, h4, h5, h6⟩ := h
  have hs := hB.size
  exact ⟨(hB.cell (p := ⟨bw, 0, none⟩) h4).trans h1, (hB.cell (p := ⟨bc, 0, none⟩) h5).trans h2, (hB.cell (p := ⟨bk, 0, none⟩) h6).trans h3, by omega, by omega, by omega⟩
theorem toI_all {l : List Nat} (h : ∀ x ∈ l, 1 ≤ x ∧ x ≤ 11) : (W.toI l).all (fun x => decide (1 ≤ x ∧ x ≤ 11)) = true := by
  rw [List.all_eq_true]
  intro x hx
  unfold W.toI at hx
  obtain ⟨y, hy, rfl⟩ := List.mem_map.1 hx
  have := h y hy
  rw [decide_eq_true_eq]
  omega
theorem Row.dropI {w : World} {B b off : Nat} {z : List Int} (k : Nat) (h : Row w B (some ⟨b, off, none⟩) (ints z)) : Row w B (some ⟨b, off + k, none⟩) (ints (z.drop k)) := fun hl => by
  rw [ints_length, List.length_drop] at hl
  obtain ⟨b', off', e, hb, hc⟩ := h (by rw [ints_length]; omega)
  cases e
  exact ⟨b, off + k, rfl, hb, fun j u hj => by
    have := hc (k + j) u (by
      unfold ints at hj ⊢
      rw [List.map_drop, List.getElem?_drop] at hj
      exact hj)
    rw [Nat.add_assoc]
    exact this⟩
set_option maxHeartbeats 6400000 in
theorem may_begin (z : List Int) (C : Int) (A : Option Addr) (c bw bc bk : Nat) (hz : W.beN 100 z = true) (hcap : z.length ≤ c) (l : List Nat) (B : Option Addr) (d : Nat) (u : World) (hX : Boxed z C A c bw bc bk u)
    (h : Row u u.heap.size A (ints z)) (g : Row u u.heap.size B (ints (W.toI l))) (h1 : 1 ≤ l.length) (hl : l.length ≤ z.length) (ha : ∀ x ∈ l, 1 ≤ x ∧ x ≤ 11) :
    Calls Try.prog 47 #[.slice B l.length d, .pointer (some ⟨bw, 0, none⟩), .pointer (some ⟨bc, 0, none⟩), .pointer (some ⟨bk, 0, none⟩)] u fun e u' => e = .returned (.bool (W.mbB z C l)) ∧ Below u.heap.size u u' := by
  obtain ⟨⟨hz1, hz12⟩, hza⟩ := W.beN_parts hz
  have hla := toI_all ha
  have hll := W.toI_len l
  obtain ⟨b, off, rfl, hb, _⟩ := Row.int_at h (by omega)
  have hco := fun (u' : World) (hu : Below u.heap.size u u') => impl_costOf (some ⟨b, off, none⟩) B z (W.toI l) c d u' ((h.below hu).more hu.size) ((g.below hu).more hu.size) hza hla (by omega) hz12
  rw [hll] at hco
  have har := fun (u' : World) (hu : Below u.heap.size u u') => impl_areOrdered B (W.toI l) d u' ((g.below hu).more hu.size) hla (by omega)
  rw [hll] at har
  have hzs : ∀ x ∈ z.drop l.length, 0 ≤ x ∧ x ≤ 100000 := fun x hx => by
    have := List.all_eq_true.1 hza x (List.mem_of_mem_drop hx)
    rw [decide_eq_true_eq] at this
    omega
  have hto : ∀ (F : Option Addr) (e : Nat), Row u u.heap.size F (ints (z.drop l.length)) → Calls Try.prog 38 #[.slice F (z.length - l.length) e] u fun e w' => e = .returned (.int .i64 (z.drop l.length).sum) ∧ u = w' := fun F e hr => impl_totalOf (z.length - l.length) F (z.drop l.length) e u (by rw [List.length_drop]) hr (by omega) hzs
  have hcb := W.costI_bounds hza hla (by omega) (by omega) (by omega) l.length (by omega)
  rw [List.take_of_length_le (by omega)] at hcb
  have hsb := W.sum_take_le (B := 100000) (by omega) hzs (z.drop l.length).length (Nat.le_refl _)
  rw [List.take_length, List.length_drop] at hsb
  have hdr := h.dropI l.length
  have hmb : W.mbB z C l = (decide (W.costI z (W.toI l) + (z.drop l.length).sum ≤ C) && W.isOl (W.toI l)) := rfl
  rw [hmb]
  obtain ⟨x1, x2, x3, hx4, hx5, hx6⟩ := hX
  have hdz : z.length = l.length → z.drop l.length = [] := fun e => by rw [← e, List.drop_length]
  have hto0 : z.length = l.length → ∀ (F : Option Addr) (e : Nat), Row u u.heap.size F (ints (z.drop l.length)) := fun e F _ => by
    rw [hdz e]
    intro h
    simp [ints] at h
  have hX2 : Hid (Boxed z C (some ⟨b, off, none⟩) c bw bc bk u) := ⟨x1, x2, x3, hx4, hx5, hx6⟩
  generalize W.costI z (W.toI l) = co at hco hcb ⊢
  generalize W.isOl (W.toI l) = ol at har ⊢
  have htoA := Lib.hid (fun e => hto (some ⟨b, off + l.length, none⟩) e hdr)
  have htoB := Lib.hid (fun (e0 : z.length = l.length) e => hto (some ⟨b, off, none⟩) e (hto0 e0 _ 0))
  generalize (z.drop l.length).sum = sm at htoA htoB hsb ⊢
  have hs0 : 0 ≤ sm := hsb.1
  have hs1 : sm ≤ 1200000 := by
    have h3 : ((z.length - l.length : Nat) : Int) * 100000 ≤ 12 * 100000 := Int.mul_le_mul_of_nonneg_right (by omega) (by decide)
    omega
  have hc0 := hcb.1
  have hc1 : co ≤ 100000000 := by omega
  clear hcb hsb hto hto0 hdz hzs hdr hmb h g hz hza hla ha
  replace hco := Lib.hid hco
  replace har := Lib.hid har
  replace hll := Lib.hid hll
  have e1 : IntKind.i64.wrap (co + sm) = co + sm := IntWalk.i64_in _ (by omega)
  have hlz : (l.length : Int) ≤ (z.length : Int) := by omega
  have hlc : (l.length : Int) ≤ (c : Int) := by omega
  have hB0 := Lib.hid (Below.refl u.heap.size u)
  by_cases hcl : c = l.length
  · have hzl : z.length = l.length := by omega
    have hto1 := htoB.out hzl 0
    rw [show z.length - l.length = 0 by omega] at hto1
    replace hto1 := Lib.hid hto1
    subst hcl
    replace hzl := Lib.hid hzl
    by_cases hle : co + sm ≤ C
    · rw [decide_eq_true hle, Bool.true_and]
      go_enter Try.func47, Try.ntmps47
      go_wp2_with fail
      skip
      refine (hto1.out).mono ?_
      rintro e w' ⟨rfl, rfl⟩
      go_wp2
      go_region_held3 (fun w' => w'.cell? ⟨bw, 0, none⟩ = some (.slice (some ⟨b, off, none⟩) z.length l.length) ∧ w'.cell? ⟨bc, 0, none⟩ = some (.int .i64 C) ∧ w'.cell? ⟨bk, 0, none⟩ = some (.func (.func 21) #[] #[])) (first | exact ⟨x1, x2, x3⟩ | exact ⟨(hB2.cell (p := ⟨bw, 0, none⟩) hx4).trans x1, (hB2.cell (p := ⟨bc, 0, none⟩) hx5).trans x2, (hB2.cell (p := ⟨bk, 0, none⟩) hx6).trans x3⟩ | go_keep) (first | (go_at_call 48; refine (hco.out _ (by first | exact Below.refl _ _ | exact (Below.refl _ _).drew)).mono ?_; rintro e w' ⟨rfl, rfl⟩) | (go_at_call 21; refine (har.out _ (by first | exact Below.refl _ _ | exact (Below.refl _ _).drew)).mono ?_; rintro e w2 ⟨rfl, hB2⟩))
      all_goals
        replace hB2 := Lib.hid hB2
        go_wp2
        go_ret
        first | exact ⟨rfl, hB2.out⟩ | exact ⟨rfl, ((Below.refl _ _).drew).trans hB2.out⟩
    · rw [decide_eq_false hle, Bool.false_and]
      have hd : decide (co + sm ≤ C) = false := decide_eq_false hle
      go_enter Try.func47, Try.ntmps47
      go_wp2_with fail
      skip
      refine (hto1.out).mono ?_
      rintro e w' ⟨rfl, rfl⟩
      go_wp2
      go_quiet ((go_at_call 48; refine (hco.out _ (below_drewN hB0.out _)).mono ?_; rintro e w' ⟨rfl, rfl⟩; exact ⟨rfl, _, rfl⟩))
      go_wp2
      go_ret
      exact ⟨rfl, below_drewN hB0.out _⟩
  · have hto1 := Lib.hid (htoA.out (c - l.length))
    by_cases hle : co + sm ≤ C
    · rw [decide_eq_true hle, Bool.true_and]
      go_enter Try.func47, Try.ntmps47
      go_wp2_with fail
      skip
      refine (hto1.out).mono ?_
      rintro e w' ⟨rfl, rfl⟩
      go_wp2
      go_region_held3 (fun w' => w'.cell? ⟨bw, 0, none⟩ = some (.slice (some ⟨b, off, none⟩) z.length c) ∧ w'.cell? ⟨bc, 0, none⟩ = some (.int .i64 C) ∧ w'.cell? ⟨bk, 0, none⟩ = some (.func (.func 21) #[] #[])) (first | exact ⟨x1, x2, x3⟩ | exact ⟨(hB2.cell (p := ⟨bw, 0, none⟩) hx4).trans x1, (hB2.cell (p := ⟨bc, 0, none⟩) hx5).trans x2, (hB2.cell (p := ⟨bk, 0, none⟩) hx6).trans x3⟩ | go_keep) (first | (go_at_call 48; refine (hco.out _ (by first | exact Below.refl _ _ | exact (Below.refl _ _).drew)).mono ?_; rintro e w' ⟨rfl, rfl⟩) | (go_at_call 21; refine (har.out _ (by first | exact Below.refl _ _ | exact (Below.refl _ _).drew)).mono ?_; rintro e w2 ⟨rfl, hB2⟩))
      all_goals
        replace hB2 := Lib.hid hB2
        go_wp2
        go_ret
        first | exact ⟨rfl, hB2.out⟩ | exact ⟨rfl, ((Below.refl _ _).drew).trans hB2.out⟩
    · rw [decide_eq_false hle, Bool.false_and]
      have hd : decide (co + sm ≤ C) = false := decide_eq_false hle
      go_enter Try.func47, Try.ntmps47
      go_wp2_with fail
      skip
      refine (hto1.out).mono ?_
      rintro e w' ⟨rfl, rfl⟩
      go_wp2
      go_quiet ((go_at_call 48; refine (hco.out _ (below_drewN hB0.out _)).mono ?_; rintro e w' ⟨rfl, rfl⟩; exact ⟨rfl, _, rfl⟩))
      go_wp2
      go_ret
      exact ⟨rfl, below_drewN hB0.out _⟩
/-- what the search's second function has laid down -/
def Laid (bf : Nat) (w0 : World) (q : List Nat) (u : World) : Prop :=
  ∃ v', u.cell? ⟨bf, 0, none⟩ = some v' ∧ u.ownsRow bf 3 1 v' q.length (ints (W.toI q)) ∧ Below bf w0 u
set_option maxHeartbeats 1600000 in
theorem fw_takes (n : Nat) (hn1 : 1 ≤ n) (hn : n ≤ 12) (bf : Nat) (w0 w2 : World) (hB0 : Below bf w0 w2) (hbf : bf < w2.heap.size) (v0 : Value) (hv0 : w2.cell? ⟨bf, 0, none⟩ = some v0) (hf : w2.frozen? ⟨bf, 0, none⟩ = false) :
    Takes n (Laid bf w0) 35 #[.pointer (some ⟨bf, 0, none⟩)] w2 := by
  intro l A c u hl hB hr
  subst hl
  obtain ⟨b, off, rfl, hb, hcc⟩ := Row.int_at hr (by rw [W.toI_len]; omega)
  have hcl := Lib.hid (Try.slices_Clone_int b off l.length c (W.toI l) u (by rw [W.toI_len]; exact Nat.le_refl _) (by omega) (fun j hj => by
    rw [hcc j hj, List.getD_eq_getElem?_getD, List.getElem?_eq_getElem hj]
    rfl))
  have htk : (W.toI l).take l.length = W.toI l := List.take_of_length_le (by rw [W.toI_len]; exact Nat.le_refl _)
  have h1 := Lib.hid ((hB.cell (p := ⟨bf, 0, none⟩) hbf).trans hv0)
  have h2 := Lib.hid ((hB.frozen (p := ⟨bf, 0, none⟩) hbf).trans hf)
  have h3 := Lib.hid (hB0.trans (hB.mono (by omega)))
  have h4 : Hid (bf < u.heap.size) := Nat.lt_of_lt_of_le hbf hB.size
  clear hcc hr
  show Calls _ _ #[.slice (some ⟨b, off, none⟩) l.length c, .pointer (some ⟨bf, 0, none⟩)] u _
  go_enter Try.func35, Try.ntmps35
  go_wp2_with fail
  refine hcl.out.mono ?_
  rintro e w' ⟨v', rfl, ho, _, hB'⟩
  rw [htk] at ho
  obtain ⟨Av, cv, rfl⟩ := own_slice ho
  have c1 := (hB'.cell (p := ⟨bf, 0, none⟩) h4.out).trans h1.out
  have f1 := (hB'.frozen (p := ⟨bf, 0, none⟩) h4.out).trans h2.out
  have H5 := Lib.hid (h3.out.trans (hB'.mono (Nat.le_of_lt h4.out)))
  have H6 := Lib.hid (own_setCell (own_base ho (Nat.le_of_lt h4.out)) ⟨bf, 0, none⟩ (.slice Av l.length cv) (fun e => by
    have := (ho.lt bf e).1
    have := h4.out
    omega))
  have H7 := Lib.hid (World.cell?_setCell_same w' ⟨bf, 0, none⟩ (.slice Av l.length cv) c1)
  clear ho hB'
  go_wp2
  go_ret
  exact ⟨rfl, _, H7.out, H6.out, H5.out.setCell (Nat.le_refl _) _⟩
theorem boxes4 (w : World) (a b d : Value) (t1 t2 t3 : TypeId) (o : Obj) : ((((w.alloc (.cells #[a] t1)).alloc (.cells #[b] t2)).alloc (.cells #[d] t3)).alloc o).cell? ⟨w.heap.size, 0, none⟩ = some a ∧ ((((w.alloc (.cells #[a] t1)).alloc (.cells #[b] t2)).alloc (.cells #[d] t3)).alloc o).cell? ⟨w.heap.size + 1, 0, none⟩ = some b ∧ ((((w.alloc (.cells #[a] t1)).alloc (.cells #[b] t2)).alloc (.cells #[d] t3)).alloc o).cell? ⟨w.heap.size + 1 + 1, 0, none⟩ = some d ∧ Below w.heap.size w ((((w.alloc (.cells #[a] t1)).alloc (.cells #[b] t2)).alloc (.cells #[d] t3)).alloc o) ∧ ((((w.alloc (.cells #[a] t1)).alloc (.cells #[b] t2)).alloc (.cells #[d] t3)).alloc o).heap.size = w.heap.size + 1 + 1 + 1 + 1 := by
  have s1 : (w.alloc (.cells #[a] t1)).heap.size = w.heap.size + 1 := Array.size_push ..
  have c1 : (w.alloc (.cells #[a] t1)).cell? ⟨w.heap.size, 0, none⟩ = some a := by rw [World.cell?_alloc_at _ _ _ _ rfl]; rfl
  have B0 : Below w.heap.size w (w.alloc (.cells #[a] t1)) := (Below.refl _ _).alloc (Nat.le_refl _) _
  generalize w.alloc (.cells #[a] t1) = w1 at s1 c1 B0 ⊢
  have s2 : (w1.alloc (.cells #[b] t2)).heap.size = w1.heap.size + 1 := Array.size_push ..
  have c2 : (w1.alloc (.cells #[b] t2)).cell? ⟨w1.heap.size, 0, none⟩ = some b := by rw [World.cell?_alloc_at _ _ _ _ rfl]; rfl
  have B1 : Below w1.heap.size w1 (w1.alloc (.cells #[b] t2)) := (Below.refl _ _).alloc (Nat.le_refl _) _
  generalize w1.alloc (.cells #[b] t2) = w2 at s2 c2 B1 ⊢
  have s3 : (w2.alloc (.cells #[d] t3)).heap.size = w2.heap.size + 1 := Array.size_push ..
  have c3 : (w2.alloc (.cells #[d] t3)).cell? ⟨w2.heap.size, 0, none⟩ = some d := by rw [World.cell?_alloc_at _ _ _ _ rfl]; rfl
  have B2 : Below w2.heap.size w2 (w2.alloc (.cells #[d] t3)) := (Below.refl _ _).alloc (Nat.le_refl _) _
  generalize w2.alloc (.cells #[d] t3) = w3 at s3 c3 B2 ⊢
  have s4 : (w3.alloc o).heap.size = w3.heap.size + 1 := Array.size_push ..
  have B3 : Below w3.heap.size w3 (w3.alloc o) := (Below.refl _ _).alloc (Nat.le_refl _) _
  generalize w3.alloc o = w4 at s4 B3 ⊢
  rw [s1] at c2 s2
  rw [s2] at c3 s3
  rw [s3] at s4
  have B23 := B2.trans (B3.mono (by omega))
  have B13 := B1.trans (B23.mono (by omega))
  refine ⟨(B13.cell (p := ⟨w.heap.size, 0, none⟩) (by show w.heap.size < _; omega)).trans c1, (B23.cell (p := ⟨w.heap.size + 1, 0, none⟩) (by show w.heap.size + 1 < _; omega)).trans c2, (B3.cell (p := ⟨w.heap.size + 1 + 1, 0, none⟩) (by show w.heap.size + 1 + 1 < _; omega)).trans c3, B0.trans (B13.mono (by omega)), s4⟩
set_option maxHeartbeats 1600000 in
theorem sw_call (C : Int) (A : Option Addr) (z : List Int) (c : Nat) (fg : Nat) (lg : Array Value) (w : World) :
    Calls Try.prog 27 #[.int .i64 C, .slice A z.length c, .func (.func 21) #[] #[], .func (.func fg) #[] lg] w fun e w' => ∃ bw bc bk, e = .returned (.agg #[.int .i64 z.length, .func (.func 47) #[] #[.pointer (some ⟨bw, 0, none⟩), .pointer (some ⟨bc, 0, none⟩), .pointer (some ⟨bk, 0, none⟩)], .func (.func fg) #[] lg]) ∧ Below w.heap.size w w' ∧ Boxed z C A c bw bc bk w' := by
  have hs3 : ∀ a b d : Obj, (((w.alloc a).alloc b).alloc d).heap.size = w.heap.size + 1 + 1 + 1 := fun a b d => by simp
  have k1 : (((((w.alloc (.cells #[.int .i64 C] 3)).alloc (.cells #[.slice A z.length c] 22)).alloc (.cells #[.func (.func 21) #[] #[]] 28)).alloc (.cells #[.int .i64 z.length, .nilFunc, .nilFunc] 42))).cell? ⟨w.heap.size + 1 + 1 + 1, 1, none⟩ = some .nilFunc := by
    rw [World.cell?_alloc_at _ _ _ _ (hs3 _ _ _).symm]; rfl
  have f1 : (((((w.alloc (.cells #[.int .i64 C] 3)).alloc (.cells #[.slice A z.length c] 22)).alloc (.cells #[.func (.func 21) #[] #[]] 28)).alloc (.cells #[.int .i64 z.length, .nilFunc, .nilFunc] 42))).frozen? ⟨w.heap.size + 1 + 1 + 1, 1, none⟩ = false := by
    rw [← hs3 (.cells #[.int .i64 C] 3) (.cells #[.slice A z.length c] 22) (.cells #[.func (.func 21) #[] #[]] 28)]
    exact World.frozen?_alloc_new _ _ _ _
  have k2 : (((((w.alloc (.cells #[.int .i64 C] 3)).alloc (.cells #[.slice A z.length c] 22)).alloc (.cells #[.func (.func 21) #[] #[]] 28)).alloc (.cells #[.int .i64 z.length, (Value.func (.func 47) #[] #[.pointer (some ⟨w.heap.size + 1, 0, none⟩), .pointer (some ⟨w.heap.size, 0, none⟩), .pointer (some ⟨w.heap.size + 1 + 1, 0, none⟩)]), .nilFunc] 42))).cell? ⟨w.heap.size + 1 + 1 + 1, 2, none⟩ = some .nilFunc := by
    rw [World.cell?_alloc_at _ _ _ _ (hs3 _ _ _).symm]; rfl
  have f2 : (((((w.alloc (.cells #[.int .i64 C] 3)).alloc (.cells #[.slice A z.length c] 22)).alloc (.cells #[.func (.func 21) #[] #[]] 28)).alloc (.cells #[.int .i64 z.length, (Value.func (.func 47) #[] #[.pointer (some ⟨w.heap.size + 1, 0, none⟩), .pointer (some ⟨w.heap.size, 0, none⟩), .pointer (some ⟨w.heap.size + 1 + 1, 0, none⟩)]), .nilFunc] 42))).frozen? ⟨w.heap.size + 1 + 1 + 1, 2, none⟩ = false := by
    rw [← hs3 (.cells #[.int .i64 C] 3) (.cells #[.slice A z.length c] 22) (.cells #[.func (.func 21) #[] #[]] 28)]
    exact World.frozen?_alloc_new _ _ _ _
  go_enter Try.func27, Try.ntmps27
  go_wp2
  have hbx := boxes4 w (.int .i64 C) (.slice A z.length c) (.func (.func 21) #[] #[]) 3 22 28 (.cells #[.int .i64 z.length, (.func (.func 47) #[] #[.pointer (some ⟨w.heap.size + 1, 0, none⟩), .pointer (some ⟨w.heap.size, 0, none⟩), .pointer (some ⟨w.heap.size + 1 + 1, 0, none⟩)]), .func (.func fg) #[] lg] 42)
  refine bodyPost_ret (v := .agg #[.int .i64 z.length, (.func (.func 47) #[] #[.pointer (some ⟨w.heap.size + 1, 0, none⟩), .pointer (some ⟨w.heap.size, 0, none⟩), .pointer (some ⟨w.heap.size + 1 + 1, 0, none⟩)]), .func (.func fg) #[] lg]) (by simp [results, Try.results27, go_sem]) rfl ⟨w.heap.size + 1, w.heap.size, w.heap.size + 1 + 1, rfl, ?_, ?_⟩
  · exact hbx.2.2.2.1
  · exact ⟨hbx.2.1, hbx.1, hbx.2.2.1, by rw [hbx.2.2.2.2]; omega, by rw [hbx.2.2.2.2]; omega, by rw [hbx.2.2.2.2]; omega⟩
set_option maxHeartbeats 3200000 in
theorem impl_firstWithin (z : List Int) (C : Int) (A : Option Addr) (c : Nat) (w : World) (h : Row w w.heap.size A (ints z)) (hz : W.beN 100 z = true) (hcap : z.length ≤ c) :
    Calls Try.prog 19 #[.int .i64 C, .slice A z.length c, .func (.func 21) #[] #[]] w (GivesInts w (W.toI ((W.dS (W.mbB z C) z.length []).getD []))) := by
  obtain ⟨⟨hz1, hz12⟩, _⟩ := W.beN_parts hz
  obtain ⟨w1, hw1⟩ : ∃ w1, w1 = w.alloc (.cells #[.slice none 0 0] 22) := ⟨_, rfl⟩
  have hB1 : Below w.heap.size w w1 := by rw [hw1]; exact (Below.refl _ _).alloc (Nat.le_refl _) _
  have hs1 : w1.heap.size = w.heap.size + 1 := by rw [hw1]; exact Array.size_push ..
  have k1 : w1.cell? ⟨w.heap.size, 0, none⟩ = some (.slice none 0 0) := by rw [hw1, World.cell?_alloc_at _ _ _ _ rfl]; rfl
  have f1 : w1.frozen? ⟨w.heap.size, 0, none⟩ = false := by rw [hw1]; exact World.frozen?_alloc_new _ _ _ _
  have hsw := Lib.hid (sw_call C A z c 35 #[.pointer (some ⟨w.heap.size, 0, none⟩)] w1)
  obtain ⟨R, hR⟩ : ∃ R, R = W.dS (W.mbB z C) z.length [] := ⟨_, rfl⟩
  rw [← hR]
  replace hR := Lib.hid hR
  have HK := Lib.hid (And.intro hB1 (And.intro hs1 (And.intro k1 f1)))
  have Hz := Lib.hid (And.intro hz (And.intro hcap (And.intro hz1 hz12)))
  replace h := Lib.hid h
  clear hB1 hs1 k1 f1 hz hcap hz1 hz12
  go_enter Try.func19, Try.ntmps19
  go_wp2_with fail
  rw [← hw1]
  refine hsw.out.mono ?_
  rintro e w2 ⟨bw, bc, bk, rfl, hB2, hX⟩
  have H2 := Lib.hid (HK.out.1.trans (hB2.mono HK.out.1.size))
  have hrun := search_run (W.mbB z C) z.length (Laid w.heap.size w) 47 35 #[.pointer (some ⟨bw, 0, none⟩), .pointer (some ⟨bc, 0, none⟩), .pointer (some ⟨bk, 0, none⟩)] #[.pointer (some ⟨w.heap.size, 0, none⟩)]
    (enters_of Try.func47 (by kernel_rfl) rfl) (enters_of Try.func35 (by kernel_rfl) rfl) w2 Hz.out.2.2.1 Hz.out.2.2.2
    (fun l B d u h1 hl ha hu hg => may_begin z C A c bw bc bk Hz.out.1 Hz.out.2.1 l B d u (hX.below hu) ((h.out.below (H2.out.trans (hu.mono H2.out.size))).more (H2.out.trans (hu.mono H2.out.size)).size) hg h1 hl ha)
    (fw_takes z.length Hz.out.2.2.1 Hz.out.2.2.2 w.heap.size w w2 H2.out (by have := HK.out.2.1; have := hB2.size; omega) (.slice none 0 0) ((hB2.cell (p := ⟨w.heap.size, 0, none⟩) (by show w.heap.size < _; have := HK.out.2.1; omega)).trans HK.out.2.2.1) ((hB2.frozen (p := ⟨w.heap.size, 0, none⟩) (by show w.heap.size < _; have := HK.out.2.1; omega)).trans HK.out.2.2.2))
  rw [← hR.out] at hrun
  have k2 := Lib.hid ((hB2.cell (p := ⟨w.heap.size, 0, none⟩) (by show w.heap.size < _; have := HK.out.2.1; omega)).trans HK.out.2.2.1)
  have hlt2 : Hid (w.heap.size < w2.heap.size) := by show _ < _; have := HK.out.2.1; have := hB2.size; omega
  replace hrun := Lib.hid hrun
  clear hB2 hX hsw hw1
  go_wp2_with fail
  refine hrun.out.mono ?_
  rintro e w3 ⟨rfl, hE⟩
  cases R with
  | none =>
    have hB3 : Below w2.heap.size w2 w3 := hE
    have k3 := (hB3.cell (p := ⟨w.heap.size, 0, none⟩) hlt2.out).trans k2.out
    have H3 := Lib.hid (H2.out.trans (hB3.mono H2.out.size))
    clear hE hB3
    go_wp2
    go_ret
    exact ⟨none, 0, rfl, World.ownsRow_nil _ _ _ _, H3.out⟩
  | some q =>
    obtain ⟨v', k3, ho, hB3⟩ := (show Laid w.heap.size w q w3 from hE)
    obtain ⟨Av, cv, rfl⟩ := own_slice ho
    have H3 := Lib.hid (And.intro ho hB3)
    clear hE ho hB3
    go_wp2
    go_ret
    exact ⟨Av, cv, by rw [W.toI_len]; rfl, by rw [W.toI_len]; exact H3.out.1, H3.out.2⟩
end Go.Proofs.Ythkkneboblhmlaa
