/-
  WHAT THIS FILE PROVES: the program's search of lists in lexicographic order, up to the first one that is taken: what it hands to the function that takes it; asked: function values that tell whether a list may begin so, and that take one.
-/
import Derived.Test.YthkkneboblhmlaaFs
import Derived.Test.YthkkneboblhmlaaIn
import Derived.Test.YthkkneboblhmlaaMemI
import Derived.Deep.LoopGhost
import Derived.Maps.AppendAt
import Derived.OwnWalk
import Derived.BigQuiet
namespace Go.Proofs.Ythkkneboblhmlaa
open Go.RowKit Go.Shelf

/-- a slice of one's own, its last elements left out -/
theorem own_shorter {w : World} {base e n c : Nat} {g : Nat} {vs : List Value} (h : w.ownsRow base e 1 (.slice (some ⟨g, 0, none⟩) n c) n vs) (m : Nat) (hm : m ≤ n) : w.ownsRow base e 1 (.slice (some ⟨g, 0, none⟩) m c) m (vs.take m) := by
  refine ⟨by have := h.1; rw [List.length_take]; omega, ?_⟩
  rcases h.2 with ⟨e0, _⟩ | ⟨g', cap, cur, e0, hg, hblk, hcap, hmx, hcs, htk⟩
  · injection e0 with e1 _ _
    cases e1
  · injection e0 with e1 e2 e3
    refine .inr ⟨g', cap, cur, ?_, hg, hblk, by omega, hmx, hcs, ?_⟩
    · rw [e1, e3]
    · rw [← htk, Nat.mul_one, Nat.mul_one, List.take_take]
      congr 1
      omega
section
variable (M : List Nat → Bool) (n : Nat) (Res : List Nat → World → Prop)
/-- a function value tells whether a list may begin so -/
def MayB (g : Nat) (lb : Array Value) (w : World) : Prop :=
  ∀ (l : List Nat) (A : Option Addr) (c : Nat) (u : World), 1 ≤ l.length → l.length ≤ n → (∀ x ∈ l, 1 ≤ x ∧ x ≤ 11) → Below w.heap.size w u → Row u u.heap.size A (ints (W.toI l)) →
    Calls Try.prog g (#[.slice A l.length c] ++ lb) u fun e u' => e = .returned (.bool (M l)) ∧ Below u.heap.size u u'
/-- a function value takes a list and asks for no other -/
def Takes (g : Nat) (lb : Array Value) (w : World) : Prop :=
  ∀ (l : List Nat) (A : Option Addr) (c : Nat) (u : World), l.length = n → Below w.heap.size w u → Row u u.heap.size A (ints (W.toI l)) →
    Calls Try.prog g (#[.slice A l.length c] ++ lb) u fun e u' => e = .returned (.bool false) ∧ Res l u'
/-- the search has ended -/
def Ended (R : Option (List Nat)) (w w' : World) : Prop := match R with
  | some q => Res q w'
  | none => Below w.heap.size w w'
end
theorem one_int (x : Int) : ∀ u ∈ [Value.int .i64 x], u.oneCell' = true := fun u hu => by
  simp only [List.mem_cons, List.mem_nil_iff, or_false] at hu
  subst hu
  rfl
theorem cells_int (w : World) (x : Int) (t : TypeId) : ∀ (j : Nat) u, [Value.int .i64 x][j]? = some u → (w.alloc (.cells #[.int .i64 x] t)).cell? ((⟨w.heap.size, 0, none⟩ : Addr).add j) = some u := fun j u hu => by
  have hj : j = 0 := by
    have := (List.getElem?_eq_some_iff.1 hu).1
    simpa using this
  subst hj
  simp at hu
  subst hu
  show (w.alloc (.cells #[.int .i64 x] t)).cell? ⟨w.heap.size, 0, none⟩ = _
  rw [World.cell?_alloc_at _ _ _ _ rfl]
  rfl
set_option maxHeartbeats 6400000 in
theorem search_run (M : List Nat → Bool) (n : Nat) (Res : List Nat → World → Prop) (fm fg : Nat) (lm lg : Array Value) (em : ∀ args w, (callFunc fm args).run Try.prog w = .ok (.enter fm args) w) (eg : ∀ args w, (callFunc fg args).run Try.prog w = .ok (.enter fg args) w)
    (w : World) (hn1 : 1 ≤ n) (hn : n ≤ 12) (hm : MayB M n fm lm w) (hg : Takes n Res fg lg w) :
    Calls Try.prog 29 #[.agg #[.int .i64 n, .func (.func fm) #[] lm, .func (.func fg) #[] lg]] w fun e w' => e = .returned (.tuple #[]) ∧ Ended Res (W.dS M n []) w w' := by
  obtain ⟨R, hR⟩ : ∃ R, R = W.dS M n [] := ⟨_, rfl⟩
  rw [← hR]
  obtain ⟨i0, hi, hz0, hz1, hz2⟩ := info_parts infoInt
  have HR := Lib.hid (And.intro hi (And.intro hz0 (And.intro hz1 hz2)))
  obtain ⟨wb, hwb⟩ : ∃ wb, wb = w.alloc (.cells #[.int .i64 (n : Int), .func (.func fm) #[] lm, .func (.func fg) #[] lg] 42) := ⟨_, rfl⟩
  have hBb : Below w.heap.size w wb := by rw [hwb]; exact (Below.refl _ _).alloc (Nat.le_refl _) _
  have hszb : wb.heap.size = w.heap.size + 1 := by rw [hwb]; exact Array.size_push ..
  have b0 : wb.cell? ⟨w.heap.size, 0, none⟩ = some (.int .i64 (n : Int)) := by rw [hwb, World.cell?_alloc_at _ _ _ _ rfl]; rfl
  have b1 : wb.cell? ⟨w.heap.size, 1, none⟩ = some (.func (.func fm) #[] lm) := by rw [hwb, World.cell?_alloc_at _ _ _ _ rfl]; rfl
  have b2 : wb.cell? ⟨w.heap.size, 2, none⟩ = some (.func (.func fg) #[] lg) := by rw [hwb, World.cell?_alloc_at _ _ _ _ rfl]; rfl
  have Hb := Lib.hid (And.intro hBb (And.intro hszb (And.intro b0 (And.intro b1 b2))))
  have hown0 : (wb.alloc (.cells #[.int .i64 0] 3)).ownsRow wb.heap.size 3 1 (.slice (some ⟨wb.heap.size, 0, none⟩) 1 1) 1 (ints (W.toI [0])) := World.ownsRow_lit wb #[.int .i64 0] 1 (Nat.le_refl _) (by unfold maxLen; omega) rfl
  have hB0 := Lib.hid (And.intro hown0 ((Below.refl wb.heap.size wb).alloc (Nat.le_refl _) (.cells #[.int .i64 0] 3)))
  have hst := Lib.hid (hR.trans (W.rS_start M n hn1).symm)
  have hszb2 : Hid (wb.heap.size = w.heap.size + 1) := hszb
  clear hi hz0 hz1 hz2 hBb hszb b0 b1 b2 hown0 hR
  replace hm := Lib.hid hm
  replace hg := Lib.hid hg
  obtain ⟨μ, hμ⟩ : ∃ μ, μ = W.muS n [0] + 1 := ⟨_, rfl⟩
  have hμ2 := Lib.hid hμ
  clear hμ
  go_enter Try.func29, Try.ntmps29
  go_wp2
  rw [← hwb]
  clear hwb
  go_step3
  go_wp2
  go_step3
  go_wp2
  go_loopg [2] μ (fun gk v wr => ∃ (ls : List Nat), Hid (W.muS n ls < gk) ∧ Hid (R = W.rst M n ls) ∧ Hid ((∀ x ∈ ls.tail, 1 ≤ x ∧ x ≤ 11) ∧ ∀ x ∈ ls, x ≤ 11) ∧ ls.length ≤ n ∧ wr.ownsRow wb.heap.size 3 1 v ls.length (ints (W.toI ls.reverse)) ∧ Below wb.heap.size wb wr)
  case atStart => exact ⟨[0], (by show _ < μ; rw [hμ2.out]; exact Nat.lt_succ_self _), hst.out, ⟨(fun x hx => by cases hx), (fun x hx => by rw [List.mem_singleton] at hx; omega)⟩, hn1, hB0.out.1, hB0.out.2⟩
  case round =>
    obtain ⟨ls, hmu, hRl, hE, hll, hV, hB⟩ := hrel
    generalize wr = wo at *
    clear hst hB0
    rcases ls with _ | ⟨x, rp⟩
    · have hend := Lib.hid (show Ended Res R w wo by
        rw [hRl.out]
        exact Hb.out.1.trans (hB.mono (by have := Hb.out.1.size; exact this)))
      obtain ⟨Av, cv, rfl⟩ := own_slice hV
      have e0 : (([] : List Nat).length : Int) = 0 := rfl
      clear hV hB
      go_wp2
      rw [Exit.noGoto_normal]
      go_end0
      exact ⟨rfl, hend.out⟩
    · obtain ⟨Av, cv, rfl⟩ := own_slice hV
      obtain ⟨g0, rfl, hg0, hg1⟩ := own_form hV (by rw [List.length_cons]; omega)
      have hlen : (x :: rp).length = rp.length + 1 := rfl
      rw [hlen] at hV hll ⊢
      have hO := Lib.hid (And.intro hV hB)
      have hpos : (0 : Int) < ((rp.length + 1 : Nat) : Int) := by omega
      have hcap := own_cap hV
      have hx11 := hE.out.2 x List.mem_cons_self
      have hrp := Lib.hid hE.out.1
      clear hV hB hE
      go_wp2
      go_loopg [2] (12 - x) (fun g2 v wr => ∃ y : Nat, y ≤ 11 ∧ g2 = 12 - y ∧ v = .slice (some ⟨g0, 0, none⟩) (rp.length + 1) cv ∧ Hid (R = W.rS M n rp y) ∧ Hid (W.muS n (y :: rp) < gk) ∧ wr.ownsRow wb.heap.size 3 1 (.slice (some ⟨g0, 0, none⟩) (rp.length + 1) cv) (rp.length + 1) (ints (W.toI (y :: rp).reverse)) ∧ Below wb.heap.size wb wr)
      case atStart => exact ⟨x, hx11, rfl, rfl, hRl, hmu, hO.out.1, hO.out.2⟩
      case round =>
        obtain ⟨y, hy, rfl, rfl, hRy, hmuy, hV, hB⟩ := hrel
        have hgk : 1 ≤ gk := by have := hmuy.out; omega
        generalize wr = wi at *
        have cy := hV.cellAt rp.length (by omega)
        have hyl : (ints (W.toI (y :: rp).reverse))[rp.length]? = some (.int .i64 (y : Int)) := by
          unfold ints
          rw [List.getElem?_map, W.toI_last]
          rfl
        rw [hyl] at cy
        have hfz := hV.frozenAt rp.length
        by_cases hlt : y < 11
        · have hlt' : (y : Int) < 11 := by omega
          have hst1 := hV.stored rp.length (.int .i64 ((y : Int) + 1))
          rw [ints_set, show ((y : Int) + 1) = ((y + 1 : Nat) : Int) by omega, W.toI_set] at hst1
          have hsz := hB.size
          have hO1 := Lib.hid (And.intro hst1.1 (hB.grown hst1.2 hsz (fun k hk => by injection hk with hk; omega)))
          have hall := Lib.hid (show ∀ z ∈ ((y + 1) :: rp).reverse, 1 ≤ z ∧ z ≤ 11 from fun z hz => by
            rw [List.mem_reverse] at hz
            rcases List.mem_cons.1 hz with rfl | hz
            · omega
            · exact hrp.out z hz)
          have hrl := Lib.hid (show ((y + 1) :: rp).reverse.length = rp.length + 1 by rw [List.length_reverse]; rfl)
          have ey : ((y : Int) + 1) = ((y + 1 : Nat) : Int) := by omega
          obtain ⟨wk, hwk⟩ : ∃ wk, wk = wi.setCell ⟨g0, rp.length, none⟩ (.int .i64 ((y + 1 : Nat) : Int)) := ⟨_, rfl⟩
          have hwk2 : wi.setCell ⟨g0, rp.length, none⟩ (.int .i64 ((y : Int) + 1)) = wk := by rw [hwk, ey]
          have hO2 : Hid (wk.ownsRow wb.heap.size 3 1 (.slice (some ⟨g0, 0, none⟩) (rp.length + 1) cv) (rp.length + 1) (ints (W.toI ((y + 1) :: rp).reverse)) ∧ Below wb.heap.size wb wk) := by rw [hwk]; exact hO1.out
          have hBw := Lib.hid (Hb.out.1.trans (hO2.out.2.mono Hb.out.1.size))
          have k1 := (hO2.out.2.cell (p := ⟨w.heap.size, 1, none⟩) (by have := hszb2.out; show w.heap.size < _; omega)).trans Hb.out.2.2.2.1
          have hmc := hm.out ((y + 1) :: rp).reverse (some ⟨g0, 0, none⟩) cv wk (by rw [hrl.out]; omega) (by rw [hrl.out]; omega) hall.out hBw.out (by
            have := Row.of_own hO2.out.1
            exact this)
          rw [hrl.out] at hmc
          have hmu1 := Lib.hid (Nat.lt_of_le_of_lt (Nat.le_of_lt (W.mu_incr (n := n) (rp := rp) hlt)) hmuy.out)
          have Hsk := Lib.hid (fun h => hRy.out.trans (W.rS_skip (M := M) (n := n) (rp := rp) hlt h))
          have Hpu := Lib.hid (fun h h2 => hRy.out.trans (W.rS_push (M := M) (n := n) (rp := rp) hlt h h2))
          have Hfo := Lib.hid (fun h h2 => hRy.out.trans (W.rS_found (M := M) (n := n) (rp := rp) hlt h h2))
          clear hV hB hst1 hO1 ey hwk hO hyl
          cases hMq : M ((y + 1) :: rp).reverse
          · rw [hMq] at hmc
            replace hmc := Lib.hid hmc
            have HN := Lib.hid (Hsk.out hMq)
            clear hMq
            go_wp2_with fail
            refine hmc.out.mono ?_
            rintro e w2 ⟨rfl, hB2⟩
            have hO3 := Lib.hid (And.intro (own_below hO2.out.1 hB2) (hO2.out.2.trans (hB2.mono hO2.out.2.size)))
            clear hB2 hO2 k1
            go_wp2
            go_roundg (12 - (y + 1))
            case measure => omega
            case rel => exact ⟨y + 1, by omega, rfl, rfl, HN, hmu1, hO3.out.1, hO3.out.2⟩
          · rw [hMq] at hmc
            replace hmc := Lib.hid hmc
            by_cases hfull : rp.length + 1 < n
            · have hfull' : (rp.length : Int) + 1 < (n : Int) := by omega
              have HN := Lib.hid (Hpu.out hMq hfull)
              have hmu2 := Lib.hid (show W.muS n (0 :: (y + 1) :: rp) < gk - 1 from by
                have h1 := W.mu_push (n := n) (rp := rp) (x := y) (y := y + 1) (by omega) (by omega) (by omega)
                have h2 := hmuy.out
                omega)
              clear hMq
              go_wp2_with fail
              refine hmc.out.mono ?_
              rintro e w2 ⟨rfl, hB2⟩
              have hO3 := Lib.hid (And.intro (own_below hO2.out.1 hB2) (hO2.out.2.trans (hB2.mono hO2.out.2.size)))
              have k0 := (hO3.out.2.cell (p := ⟨w.heap.size, 0, none⟩) (by have := hszb2.out; show w.heap.size < _; omega)).trans Hb.out.2.2.1
              have hsz3 := hO3.out.2.size
              clear hB2 hO2 k1
              go_wp2_with (at_builtin; refine wpList_append_own _ rfl _ _ 22 rfl wb.heap.size 3 i0 (.int .i64 0) 1 8 Try.underlying22 HR.out.1 HR.out.2.1 HR.out.2.2.1 HR.out.2.2.2 rfl (by decide) (.slice (some ⟨g0, 0, none⟩) (rp.length + 1) cv) (rp.length + 1) (ints (W.toI ((y + 1) :: rp).reverse)) rfl (hO3.out.1.alloc _) ⟨w2.heap.size, 0, none⟩ 1 1 [.int .i64 0] rfl rfl (cells_int _ _ _) (one_int _) (by unfold maxLen; omega) (by omega) (by simp; omega) ?_)
              intro v5 w5 ho5 hg5 _
              have hlt5 := hO3.out.1.lt
              have hO5 := Lib.hid (And.intro ho5 ((hO3.out.2.alloc hsz3 _).grown hg5 (by simp; omega) (fun g hg => (hlt5 g hg).1)))
              have hsn := Lib.hid (show ints (W.toI (0 :: (y + 1) :: rp).reverse) = ints (W.toI ((y + 1) :: rp).reverse) ++ [.int .i64 0] by
                rw [W.rev_cons 0 ((y + 1) :: rp), W.toI_snoc, ints_snoc]
                rfl)
              clear ho5 hg5 hO3 k0 hlt5
              go_wp2
              go_roundg (gk - 1)
              case measure => omega
              case rel => exact ⟨0 :: (y + 1) :: rp, hmu2, HN, ⟨(fun z hz => hall.out z (List.mem_reverse.2 hz)), (fun z hz => by
                rcases List.mem_cons.1 hz with rfl | hz
                · omega
                · exact (hall.out z (List.mem_reverse.2 hz)).2)⟩, hfull, by rw [hsn.out]; first | exact hO5.out.1 | (rw [W.rev_cons (y + 1) rp]; exact hO5.out.1), hO5.out.2⟩
            · have hfull' : ¬ ((rp.length : Int) + 1 < (n : Int)) := by omega
              have hnn : Hid (rp.length + 1 = n) := (by omega : rp.length + 1 = n)
              have HN := Lib.hid (Hfo.out hMq hnn.out)
              clear hMq
              go_wp2_with fail
              refine hmc.out.mono ?_
              rintro e w2 ⟨rfl, hB2⟩
              have hO3 := Lib.hid (And.intro (own_below hO2.out.1 hB2) (hO2.out.2.trans (hB2.mono hO2.out.2.size)))
              have k0 := (hO3.out.2.cell (p := ⟨w.heap.size, 0, none⟩) (by have := hszb2.out; show w.heap.size < _; omega)).trans Hb.out.2.2.1
              have k2 := (hO3.out.2.cell (p := ⟨w.heap.size, 2, none⟩) (by have := hszb2.out; show w.heap.size < _; omega)).trans Hb.out.2.2.2.2
              have hgc := hg.out ((y + 1) :: rp).reverse (some ⟨g0, 0, none⟩) cv w2 (by rw [hrl.out]; exact hnn.out) (Hb.out.1.trans (hO3.out.2.mono Hb.out.1.size)) (Row.of_own hO3.out.1)
              rw [hrl.out] at hgc
              replace hgc := Lib.hid hgc
              clear hB2 hO2 k1
              go_wp2_with fail
              refine hgc.out.mono ?_
              rintro e w5 ⟨rfl, hres⟩
              have hend := Lib.hid (show Ended Res R w w5 by rw [HN.out]; exact hres)
              clear hres hO3 k0 k2
              go_wp2
              first | rw [Exit.noGoto_normal] | skip
              go_end0
              exact ⟨rfl, hend.out⟩
        · have hy11 : y = 11 := by omega
          subst hy11
          have HN := Lib.hid (hRy.out.trans (W.rst_pop M n rp))
          have hmu2 := Lib.hid (show W.muS n rp < gk - 1 from by
            have h1 := W.mu_pop (n := n) (rp := rp)
            have h2 := hmuy.out
            omega)
          have hsh := own_shorter hV rp.length (by omega)
          have hsh2 := Lib.hid (show wi.ownsRow wb.heap.size 3 1 (.slice (some ⟨g0, 0, none⟩) rp.length cv) rp.length (ints (W.toI rp.reverse)) by
            have e : (ints (W.toI (11 :: rp).reverse)).take rp.length = ints (W.toI rp.reverse) := by
              unfold ints
              rw [← List.map_take, W.toI_take]
            rw [← e]
            exact hsh)
          replace hB := Lib.hid hB
          have hcap' : ¬ ((cv : Int) < (rp.length : Int)) := by omega
          clear hV hsh hyl hO
          go_wp2
          go_roundg (gk - 1)
          case measure => omega
          case rel => exact ⟨rp, hmu2, HN, ⟨(fun z hz => hrp.out z (List.mem_of_mem_tail hz)), (fun z hz => (hrp.out z hz).2)⟩, by omega, hsh2.out, hB.out⟩
end Go.Proofs.Ythkkneboblhmlaa
