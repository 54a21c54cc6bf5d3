/-
  WHAT THIS FILE PROVES: the specification's search for the first word with two readings finds it; asked: a slice of texts in memory that is a set.
-/
import Derived.Test.YtiemoocdffobgaaDoorShort
import Derived.Test.YtiemoocdffobgaaDoorHas
import Derived.Test.YtiemoocdffobgaaDoorPair
import Derived.Test.YtiemoocdffobgaaDoorAppend
import Derived.Deep.LoopGhost
import Derived.Deep.RegionWith
import Derived.Deep.RegionLaw
import Derived.Deep.RegionHeld3
import Derived.Deep.RegionHeldLaw
namespace Go.Proofs.YtiemoocdffobgaaDoor
open Go.RowKit Go.Shelf
open W (le)

namespace W
theorem prefix_le {l p : List UInt8} (h : Lib.hasPrefix l p = true) : p.length ≤ l.length := (List.isPrefixOf_iff_prefix.1 (show p.isPrefixOf l = true from h)).length_le
theorem prefix_same {l p : List UInt8} (h : Lib.hasPrefix l p = true) (e : p.length = l.length) : p = l := by
  have h2 := List.isPrefixOf_iff_prefix.1 (show p.isPrefixOf l = true from h)
  exact h2.eq_of_length e
end W
theorem empty_toList (v : ByteArray) : (v.toList == []) = decide (v.size = 0) := by
  rw [Lib.toList_data, Lib.size_eq]
  cases v.data.toList <;> rfl
theorem infoPair : (Tryd.prog.info? 69).map (fun i => (i.zero, i.size, i.bytes)) = some (some (.agg #[.string ByteArray.empty, .string ByteArray.empty]), 2, 32) := by kernel_rfl
/-- the cells of a list of pairs -/
def prs (os : List (ByteArray × ByteArray)) : List Value := os.flatMap fun p => [.string p.1, .string p.2]
theorem prs_length (os : List (ByteArray × ByteArray)) : (prs os).length = os.length * 2 := by
  induction os with
  | nil => rfl
  | cons a r ih =>
    unfold prs at ih ⊢
    rw [List.flatMap_cons, List.length_append, ih, List.length_cons]
    simp
    omega
theorem prs_append (os qs : List (ByteArray × ByteArray)) : prs (os ++ qs) = prs os ++ prs qs := by simp [prs]
theorem prs_at : ∀ (os : List (ByteArray × ByteArray)) (k : Nat) (h : k < os.length), (prs os)[k * 2]? = some (.string os[k].1) ∧ (prs os)[k * 2 + 1]? = some (.string os[k].2)
  | [], _, h => by simp at h
  | a :: r, 0, _ => ⟨rfl, rfl⟩
  | a :: r, k + 1, h => by
    have ih := prs_at r k (by simpa using h)
    have e : prs (a :: r) = .string a.1 :: .string a.2 :: prs r := by simp [prs]
    rw [e, show (k + 1) * 2 = k * 2 + 1 + 1 by omega, show k * 2 + 1 + 1 + 1 = (k * 2 + 1) + 1 + 1 by omega]
    simp only [List.getElem?_cons_succ, List.getElem_cons_succ]
    exact ih
theorem own_slice2 {w : World} {base e n m : Nat} {v : Value} {vs : List Value} (h : w.ownsRow base e m v n vs) : ∃ A c, v = .slice A n c := by
  rcases h.2 with ⟨hv, h0⟩ | ⟨g, cap, cur, hv, _⟩
  · exact ⟨none, 0, by rw [hv, h0]⟩
  · exact ⟨_, _, hv⟩
theorem cells_pair (w : World) (a b : ByteArray) (t : TypeId) : ∀ (j : Nat) u, [Value.string a, Value.string b][j]? = some u → (w.alloc (.cells #[.string a, .string b] t)).cell? ((⟨w.heap.size, 0, none⟩ : Addr).add j) = some u := fun j u hu => by
  have hj : j < 2 := (List.getElem?_eq_some_iff.1 hu).1
  rcases (by omega : j = 0 ∨ j = 1) with rfl | rfl
  · rw [addr_at, Nat.zero_add, World.cell?_alloc_at _ _ _ _ rfl]
    exact hu
  · rw [addr_at, Nat.zero_add, World.cell?_alloc_at _ _ _ _ rfl]
    exact hu
theorem one_pair (a b : ByteArray) : ∀ u ∈ [Value.string a, Value.string b], u.oneCell' = true := fun u hu => by
  simp only [List.mem_cons, List.mem_nil_iff, or_false] at hu
  rcases hu with rfl | rfl <;> rfl
theorem prs_snoc (os : List (ByteArray × ByteArray)) (a b : ByteArray) : prs os ++ [Value.string a, Value.string b] = prs (os ++ [(a, b)]) := by simp [prs]
theorem own_form2 {w : World} {base e n c m : Nat} {A : Option Addr} {vs : List Value} (h : w.ownsRow base e m (.slice A n c) n vs) (hn : 0 < n) : ∃ g, A = some ⟨g, 0, none⟩ ∧ base ≤ g ∧ g < w.heap.size := by
  rcases h.2 with ⟨_, h0⟩ | ⟨g, cap, cur, hv, hb, hh, _⟩
  · omega
  · simp only [Value.slice.injEq] at hv
    exact ⟨g, hv.1, hb, (Array.getElem?_eq_some_iff.1 hh).1⟩
theorem own_cap2 {w : World} {base e n c m : Nat} {A : Option Addr} {vs : List Value} (h : w.ownsRow base e m (.slice A n c) n vs) : n ≤ c := by
  rcases h.2 with ⟨hv, h0⟩ | ⟨g, cap, cur, hv, hg, hh, hn, _⟩
  · omega
  · simp only [Value.slice.injEq] at hv
    obtain ⟨_, _, rfl⟩ := hv
    exact hn
theorem own_below2 {w w' : World} {base e n m : Nat} {v : Value} {vs : List Value} (h : w.ownsRow base e m v n vs) (hb : Below w.heap.size w w') : w'.ownsRow base e m v n vs :=
  h.kept (row := none) ⟨hb.os, hb.tape, hb.output, hb.size, fun k hk _ => hb.block k hk⟩ (by cases v.ownBlock <;> simp)
theorem own_apart2 {w : World} {base base' e e' n n' m m' : Nat} {v v' : Value} {vs vs' : List Value} (h : w.ownsRow base e m v n vs) (h' : w.ownsRow base' e' m' v' n' vs') (ne : e ≠ e') : v.ownBlock = none ∨ v.ownBlock ≠ v'.ownBlock := by
  rcases h.2 with ⟨rfl, _⟩ | ⟨g, cap, cur, rfl, _, hh, _⟩
  · exact .inl rfl
  · right
    rcases h'.2 with ⟨rfl, _⟩ | ⟨g', cap', cur', rfl, _, hh', _⟩
    · simp [Value.ownBlock]
    · intro hb
      simp only [Value.ownBlock, Option.some.injEq] at hb
      subst hb
      rw [hh] at hh'
      simp only [Option.some.injEq, Obj.cells.injEq] at hh'
      exact ne hh'.2.1
def pk (os : List (ByteArray × ByteArray)) (k : Nat) : ByteArray × ByteArray := os.getD k (⟨#[]⟩, ⟨#[]⟩)
theorem pk_lt (os : List (ByteArray × ByteArray)) (k : Nat) (h : k < os.length) : pk os k = os[k] := by
  unfold pk
  rw [List.getD_eq_getElem?_getD, List.getElem?_eq_getElem h]
  rfl
theorem own_pair {w : World} {base e n c g : Nat} {os : List (ByteArray × ByteArray)} (h : w.ownsRow base e 2 (.slice (some ⟨g, 0, none⟩) n c) n (prs os)) (k : Nat) (hk : k < os.length) :
    w.cell? ⟨g, k * 2, none⟩ = some (.string (pk os k).1) ∧ w.cell? ⟨g, k * 2 + 1, none⟩ = some (.string (pk os k).2) := by
  have hn := h.1
  rw [prs_length] at hn
  have := prs_at os k hk
  rw [h.cellAt _ (by omega), h.cellAt _ (by omega), pk_lt os k hk]
  exact this
theorem step_append_own {P : Program} (w : World) {ops : Array Oper} {o : Oper} {a : Act} {K : Act → World → Prop} {Q : Exit → Act → World → Prop} {E : Prop} (hgd : o.guard = none) (s x : Operand) (t : TypeId)
    (ho : o.op = .call { callee := .builtin .append, args := #[s, x], argTypes := #[t, t] })
    (base e : Nat) (i : TypeInfo) (z : Value) (size bytes : Nat) (ht : P.underlying t = some (.slice e)) (hi : P.info? e = some i) (hz : i.zero = some z) (hsize : i.size = size) (hby : i.bytes = bytes) (hzs : z.cells.size = size) (hsz : 0 < size)
    (v : Value) (n : Nat) (xs : List Value) (hs : a.eval s = v) (hown : w.ownsRow base e size v n xs) (ad : Addr) (m c : Nat) (news : List Value) (hx : a.eval x = .slice (some ad) m c) (hl : news.length = m * size)
    (hnews : ∀ j u, news[j]? = some u → w.cell? (ad.add j) = some u) (h1 : ∀ u ∈ news, u.oneCell' = true) (h63 : n + m ≤ maxLen) (hbytes : (n + m) * bytes ≤ 140737488355328) (hbase : base ≤ w.heap.size)
    (h : ∀ v' w', w'.ownsRow base e size v' (n + m) (xs ++ news) → w.grownBy w' v.ownBlock → K (a.put o.dst v') w') :
    if Region.wanted o (yielded ops a.tmps) = true then Oper.wp P o a w K Q else E := by
  have hw : Region.wanted o (yielded ops a.tmps) = true := by simp [Region.wanted, hgd]
  rw [if_pos hw]
  exact wp_append_own w s x t ho base e i z size bytes ht hi hz hsize hby hzs hsz v n xs hs hown ad m c news hx hl hnews h1 h63 hbytes hbase fun v' w' h2 h3 _ => h v' w' h2 h3
theorem prs_cells (os : List (ByteArray × ByteArray)) : ∀ u ∈ prs os, u.oneCell' = true := fun u hu => by
  unfold prs at hu
  rw [List.mem_flatMap] at hu
  obtain ⟨p, _, hp⟩ := hu
  exact one_pair _ _ u hp
theorem prs_take (os : List (ByteArray × ByteArray)) : ∀ k, prs (os.take k) = (prs os).take (k * 2) := by
  induction os with
  | nil => intro k; simp [prs]
  | cons a r ih =>
    intro k
    cases k with
    | zero => simp [prs]
    | succ k =>
      have := ih k
      have e : prs (a :: r) = .string a.1 :: .string a.2 :: prs r := by simp [prs]
      have e2 : prs ((a :: r).take (k + 1)) = .string a.1 :: .string a.2 :: prs (r.take k) := by simp [prs]
      rw [e, e2, this, show (k + 1) * 2 = k * 2 + 1 + 1 by omega]
      rfl
theorem prs_drop (os : List (ByteArray × ByteArray)) : ∀ k, prs (os.drop k) = (prs os).drop (k * 2) := by
  induction os with
  | nil => intro k; simp [prs]
  | cons a r ih =>
    intro k
    cases k with
    | zero => simp [prs]
    | succ k =>
      have := ih k
      have e : prs (a :: r) = .string a.1 :: .string a.2 :: prs r := by simp [prs]
      rw [e, List.drop_succ_cons, this, show (k + 1) * 2 = k * 2 + 1 + 1 by omega]
      rfl
/-- the cells of a part of a row of pairs, in whatever world has the block as it is -/
theorem pair_cells {w w' : World} {base e n c g : Nat} {os : List (ByteArray × ByteArray)} (h : w.ownsRow base e 2 (.slice (some ⟨g, 0, none⟩) n c) n (prs os)) (hb : ∀ j, w'.cell? ⟨g, j, none⟩ = w.cell? ⟨g, j, none⟩) (k : Nat) :
    (∀ j u, (prs (os.take k))[j]? = some u → w'.cell? ((⟨g, 0, none⟩ : Addr).add j) = some u) ∧ (∀ j u, (prs (os.drop k))[j]? = some u → w'.cell? ((⟨g, k * 2, none⟩ : Addr).add j) = some u) := by
  have hn := h.1
  refine ⟨fun j u hu => ?_, fun j u hu => ?_⟩
  · rw [prs_take, List.getElem?_take] at hu
    split at hu
    · have hlt := (List.getElem?_eq_some_iff.1 hu).1
      rw [addr_at, Nat.zero_add, hb, h.cellAt j (by omega)]
      exact hu
    · cases hu
  · rw [prs_drop, List.getElem?_drop] at hu
    have hlt := (List.getElem?_eq_some_iff.1 hu).1
    rw [addr_at, hb, h.cellAt _ (by omega)]
    exact hu
theorem apart_of {v : Value} {row : Option Nat} {N : Nat} (h : ∀ k, v.ownBlock = some k → k < N) (h' : ∀ k, row = some k → N ≤ k) : v.ownBlock = none ∨ v.ownBlock ≠ row := by
  cases hb : v.ownBlock with
  | none => exact .inl rfl
  | some k =>
    refine .inr fun e => ?_
    have h1 := h k hb
    have h2 := h' k e.symm
    omega
theorem rid_prs {w : World} {base e kk : Nat} {v : Value} {os : List (ByteArray × ByteArray)} (hk : kk < os.length) (h : w.ownsRow base e 2 v (0 + kk + (os.length - (kk + 1))) ([] ++ prs (os.take kk) ++ prs (os.drop (kk + 1)))) : w.ownsRow base e 2 v (rid os kk).length (prs (rid os kk)) := by
  have e1 : (rid os kk).length = 0 + kk + (os.length - (kk + 1)) := by
    unfold rid
    rw [List.length_append, List.length_take, List.length_drop]
    omega
  have e2 : prs (rid os kk) = [] ++ prs (os.take kk) ++ prs (os.drop (kk + 1)) := by
    unfold rid
    rw [prs_append]
    rfl
  rw [e1, e2]
  exact h
theorem own_low {w : World} {base base' e n m : Nat} {v : Value} {vs : List Value} (h : w.ownsRow base e m v n vs) (hb : base' ≤ base) : w.ownsRow base' e m v n vs := by
  refine ⟨h.1, ?_⟩
  rcases h.2 with hn | ⟨g, cap, cur, hv, hg, rest⟩
  · exact .inl hn
  · exact .inr ⟨g, cap, cur, hv, Nat.le_trans hb hg, rest⟩
theorem cells_str1 (w : World) (v : Value) (t : TypeId) : ∀ (j : Nat) u, [v][j]? = some u → (w.alloc (.cells #[v] t)).cell? ((⟨w.heap.size, 0, none⟩ : Addr).add j) = some u := fun j u hu => by
  obtain rfl : j = 0 := by have := (List.getElem?_eq_some_iff.1 hu).1; simpa using this
  rw [addr_at, Nat.zero_add, World.cell?_alloc_at _ _ _ _ rfl]
  exact hu
theorem prefix_short {s t : ByteArray} (h : t ≠ s) (hp : Lib.hasPrefix t.data.toList s.data.toList = true) : s.size < t.size := by
  have h1 := W.prefix_le hp
  rw [Lib.size_eq, Lib.size_eq]
  by_cases e : s.data.toList.length = t.data.toList.length
  · have h2 := W.prefix_same hp e
    exact absurd (data_inj h2).symm (fun e => h e)
  · omega
theorem cells_kept {w w' : World} {o : Obj} {row : Option Nat} {P : Nat} (hg : (w.alloc o).grownBy w' row) (hr : ∀ k, row = some k → P + 1 ≤ k ∧ k < (w.alloc o).heap.size) (hP : P < w.heap.size) : ∀ j u, w.cell? ⟨P, j, none⟩ = some u → w'.cell? ⟨P, j, none⟩ = some u := fun j u hu => by
  rw [World.cell?_of_block (a := ⟨P, j, none⟩) (hg.block P (by simp; omega) (fun e => by have := (hr P e.symm).1; omega)), World.cell?_alloc_lt _ _ _ hP]
  exact hu
def GivesShort (w0 : World) (ss : List ByteArray) (e : Ending) (w' : World) : Prop := ∃ x : ByteArray, e = .returned (.string x) ∧ FD ss (bst x) ∧ x.size ≤ 1000 ∧ Below w0.heap.size w0 w'

set_option maxRecDepth 100000 in
set_option maxHeartbeats 6400000 in
theorem spec_dcShortest (A : Option Addr) (ss : List ByteArray) (c : Nat) (w : World) (h : Row w w.heap.size A (strs ss)) (hset : W.isSet ss = true) :
    Calls Tryd.prog 38 #[.slice A ss.length c] w (GivesShort w ss) := by
  have h12 := W.isSet_len ss hset
  have Hset := Lib.hid hset
  replace h := Lib.hid h
  obtain ⟨i0, hi, hz0, hz1, hz2⟩ := info_parts infoPair
  have HR := Lib.hid (And.intro hi (And.intro hz0 (And.intro hz1 hz2)))
  clear hset hi hz0 hz1 hz2
  have hbeg := Lib.hid (fun (s t : ByteArray) W => spec_wdBegins t s W)
  obtain ⟨i1, hi1, hy0, hy1, hy2⟩ := info_parts infoStr
  have HR1 := Lib.hid (And.intro hi1 (And.intro hy0 (And.intro hy1 hy2)))
  clear hi1 hy0 hy1 hy2
  go_enter Tryd.func38, Tryd.ntmps38
  go_wp2_with fail
  go_loopw [3, 18] (fun v i wr => ∃ k : Nat, k ≤ ss.length ∧ i = .int .i64 k ∧ wr.ownsRow w.heap.size 69 2 v (open0 (ss.take k) ss).length (prs (open0 (ss.take k) ss)) ∧ Below w.heap.size w wr)
    (fun _ i _ => ss.length - (intOf i).toNat)
  case atStart => exact ⟨0, Nat.zero_le _, rfl, World.ownsRow_nil _ _ _ _, Below.refl _ _⟩
  case round =>
    obtain ⟨k, hk, rfl, ho, hB⟩ := hrel
    obtain ⟨Ao, co, rfl⟩ := own_slice2 ho
    have hO := Lib.hid (And.intro ho hB)
    clear ho hB
    by_cases hlt : k < ss.length
    · as_aux_lemma =>
      obtain ⟨b, off, rfl, hb, hcc⟩ := h.out (by rw [strs_length]; omega)
      have hlt' : (k : Int) < (ss.length : Int) := by omega
      have c1 := (hO.out.2.cell (p := ⟨b, off + k, none⟩) hb).trans (hcc k _ (strs_nth ss k hlt))
      clear hcc
      have Hsucc := Lib.hid (open0_succ ss ss k hlt)
      have Hlen0 := open0_len (ss.take k) ss
      have hmul : (ss.take k).length * ss.length ≤ 12 * 12 := Nat.mul_le_mul (by rw [List.length_take]; omega) h12
      generalize W.nth ss k = s at c1 Hsucc
      have Hps := Lib.hid (fun (j : Nat) hj => pairs0_succ s ss j hj)
      have hst : Hid (open0 (ss.take k) ss = open0 (ss.take k) ss ++ pairs0 s (ss.take 0)) := by
        show _ = _
        simp [pairs0]
      generalize open0 (ss.take k) ss = os0 at hO hst Hsucc Hlen0 ⊢
      go_wp2_with fail
      go_loopw [3, 24] (fun v i wr => ∃ j : Nat, j ≤ ss.length ∧ i = .int .i64 j ∧ wr.ownsRow w.heap.size 69 2 v (os0 ++ pairs0 s (ss.take j)).length (prs (os0 ++ pairs0 s (ss.take j))) ∧ Below w.heap.size w wr)
        (fun _ i _ => ss.length - (intOf i).toNat)
      case atStart => exact ⟨0, Nat.zero_le _, rfl, by rw [← hst.out]; exact hO.out.1, hO.out.2⟩
      case round =>
        clear hO
        obtain ⟨j, hj, rfl, ho, hB⟩ := hrel
        obtain ⟨Aj, cj, rfl⟩ := own_slice2 ho
        have hO := Lib.hid (And.intro ho hB)
        clear ho hB
        by_cases hlj : j < ss.length
        · obtain ⟨b', off', e', hb', hcc'⟩ := h.out (by rw [strs_length]; omega)
          obtain ⟨rfl, rfl⟩ : b = b' ∧ off = off' := by simpa using e'
          have hlj' : (j : Int) < (ss.length : Int) := by omega
          have c2 := (hO.out.2.cell (p := ⟨b, off + j, none⟩) hb).trans (hcc' j _ (strs_nth ss j hlj))
          clear hcc' e' hb'
          have Hs := Lib.hid (Hps.out j hlj)
          have hl2 := pairs0_len s (ss.take j)
          rw [List.length_take] at hl2
          generalize W.nth ss j = t at c2 Hs
          have Hq := Lib.hid (hbeg.out s t)
          by_cases hsz : s.size < t.size
          · have hsz' : (s.size : Int) < (t.size : Int) := by omega
            have hsz2 : (s.size : Int) ≤ (t.size : Int) := by omega
            cases hp : Lib.hasPrefix t.data.toList s.data.toList
            · have Hr : Hid (pair0 s t = []) := by
                show _ = _
                unfold pair0
                rw [restOf_pre hp]
                rfl
              have Hq2 := Hq.out
              rw [hp] at Hq2
              replace Hq2 := Lib.hid Hq2
              clear hp
              generalize ha : os0 ++ pairs0 s (ss.take j) = acc at hO Hs
              have Ha := Lib.hid ha
              clear ha
              go_wp2_with (go_at_call 54; refine (Hq2.out _).mono ?_; rintro e w' ⟨rfl, rfl⟩)
              go_roundw
              case rel => exact ⟨j + 1, by omega, by go_num, by rw [Hs.out, Hr.out, List.append_nil, Ha.out]; exact hO.out.1, hO.out.2⟩
              case measure => simp [intOf]; omega
            · have Hr : Hid (pair0 s t = [(t, t.extract s.size t.size)]) := by
                show _ = _
                unfold pair0
                rw [restOf_yes hp hsz]
                rfl
              have Hq2 := Hq.out
              rw [hp] at Hq2
              replace Hq2 := Lib.hid Hq2
              have hll : (os0 ++ pairs0 s (ss.take j)).length ≤ 200 := by rw [List.length_append]; omega
              clear hp
              generalize ha : os0 ++ pairs0 s (ss.take j) = acc at hO Hs hll
              have Ha := Lib.hid ha
              clear ha
              have hBa := Lib.hid (hO.out.2.alloc hO.out.2.size (.cells #[.string t, .string (t.extract s.size t.size)] 69))
              have hOa := Lib.hid (hO.out.1.alloc (.cells #[.string t, .string (t.extract s.size t.size)] 69))
              go_wp2_with (first | (go_at_call 54; refine (Hq2.out _).mono ?_; rintro e w' ⟨rfl, rfl⟩) | (at_builtin; refine wpList_append_own _ rfl _ _ 67 rfl w.heap.size 69 i0 _ 2 32 Tryd.underlying67 HR.out.1 HR.out.2.1 HR.out.2.2.1 HR.out.2.2.2 rfl (by decide) (.slice Aj acc.length cj) acc.length (prs acc) rfl hOa.out ⟨wr.heap.size, 0, none⟩ 1 1 [.string t, .string (t.extract s.size t.size)] rfl rfl (cells_pair _ _ _ _) (one_pair _ _) (by unfold maxLen; omega) (by omega) hBa.out.size ?_))
              intro v2 w2 ho2 hg2 _
              have hB2 := hBa.out.grown hg2 hBa.out.size (fun g hg => (hOa.out.lt g hg).1)
              rw [prs_snoc] at ho2
              have H2 := Lib.hid (And.intro ho2 hB2)
              clear ho2 hg2 hB2 hBa hOa hO
              go_wp2
              go_roundw
              case rel => exact ⟨j + 1, by omega, by go_num, by rw [Hs.out, Hr.out, ← List.append_assoc, Ha.out, List.length_append]; exact H2.out.1, H2.out.2⟩
              case measure => simp [intOf]; omega
          · have hsz' : ¬ (s.size : Int) < (t.size : Int) := by omega
            have Hr : Hid (pair0 s t = []) := by
              show _ = _
              unfold pair0
              rw [restOf_size hsz]
              rfl
            generalize ha : os0 ++ pairs0 s (ss.take j) = acc at hO Hs
            have Ha := Lib.hid ha
            clear ha
            go_wp2
            go_roundw
            case rel => exact ⟨j + 1, by omega, by go_num, by rw [Hs.out, Hr.out, List.append_nil, Ha.out]; exact hO.out.1, hO.out.2⟩
            case measure => simp [intOf]; omega
        · have hje : j = ss.length := by omega
          subst hje
          have ho := hO.out
          rw [List.take_length, ← Hsucc.out] at ho
          have HO := Lib.hid ho
          rw [List.take_length, ← Hsucc.out]
          generalize ha : open0 (ss.take (k + 1)) ss = acc at HO ⊢
          have Ha := Lib.hid ha
          clear ho hO ha
          go_wp2
          go_roundw
          case rel => exact ⟨k + 1, by omega, by go_num, by rw [Ha.out]; exact HO.out.1, HO.out.2⟩
          case measure => simp [intOf]; omega
    · have hke : k = ss.length := by omega
      subst hke
      have ho := hO.out
      rw [List.take_length] at ho
      have HO := Lib.hid ho
      clear ho hO
      have hst := Lib.hid (LSt.first Hset.out)
      rw [List.take_length]
      generalize open0 ss ss = os at HO hst ⊢
      go_wp2_with fail
      go_loopg [3, 4, 9] (1105 + os.length) (fun gk ov dv bv wr => ∃ (os : List (ByteArray × ByteArray)) (ds : List ByteArray) (f : ByteArray → Option (List UInt8)) (b : ByteArray), Hid (13 * (85 - ds.length) + os.length = gk) ∧ LSt ss os ds f b ∧ bv = .string b ∧ wr.ownsRow w.heap.size 69 2 ov os.length (prs os) ∧ wr.ownsRow w.heap.size 9 1 dv ds.length (strs ds) ∧ Below w.heap.size w wr)
      case atStart => exact ⟨os, [], fun _ => none, ⟨#[]⟩, rfl, hst.out, rfl, HO.out.1, World.ownsRow_nil _ _ _ _, HO.out.2⟩
      case round =>
        clear hst HO
        obtain ⟨os, ds, f, b, hgk, hL, rfl, ho, hd, hB⟩ := hrel
        have hfew := hL.few Hset.out
        have hlen := hL.len
        have hbs := hL.bsize
        obtain ⟨Ao, co, rfl⟩ := own_slice2 ho
        obtain ⟨Ad, cd, rfl⟩ := own_slice hd
        have HL := Lib.hid hL
        have hO := Lib.hid (And.intro ho (And.intro hd hB))
        clear hL ho hd hB
        by_cases h0 : os.length = 0
        · have he : os = [] := List.eq_nil_of_length_eq_zero h0
          subst he
          have hfd := Lib.hid HL.out.ended
          have hfb := Lib.hid hO.out.2.2
          clear h0
          go_wp2_with fail
          go_ret
          exact ⟨b, rfl, hfd.out, by omega, hfb.out⟩
        · have hpos : (0 : Int) < (os.length : Int) := by omega
          have hposN : 0 < os.length := by omega
          obtain ⟨g, rfl, hg1, hg2⟩ := own_form2 hO.out.1 (by omega)
          clear h0
          go_wp2_with fail
          have hpair := Lib.hid (fun k hk => own_pair hO.out.1 k hk)
          have hcmp := Lib.hid (fun (s t : ByteArray) W => spec_wdLess s t W)
          go_loopw [10, 54] (fun kv iv wr' => ∃ kk i : Nat, i ≤ os.length ∧ kk < os.length ∧ kv = .int .i64 kk ∧ iv = .int .i64 i ∧ Hid (∀ q, q < i → le (pk os kk).1.data.toList (pk os q).1.data.toList) ∧ Below wr.heap.size wr wr')
            (fun _ iv _ => os.length - (intOf iv).toNat)
          case atStart => exact ⟨0, 0, Nat.zero_le _, by omega, rfl, rfl, fun q hq => absurd hq (Nat.not_lt_zero _), Below.refl _ _⟩
          case round =>
            obtain ⟨kk, i, hi, hkk, rfl, rfl, hle, hB⟩ := hrel
            have HB := Lib.hid hB
            by_cases hlt : i < os.length
            · as_aux_lemma =>
              have hlt' : (i : Int) < (os.length : Int) := by omega
              have hkk' : (kk : Int) < (os.length : Int) := by omega
              have p1 := (hB.cell (p := ⟨g, i * 2, none⟩) hg2).trans (hpair.out i hlt).1
              have p2 := (hB.cell (p := ⟨g, i * 2 + 1, none⟩) hg2).trans (hpair.out i hlt).2
              have q1 := (hB.cell (p := ⟨g, kk * 2, none⟩) hg2).trans (hpair.out kk hkk).1
              have hgw : g < wr.heap.size := Nat.lt_of_lt_of_le hg2 hB.size
              clear hB
              have hc := Lib.hid (hcmp.out (pk os i).1 (pk os kk).1)
              have Hnew : Hid (W.less (pk os i).1.data.toList (pk os kk).1.data.toList = true → ∀ q, q < i + 1 → le (pk os i).1.data.toList (pk os q).1.data.toList) := fun hl q hq => by
                by_cases e : q = i
                · subst e; exact W.le_refl _
                · exact W.le_trans (W.le_of_less hl) (hle.out q (by omega))
              have Hold : Hid (W.less (pk os i).1.data.toList (pk os kk).1.data.toList = false → ∀ q, q < i + 1 → le (pk os kk).1.data.toList (pk os q).1.data.toList) := fun hl q hq => by
                by_cases e : q = i
                · subst e; exact hl
                · exact hle.out q (by omega)
              generalize ha1 : (pk os i).1 = a1 at p1 hc Hnew Hold
              replace ha1 := Lib.hid ha1
              generalize (pk os i).2 = a2 at p2
              generalize hb1 : (pk os kk).1 = b1 at q1 hc Hold Hnew
              replace hb1 := Lib.hid hb1
              have e1 : ((wr.alloc (.cells #[.string a1, .string a2] 69)).drew).cell? ⟨wr.heap.size, 0, none⟩ = some (.string a1) := by
                show (wr.alloc _).cell? _ = _
                rw [World.cell?_alloc_at _ _ _ _ rfl]
                rfl
              have e2 : ((wr.alloc (.cells #[.string a1, .string a2] 69)).drew).cell? ⟨g, kk * 2, none⟩ = some (.string b1) := by
                show (wr.alloc _).cell? _ = _
                rw [World.cell?_alloc_lt _ _ _ hgw]
                exact q1
              have HB2 := Lib.hid ((HB.out.alloc HB.out.size (.cells #[.string a1, .string a2] 69)).drew)
              cases hl : W.less a1.data.toList b1.data.toList
              · rw [hl] at hc
                have Hr := Lib.hid (Hold.out hl)
                clear hl Hnew Hold
                go_wp2_with fail
                go_region_with (go_at_call 45; refine (hc.out _).mono ?_; rintro e w' ⟨rfl, rfl⟩)
                · go_wp2
                  go_roundw
                  case rel => exact ⟨kk, i + 1, by omega, hkk, rfl, by go_num, by rw [hb1.out]; exact Hr.out, HB2.out⟩
                  case measure => simp [intOf]; omega
                · go_wp2
                  go_roundw
                  case rel => exact ⟨kk, i + 1, by omega, hkk, rfl, by go_num, by rw [hb1.out]; exact Hr.out, HB2.out⟩
                  case measure => simp [intOf]; omega
              · rw [hl] at hc
                have Hr := Lib.hid (Hnew.out hl)
                clear hl Hnew Hold
                go_wp2_with fail
                go_region_with (go_at_call 45; refine (hc.out _).mono ?_; rintro e w' ⟨rfl, rfl⟩)
                · go_wp2
                  go_roundw
                  case rel => exact ⟨i, i + 1, by omega, hlt, rfl, by go_num, by rw [ha1.out]; exact Hr.out, HB2.out⟩
                  case measure => simp [intOf]; omega
                · go_wp2
                  go_roundw
                  case rel => exact ⟨i, i + 1, by omega, hlt, rfl, by go_num, by rw [ha1.out]; exact Hr.out, HB2.out⟩
                  case measure => simp [intOf]; omega
            · obtain rfl : i = os.length := by omega
              have p1 := (hB.cell (p := ⟨g, kk * 2, none⟩) hg2).trans (hpair.out kk hkk).1
              have p2 := (hB.cell (p := ⟨g, kk * 2 + 1, none⟩) hg2).trans (hpair.out kk hkk).2
              have hkk' : (kk : Int) < (os.length : Int) := by omega
              have hco := own_cap2 hO.out.1
              have hmul : os.length ≤ 2000 := by omega
              have hk1 : (kk : Int) ≤ (co : Int) := by omega
              have hgw : g < wr.heap.size := Nat.lt_of_lt_of_le hg2 hB.size
              have hpkk := pk_lt os kk hkk
              have hbk : Hid (∀ j, wr.cell? ⟨g, j, none⟩ = _) := fun j => hB.cell (p := ⟨g, j, none⟩) hg2
              have hlm : Hid (∀ p, p ∈ os → le (pk os kk).1.data.toList p.1.data.toList) := fun p hp => by
                obtain ⟨q, hq, rfl⟩ := List.getElem_of_mem hp
                rw [← pk_lt os q hq]
                exact hle.out q hq
              obtain ⟨pw, hpw⟩ : ∃ x, x = (pk os kk).1 := ⟨_, rfl⟩
              obtain ⟨pu, hpu⟩ : ∃ x, x = (pk os kk).2 := ⟨_, rfl⟩
              rw [← hpw] at p1 hlm
              rw [← hpu] at p2
              have Hpk : Hid (os[kk] = (pw, pu)) := by
                show _ = _
                rw [← hpkk, hpw, hpu]
              have hpws : pw.size ≤ 8 + 7 * ds.length := by
                have := HL.out.size os[kk] (List.getElem_mem hkk)
                rw [Hpk.out] at this
                exact this
              have hd := own_below2 hO.out.2.1 hB
              have hBw := hO.out.2.2.trans (hB.mono hO.out.2.2.size)
              have HD := Lib.hid (And.intro hd hBw)
              clear hB hpkk hpw hpu hd hBw hle hpair HB
              go_wp2_with fail
              have hW : (wr.alloc (.cells #[.string pw, .string pu] 69)).heap.size = wr.heap.size + 1 := by simp
              have hBa := Lib.hid (((HD.out.2.alloc HD.out.2.size (.cells #[.string pw, .string pu] 69)).alloc (by rw [hW]; exact Nat.le_succ_of_le HD.out.2.size) (.cells #[] 69)).drew)
              have hown0 : Hid ((((wr.alloc (.cells #[.string pw, .string pu] 69)).alloc (.cells #[] 69)).drew).ownsRow (wr.heap.size + 1) 69 2 (.slice (some ⟨wr.heap.size + 1, 0, none⟩) 0 0) 0 []) := by
                have := World.ownsRow_made (base := wr.heap.size + 1) (e := 69) (size := 2) (wr.alloc (.cells #[.string pw, .string pu] 69)) #[] 0 (by rw [hW]; exact Nat.le_refl _) (Nat.zero_le _) rfl
                rw [hW] at this
                exact this
              have hcl : Hid (∀ j, (((wr.alloc (.cells #[.string pw, .string pu] 69)).alloc (.cells #[] 69)).drew).cell? ⟨g, j, none⟩ = _) := fun j => Eq.trans (show (((wr.alloc (.cells #[.string pw, .string pu] 69)).alloc (.cells #[] 69)).drew).cell? ⟨g, j, none⟩ = wr.cell? ⟨g, j, none⟩ by
                show ((wr.alloc _).alloc _).cell? _ = _
                rw [World.cell?_alloc_lt _ _ _ (by rw [hW]; exact Nat.lt_succ_of_lt hgw), World.cell?_alloc_lt _ _ _ hgw]) (hbk.out j)
              have hwr : IntKind.i64.wrap ((kk : Int) + 1) = (kk : Int) + 1 := IntWalk.i64_in _ (by omega)
              have hkn : ((kk : Int) + 1).toNat = kk + 1 := by omega
              have hk0 : (0 : Int) ≤ (kk : Int) + 1 := by omega
              have hkc : (kk : Int) + 1 ≤ (os.length : Int) := by omega
              have hlt0 := Lib.hid (show (prs (os.take kk)).length = kk * 2 by rw [prs_length, List.length_take]; omega)
              have hld0 := Lib.hid (show (prs (os.drop (kk + 1))).length = (os.length - (kk + 1)) * 2 by rw [prs_length, List.length_drop])
              have hkc0 : (kk : Int) ≤ (co : Int) := by omega
              by_cases hck : co = kk + 1
              case' pos =>
                subst hck
                have hkk1 : (kk : Int) ≤ (kk : Int) + 1 := by omega
                go_region_law (first
                  | (refine step_append_own _ rfl (.tmp 73) (.tmp 76) 67 rfl (wr.heap.size + 1) 69 i0 _ 2 32 Tryd.underlying67 HR.out.1 HR.out.2.1 HR.out.2.2.1 HR.out.2.2.2 rfl (by decide) (.slice (some ⟨wr.heap.size + 1, 0, none⟩) 0 0) 0 [] (by simp [Act.eval]) hown0.out ⟨g, 0, none⟩ kk (kk + 1) (prs (os.take kk)) (by simp [Act.eval]) hlt0.out (pair_cells hO.out.1 hcl.out kk).1 (prs_cells _) (by unfold maxLen; omega) (by omega) (by simp) (fun v1 w1 ho1 hg1 => ?_))
                  | (refine step_append_own _ rfl (.tmp 77) (.tmp 81) 67 rfl (wr.heap.size + 1) 69 i0 _ 2 32 Tryd.underlying67 HR.out.1 HR.out.2.1 HR.out.2.2.1 HR.out.2.2.2 rfl (by decide) v1 _ _ (by simp [Act.eval]) ho1 ⟨g, 0, none⟩ (os.length - (kk + 1)) 0 (prs (os.drop (kk + 1))) (by simp [Act.eval]; omega) hld0.out (fun j u hu => by rw [show os.drop (kk + 1) = [] from List.drop_eq_nil_of_le (by omega)] at hu; simp [prs] at hu) (prs_cells _) (by unfold maxLen; omega) (by omega) (Nat.le_trans (by simp) hg1.size) (fun v2 w2 ho2 hg2' => ?_)))
              case' neg =>
                go_region_law (first
                  | (refine step_append_own _ rfl (.tmp 73) (.tmp 76) 67 rfl (wr.heap.size + 1) 69 i0 _ 2 32 Tryd.underlying67 HR.out.1 HR.out.2.1 HR.out.2.2.1 HR.out.2.2.2 rfl (by decide) (.slice (some ⟨wr.heap.size + 1, 0, none⟩) 0 0) 0 [] (by simp [Act.eval]) hown0.out ⟨g, 0, none⟩ kk co (prs (os.take kk)) (by simp [Act.eval]) hlt0.out (pair_cells hO.out.1 hcl.out kk).1 (prs_cells _) (by unfold maxLen; omega) (by omega) (by simp) (fun v1 w1 ho1 hg1 => ?_))
                  | (refine step_append_own _ rfl (.tmp 77) (.tmp 81) 67 rfl (wr.heap.size + 1) 69 i0 _ 2 32 Tryd.underlying67 HR.out.1 HR.out.2.1 HR.out.2.2.1 HR.out.2.2.2 rfl (by decide) v1 _ _ (by simp [Act.eval]) ho1 ⟨g, (kk + 1) * 2, none⟩ (os.length - (kk + 1)) (co - (kk + 1)) (prs (os.drop (kk + 1))) (by simp [Act.eval]) hld0.out (pair_cells hO.out.1 (fun j => (World.cell?_of_block (a := ⟨g, j, none⟩) (hg1.block g (by simp; omega) (fun e => by have e2 : some g = some (wr.heap.size + 1) := e; injection e2; omega))).trans (hcl.out j)) (kk + 1)).2 (prs_cells _) (by unfold maxLen; omega) (by omega) (Nat.le_trans (by simp) hg1.size) (fun v2 w2 ho2 hg2' => ?_)))
              all_goals as_aux_lemma =>
                have ho3 := rid_prs hkk ho2
                obtain ⟨A2, c2, rfl⟩ := own_slice2 ho3
                have hv1 := ho1.lt
                have hB1 := hBa.out.grown hg1 hBa.out.size (fun j hj => by have e2 : some (wr.heap.size + 1) = some j := hj; injection e2 with e2; have := HD.out.2.size; omega)
                have hB2 := hB1.grown hg2' hB1.size (fun j hj => by have := (hv1 j hj).1; have := HD.out.2.size; omega)
                have hrow1 : ∀ k, (Value.slice (some ⟨wr.heap.size + 1, 0, none⟩) 0 0).ownBlock = some k → wr.heap.size ≤ k := fun k hk => by have e2 : some (wr.heap.size + 1) = some k := hk; injection e2 with e2; omega
                have hrow2 : ∀ k, v1.ownBlock = some k → wr.heap.size ≤ k := fun k hk => by have := (hv1 k hk).1; omega
                have hdl := HD.out.1.lt
                have hd2 := ((show (((wr.alloc (.cells #[.string pw, .string pu] 69)).alloc (.cells #[] 69)).drew).ownsRow _ _ _ _ _ _ from (HD.out.1.alloc _).alloc _).kept hg1 (apart_of (fun k hk => (hdl k hk).2) hrow1)).kept hg2' (apart_of (fun k hk => (hdl k hk).2) hrow2)
                have hcell : ∀ j u, [Value.string pw, Value.string pu][j]? = some u → w2.cell? ⟨wr.heap.size, j, none⟩ = some u := fun j u hu => by
                  rw [World.cell?_of_block (a := ⟨wr.heap.size, j, none⟩) (hg2'.block wr.heap.size (Nat.lt_of_lt_of_le (by simp; omega) hg1.size) (fun e => by have e2 : some wr.heap.size = v1.ownBlock := e; have := (hv1 _ e2.symm).1; omega)),
                    World.cell?_of_block (a := ⟨wr.heap.size, j, none⟩) (hg1.block wr.heap.size (by simp; omega) (fun e => by have e2 : some wr.heap.size = some (wr.heap.size + 1) := e; injection e2; omega))]
                  show ((wr.alloc _).alloc _).cell? _ = _
                  rw [World.cell?_alloc_lt _ _ _ (by rw [hW]; exact Nat.lt_succ_self _), World.cell?_alloc_at _ _ _ _ rfl]
                  simpa using hu
                have d0 := hcell 0 _ rfl
                have d1 := hcell 1 _ rfl
                have hz2 : wr.heap.size < w2.heap.size := World.block_lt_of_cell? _ _ d0
                have H5 := Lib.hid (And.intro ho3 (And.intro hd2 hB2))
                have hrl := rid_len hkk
                have hwz := HD.out.2.size
                have Hdl : Hid (∀ k, (Value.slice Ad ds.length cd).ownBlock = some k → k < wr.heap.size) := fun k hk => (hdl k hk).2
                clear ho1 ho2 ho3 hg1 hg2' hB1 hB2 hrow1 hrow2 hdl hd2 hcell hv1 hown0 hcl hBa HD hwr hkn hk0 hkc hlt0 hld0 hW hbk hgw p1 p2
                have hhas := Lib.hid (spec_wdHas Ad ds cd pu w2 (Row.of_own H5.out.2.1) (by omega))
                have hgkk := hgk.out
                have hes := empty_toList b
                have HOD := Lib.hid (H5.out.2.1.alloc (.cells #[.string pu] 9))
                have HOP := Lib.hid (H5.out.1.alloc (.cells #[.string pu] 9))
                have HB5 := Lib.hid (H5.out.2.2.alloc H5.out.2.2.size (.cells #[.string pu] 9))
                cases hhd : hasB ds pu
                case' true =>
                  have hL2 := Lib.hid (HL.out.drop hkk (.inl (by rw [Hpk.out]; exact hasB_mem.1 hhd)))
                  rw [hhd] at hhas
                  clear hhd hes
                  go_wp2_with fail
                  refine hhas.out.mono ?_
                  rintro e w3 ⟨rfl, rfl⟩
                  go_wp2
                  go_roundg (gk - 1)
                  case measure => omega
                  case rel => exact ⟨rid os kk, ds, f, b, by show _ = _; omega, hL2.out, rfl, own_low H5.out.1 (Nat.le_succ_of_le hwz), H5.out.2⟩
                case' false =>
                  rw [hhd] at hhas
                  have Hnd := Lib.hid (show pu ∉ ds from fun hm => by rw [hasB_mem.2 hm] at hhd; cases hhd)
                  clear hhd
                  have hcb := Lib.hid (hcmp.out pw b w2)
                  by_cases hb0 : b.size = 0
                  case' pos =>
                    rw [decide_eq_true hb0] at hes
                    clear hb0
                    go_wp2_with fail
                    refine hhas.out.mono ?_
                    rintro e w3 ⟨rfl, rfl⟩
                    go_wp2_with (at_builtin; refine wpList_append_own _ rfl _ _ 22 rfl w.heap.size 9 i1 _ 1 16 Tryd.underlying22 HR1.out.1 HR1.out.2.1 HR1.out.2.2.1 HR1.out.2.2.2 rfl (by decide) (.slice Ad ds.length cd) ds.length (strs ds) rfl HOD.out ⟨w2.heap.size, 0, none⟩ 1 1 [.string pu] rfl rfl (cells_str1 _ _ _) (one_text _) (by unfold maxLen; omega) (by omega) HB5.out.size ?_)
                  case' neg =>
                    rw [decide_eq_false hb0] at hes
                    cases hlb : W.less pw.data.toList b.data.toList
                    case' false =>
                      have hL2 := Lib.hid (HL.out.drop hkk (.inr ⟨by omega, by rw [Hpk.out]; exact hlb⟩))
                      rw [hlb] at hcb
                      clear hb0 hlb
                      go_wp2_with fail
                      refine hhas.out.mono ?_
                      rintro e w3 ⟨rfl, rfl⟩
                      go_wp2_with (go_at_call 45; refine hcb.out.mono ?_; rintro e w' ⟨rfl, rfl⟩)
                      go_roundg (gk - 1)
                      case measure => omega
                      case rel => exact ⟨rid os kk, ds, f, b, by show _ = _; omega, hL2.out, rfl, own_low H5.out.1 (Nat.le_succ_of_le hwz), H5.out.2⟩
                    case' true =>
                      rw [hlb] at hcb
                      clear hb0 hlb
                      go_wp2_with fail
                      refine hhas.out.mono ?_
                      rintro e w3 ⟨rfl, rfl⟩
                      go_wp2_with (first | (go_at_call 45; refine hcb.out.mono ?_; rintro e w' ⟨rfl, rfl⟩) | (at_builtin; refine wpList_append_own _ rfl _ _ 22 rfl w.heap.size 9 i1 _ 1 16 Tryd.underlying22 HR1.out.1 HR1.out.2.1 HR1.out.2.2.1 HR1.out.2.2.2 rfl (by decide) (.slice Ad ds.length cd) ds.length (strs ds) rfl HOD.out ⟨w2.heap.size, 0, none⟩ 1 1 [.string pu] rfl rfl (cells_str1 _ _ _) (one_text _) (by unfold maxLen; omega) (by omega) HB5.out.size ?_))
                  all_goals as_aux_lemma =>
                    intro v4 w4 ho4 hg4 _
                    rw [show strs ds ++ [Value.string pu] = strs (ds ++ [pu]) from (strs_snoc _ _).symm] at ho4
                    have hop4 := HOP.out.kept hg4 (own_apart2 HOP.out HOD.out (by decide))
                    have hB4 := HB5.out.grown hg4 HB5.out.size (fun k hk => (HOD.out.lt k hk).1)
                    have hcell4 : ∀ j u, w2.cell? ⟨wr.heap.size, j, none⟩ = some u → w4.cell? ⟨wr.heap.size, j, none⟩ = some u := fun j u hu => by
                      rw [World.cell?_of_block (a := ⟨wr.heap.size, j, none⟩) (hg4.block wr.heap.size (by simp; omega) (fun e => by have e2 : some wr.heap.size = (Value.slice Ad ds.length cd).ownBlock := e; have := Hdl.out _ e2.symm; omega)), World.cell?_alloc_lt _ _ _ hz2]
                      exact hu
                    have c0 := hcell4 0 _ d0
                    have c1 := hcell4 1 _ d1
                    have hln : (ds ++ [pu]).length = ds.length + 1 := by simp
                    obtain ⟨A4, c4, rfl⟩ := own_slice ho4
                    have H6 := Lib.hid (And.intro hop4 (And.intro ho4 (And.intro hB4 (And.intro c0 c1))))
                    have hw4 : wr.heap.size < w4.heap.size := World.block_lt_of_cell? _ _ c0
                    clear ho4 hg4 hop4 hB4 hcell4 c0 c1 d0 d1 hhas hcb HOD HOP HB5 H5 hz2
                    generalize wr.heap.size = P at H6 Hdl hwz hw4 ⊢
                    go_wp2_with fail
                    have hst0 : Hid (betters b pw pu (ss.take 0) = b ∧ rid os kk ++ sucs pw pu (ss.take 0) = rid os kk) := ⟨by simp [betters, hasB], by simp [sucs]⟩
                    have hwz1 : Hid (w.heap.size ≤ P) := hwz
                    go_loopw [9, 3, 105] (fun bv ov iv wr' => ∃ j : Nat, j ≤ ss.length ∧ iv = .int .i64 j ∧ bv = .string (betters b pw pu (ss.take j)) ∧ wr'.ownsRow (P + 1) 69 2 ov (rid os kk ++ sucs pw pu (ss.take j)).length (prs (rid os kk ++ sucs pw pu (ss.take j))) ∧ wr'.ownsRow w.heap.size 9 1 (.slice A4 (ds.length + 1) c4) (ds.length + 1) (strs (ds ++ [pu])) ∧ Below w.heap.size w wr' ∧ wr'.cell? ⟨P, 0, none⟩ = some (.string pw) ∧ wr'.cell? ⟨P, 1, none⟩ = some (.string pu))
                      (fun _ _ iv _ => ss.length - (intOf iv).toNat)
                    case atStart => exact ⟨0, Nat.zero_le _, rfl, by rw [hst0.out.1], by rw [hst0.out.2]; exact H6.out.1, H6.out.2.1, H6.out.2.2.1, H6.out.2.2.2.1, H6.out.2.2.2.2⟩
                    case round =>
                      clear H6
                      obtain ⟨j, hj, rfl, rfl, ho, hdn, hB, c0, c1⟩ := hrel
                      obtain ⟨Aj, cj, rfl⟩ := own_slice2 ho
                      have hpl := World.block_lt_of_cell? _ _ c0
                      have hO := Lib.hid (And.intro ho (And.intro hdn hB))
                      have hsl := sucs_len pw pu (ss.take j)
                      rw [List.length_take] at hsl
                      have hall : (rid os kk ++ sucs pw pu (ss.take j)).length ≤ 2000 := by rw [List.length_append]; omega
                      by_cases hlj : j < ss.length
                      · obtain ⟨b', off', rfl, hb', hcc'⟩ := h.out (by rw [strs_length]; omega)
                        have hlj' : (j : Int) < (ss.length : Int) := by omega
                        have c2 := (hB.cell (p := ⟨b', off' + j, none⟩) hb').trans (hcc' j _ (strs_nth ss j hlj))
                        have hwz' := hwz1.out
                        have ht8 : (W.nth ss j).size ≤ 8 := (set_size Hset.out (by rw [W.nth_lt ss j hlj]; exact List.getElem_mem hlj)).2
                        have Hbn := Lib.hid (fun hu => betters_no (b := b) (w := pw) (u := pu) hlj hu)
                        have Hby := Lib.hid (fun hu => betters_yes (b := b) (w := pw) (u := pu) hlj hu)
                        have Hs := Lib.hid (sucs_succ pw pu ss j hlj)
                        clear hcc' ho hdn hB hsl hb'
                        generalize W.nth ss j = t at c2 Hbn Hby Hs ht8
                        have hq1 := Lib.hid (hbeg.out t pu)
                        have hq2 := Lib.hid (hbeg.out pu t)
                        have heq := toList_eq (s := t) (t := pu)
                        generalize ha : rid os kk ++ sucs pw pu (ss.take j) = acc at hO hall Hs
                        replace ha := Lib.hid ha
                        have Ha := ha
                        generalize hbb : betters b pw pu (ss.take j) = bb at Hbn Hby
                        have hes := empty_toList bb
                        have hcb := Lib.hid (hcmp.out pw bb wr)
                        have HC := Lib.hid (And.intro c0 c1)
                        clear hbb
                        by_cases htu : t = pu
                        · have Hsuc : Hid (suc pw pu t = []) := by
                            show _ = _
                            subst htu
                            unfold suc
                            rw [restOf_size (Nat.lt_irrefl _)]
                            rfl
                          have Hb := Hby.out htu
                          rw [decide_eq_true htu] at heq
                          clear htu Hbn Hby
                          by_cases hb0 : bb.size = 0
                          · have hbt : better bb pw = pw := by unfold better; rw [if_pos (.inl hb0)]
                            rw [hbt] at Hb
                            replace Hb := Lib.hid Hb
                            rw [decide_eq_true hb0] at hes
                            clear hb0 hbt
                            go_wp2
                            go_roundw
                            case rel => exact ⟨j + 1, by omega, by go_num, by rw [Hb.out], by rw [Hs.out, Hsuc.out, List.append_nil, Ha.out]; exact hO.out.1, hO.out.2.1, hO.out.2.2, HC.out.1, HC.out.2⟩
                            case measure => simp [intOf]; omega
                          · cases hlb : W.less pw.data.toList bb.data.toList
                            · have hbt : better bb pw = bb := by unfold better; rw [if_neg (by rw [hlb]; simp [hb0])]
                              rw [hbt] at Hb
                              replace Hb := Lib.hid Hb
                              rw [hlb] at hcb
                              rw [decide_eq_false hb0] at hes
                              clear hb0 hbt hlb
                              go_wp2_with (go_at_call 45; refine hcb.out.mono ?_; rintro e w' ⟨rfl, rfl⟩)
                              go_roundw
                              case rel => exact ⟨j + 1, by omega, by go_num, by rw [Hb.out], by rw [Hs.out, Hsuc.out, List.append_nil, Ha.out]; exact hO.out.1, hO.out.2.1, hO.out.2.2, HC.out.1, HC.out.2⟩
                              case measure => simp [intOf]; omega
                            · have hbt : better bb pw = pw := by unfold better; rw [if_pos (.inr hlb)]
                              rw [hbt] at Hb
                              replace Hb := Lib.hid Hb
                              rw [hlb] at hcb
                              rw [decide_eq_false hb0] at hes
                              clear hb0 hbt hlb
                              go_wp2_with (go_at_call 45; refine hcb.out.mono ?_; rintro e w' ⟨rfl, rfl⟩)
                              go_roundw
                              case rel => exact ⟨j + 1, by omega, by go_num, by rw [Hb.out], by rw [Hs.out, Hsuc.out, List.append_nil, Ha.out]; exact hO.out.1, hO.out.2.1, hO.out.2.2, HC.out.1, HC.out.2⟩
                              case measure => simp [intOf]; omega
                        · have Hb := Lib.hid (Hbn.out htu)
                          rw [decide_eq_false htu] at heq
                          clear Hbn Hby
                          cases hp1 : Lib.hasPrefix pu.data.toList t.data.toList
                          · cases hp2 : Lib.hasPrefix t.data.toList pu.data.toList
                            · have Hsuc : Hid (suc pw pu t = []) := by
                                show _ = _
                                unfold suc
                                rw [restOf_pre hp1, restOf_pre hp2]
                                rfl
                              have hr1 := hq1.out
                              have hr2 := hq2.out
                              rw [hp1] at hr1
                              rw [hp2] at hr2
                              replace hr1 := Lib.hid hr1
                              replace hr2 := Lib.hid hr2
                              clear hp1 hp2 htu hq1 hq2
                              go_wp2_with fail
                              refine (hr1.out _).mono ?_
                              rintro e w' ⟨rfl, rfl⟩
                              go_wp2_with fail
                              refine (hr2.out _).mono ?_
                              rintro e w' ⟨rfl, rfl⟩
                              go_wp2
                              go_roundw
                              case rel => exact ⟨j + 1, by omega, by go_num, by rw [Hb.out], by rw [Hs.out, Hsuc.out, List.append_nil, Ha.out]; exact hO.out.1, hO.out.2.1, hO.out.2.2, HC.out.1, HC.out.2⟩
                              case measure => simp [intOf]; omega
                            · have hsz := prefix_short htu hp2
                              have Hsuc : Hid (suc pw pu t = [(pw ++ t.extract pu.size t.size, t.extract pu.size t.size)]) := by
                                show _ = _
                                unfold suc
                                rw [restOf_pre hp1, restOf_yes hp2 hsz]
                                rfl
                              have hr1 := hq1.out
                              have hr2 := hq2.out
                              rw [hp1] at hr1
                              rw [hp2] at hr2
                              replace hr1 := Lib.hid hr1
                              replace hr2 := Lib.hid hr2
                              have hsz2 : (pu.size : Int) ≤ (t.size : Int) := by omega
                              have hxz := drop_size t pu.size
                              have hA1 : (pw.size : Int) ≤ 8388608 := by omega
                              have hA2 : ((t.extract pu.size t.size).size : Int) ≤ 8388608 := by omega
                              have hA3 : ¬ (9223372036854775807 < pw.size + (t.extract pu.size t.size).size) := by omega
                              have hA4 : pw.size + (t.extract pu.size t.size).size ≤ 9223372036854775807 := by omega
                              clear hxz
                              clear hp1 hp2 htu hq1 hq2
                              have hOa := Lib.hid (hO.out.1.alloc (.cells #[.string (pw ++ t.extract pu.size t.size), .string (t.extract pu.size t.size)] 69))
                              have hDa := Lib.hid (hO.out.2.1.alloc (.cells #[.string (pw ++ t.extract pu.size t.size), .string (t.extract pu.size t.size)] 69))
                              have hBa := Lib.hid (hO.out.2.2.alloc hO.out.2.2.size (.cells #[.string (pw ++ t.extract pu.size t.size), .string (t.extract pu.size t.size)] 69))
                              go_wp2_with fail
                              refine (hr1.out _).mono ?_
                              rintro e w' ⟨rfl, rfl⟩
                              go_wp2_with fail
                              refine (hr2.out _).mono ?_
                              rintro e w' ⟨rfl, rfl⟩
                              go_wp2_with fail
                              go_region_held_law (fun w' => w'.cell? ⟨P, 0, none⟩ = some (.string pw) ∧ w'.cell? ⟨P, 1, none⟩ = some (.string pu)) (go_keep)
                                (first | (refine step_append_own _ rfl (.tmp 145) (.tmp 160) 67 rfl (P + 1) 69 i0 _ 2 32 Tryd.underlying67 HR.out.1 HR.out.2.1 HR.out.2.2.1 HR.out.2.2.2 rfl (by decide) (.slice Aj acc.length cj) acc.length (prs acc) (by simp [Act.eval]) hOa.out ⟨wr.heap.size, 0, none⟩ 1 1 [.string (pw ++ t.extract pu.size t.size), .string (t.extract pu.size t.size)] (by simp [Act.eval]) rfl (cells_pair _ _ _ _) (one_pair _ _) (by unfold maxLen; omega) (by omega) (Nat.le_trans hpl (by simp)) (fun v5 w5 ho5 hg5 => ?_); have e0 := cells_kept (w := wr.drew) hg5 hOa.out.lt hpl 0 _ HC.out.1; have e1 := cells_kept (w := wr.drew) hg5 hOa.out.lt hpl 1 _ HC.out.2))
                              rw [prs_snoc] at ho5
                              have hd5 := (show ((wr.alloc _).drew).ownsRow _ _ _ _ _ _ from hDa.out).kept hg5 (own_apart2 hDa.out hOa.out (by decide))
                              have hB5 := hBa.out.drew.grown hg5 hBa.out.size (fun k hk => by have := (hOa.out.lt k hk).1; omega)
                              have H7 := Lib.hid (And.intro ho5 (And.intro hd5 (And.intro hB5 (And.intro e0 e1))))
                              clear ho5 hd5 hB5 e0 e1 hg5 hOa hDa hBa hO
                              go_wp2
                              go_roundw
                              case rel => exact ⟨j + 1, by omega, by go_num, by rw [Hb.out], by rw [Hs.out, Hsuc.out, ← List.append_assoc, Ha.out, List.length_append]; exact H7.out.1, H7.out.2⟩
                              case measure => simp [intOf]; omega
                          · have hsz := prefix_short (fun e => htu e.symm) hp1
                            have Hsuc : Hid (suc pw pu t = [(pw, pu.extract t.size pu.size)]) := by
                              show _ = _
                              unfold suc
                              rw [restOf_yes hp1 hsz, restOf_size (s := pu) (t := t) (by omega)]
                              rfl
                            have hr1 := hq1.out
                            rw [hp1] at hr1
                            replace hr1 := Lib.hid hr1
                            have hsz2 : (t.size : Int) ≤ (pu.size : Int) := by omega
                            clear hp1 htu hq1 hq2
                            have hOa := Lib.hid (hO.out.1.alloc (.cells #[.string pw, .string (pu.extract t.size pu.size)] 69))
                            have hDa := Lib.hid (hO.out.2.1.alloc (.cells #[.string pw, .string (pu.extract t.size pu.size)] 69))
                            have hBa := Lib.hid (hO.out.2.2.alloc hO.out.2.2.size (.cells #[.string pw, .string (pu.extract t.size pu.size)] 69))
                            go_wp2_with fail
                            refine (hr1.out _).mono ?_
                            rintro e w' ⟨rfl, rfl⟩
                            go_wp2_with fail
                            go_region_held3 (fun w' => w'.cell? ⟨P, 0, none⟩ = some (.string pw) ∧ w'.cell? ⟨P, 1, none⟩ = some (.string pu)) (go_keep)
                              (first | (refine step_append_own _ rfl (.tmp 129) (.tmp 138) 67 rfl (P + 1) 69 i0 _ 2 32 Tryd.underlying67 HR.out.1 HR.out.2.1 HR.out.2.2.1 HR.out.2.2.2 rfl (by decide) (.slice Aj acc.length cj) acc.length (prs acc) (by simp [Act.eval]) hOa.out ⟨wr.heap.size, 0, none⟩ 1 1 [.string pw, .string (pu.extract t.size pu.size)] (by simp [Act.eval]) rfl (cells_pair _ _ _ _) (one_pair _ _) (by unfold maxLen; omega) (by omega) (Nat.le_trans hpl (by simp)) (fun v5 w5 ho5 hg5 => ?_); have e0 := cells_kept (w := wr.drew) hg5 hOa.out.lt hpl 0 _ HC.out.1; have e1 := cells_kept (w := wr.drew) hg5 hOa.out.lt hpl 1 _ HC.out.2))
                            rw [prs_snoc] at ho5
                            have hd5 := (show ((wr.alloc _).drew).ownsRow _ _ _ _ _ _ from hDa.out).kept hg5 (own_apart2 hDa.out hOa.out (by decide))
                            have hB5 := hBa.out.drew.grown hg5 hBa.out.size (fun k hk => by have := (hOa.out.lt k hk).1; omega)
                            have H7 := Lib.hid (And.intro ho5 (And.intro hd5 (And.intro hB5 (And.intro e0 e1))))
                            clear ho5 hd5 hB5 e0 e1 hg5 hOa hDa hBa hO
                            go_wp2
                            go_roundw
                            case rel => exact ⟨j + 1, by omega, by go_num, by rw [Hb.out], by rw [Hs.out, Hsuc.out, ← List.append_assoc, Ha.out, List.length_append]; exact H7.out.1, H7.out.2⟩
                            case measure => simp [intOf]; omega
                      · have hje : j = ss.length := by omega
                        subst hje
                        have ho5 := hO.out.1
                        rw [List.take_length] at ho5
                        have hL2 := HL.out.next Hset.out hkk (fun p hp => by rw [Hpk.out]; exact hlm.out p hp) (by rw [Hpk.out]; exact Hnd.out)
                        rw [Hpk.out] at hL2
                        simp only at hL2
                        have hnl := hL2.len
                        rw [List.length_append, hln] at hnl
                        have HF := Lib.hid (And.intro hL2 (And.intro (own_low ho5 (Nat.le_succ_of_le hwz1.out)) (And.intro hO.out.2.1 hO.out.2.2)))
                        rw [List.take_length]
                        have hln2 := Lib.hid hln
                        rw [List.take_length] at hall hsl
                        rw [List.length_append] at hall
                        have hmz := Lib.hid (show (rid os kk ++ sucs pw pu ss).length = (rid os kk).length + (sucs pw pu ss).length from List.length_append)
                        clear hO ho hdn hB hL2 ho5 hnl
                        obtain ⟨os2, hos2⟩ : ∃ x, x = rid os kk ++ sucs pw pu ss := ⟨_, rfl⟩
                        obtain ⟨b2, hb2⟩ : ∃ x, x = betters b pw pu ss := ⟨_, rfl⟩
                        rw [← hos2] at HF hmz ⊢
                        rw [← hb2] at HF ⊢
                        clear hos2 hb2
                        go_wp2
                        go_roundg (13 * (85 - (ds.length + 1)) + os2.length)
                        case measure => rw [hmz.out]; omega
                        case rel => exact ⟨os2, ds ++ [pu], _, b2, by show _ = _; rw [hln2.out], HF.out.1, rfl, HF.out.2.1, by rw [hln2.out]; exact HF.out.2.2.1, HF.out.2.2.2⟩

end Go.Proofs.YtiemoocdffobgaaDoor
