/-
  WHAT THIS FILE PROVES: the tests that three numbers are 0, 1 and 2 once each, the specification's and the program's, and a word with other letters by the specification's loop; asked: rows that lie in memory.
-/
import Derived.Test.YtbepplkpnhfifaaDoorFit
import Derived.Test.YtbepplkpnhfifaaDoorMemI
import Derived.OwnWalk
namespace Go.Proofs.YtbepplkpnhfifaaDoor
open Go.RowKit Go.Shelf

def inB (x : Int) : Bool := decide (0 ≤ x ∧ x ≤ 2)
/-- 0, 1 and 2 once each -/
def nmOk (zs : List Int) : Bool := decide (zs.length = 3) && (zs.all inB && (decide (zs.getD 0 0 ≠ zs.getD 1 0) && (decide (zs.getD 0 0 ≠ zs.getD 2 0) && decide (zs.getD 1 0 ≠ zs.getD 2 0))))

theorem Row.ints_at {w : World} {B : Nat} {A : Option Addr} {zs : List Int} (h : Row w B A (ints zs)) (h0 : 0 < zs.length) : ∃ b off, A = some ⟨b, off, none⟩ ∧ b < B ∧ ∀ k (hk : k < zs.length), w.cell? ⟨b, off + k, none⟩ = some (.int .i64 zs[k]) := by
  obtain ⟨b, off, e, hb, hc⟩ := h (by rw [ints_length]; exact h0)
  exact ⟨b, off, e, hb, fun k hk => hc k _ (_root_.Go.Proofs.YtbepplkpnhfifaaDoor.ints_at zs k hk)⟩

set_option maxHeartbeats 800000 in
theorem spec_l1Has (A : Option Addr) (zs : List Int) (n c : Nat) (x : Int) (w : World) (hn : n ≤ zs.length) (h : Row w w.heap.size A (ints zs)) (hl : zs.length ≤ 3) :
    Calls Tryd.prog 43 #[.slice A n c, .int .i64 x] w fun e w' => e = .returned (.bool ((zs.take n).contains x)) ∧ w = w' := by
  have Hn := Lib.hid (show ∀ k, k < n → (zs.getD k 0 = x) → (zs.take n).contains x = true from fun k hk e => by
    rw [List.contains_iff_mem]
    rw [List.getD_eq_getElem?_getD, List.getElem?_eq_getElem (by omega)] at e
    exact List.mem_iff_getElem.2 ⟨k, by rw [List.length_take]; omega, by rw [List.getElem_take]; exact e⟩)
  have Hno := Lib.hid (show (∀ k, k < n → zs.getD k 0 ≠ x) → (zs.take n).contains x = false from fun hk => by
    rw [Bool.eq_false_iff]
    intro h
    rw [List.contains_iff_mem] at h
    obtain ⟨i, hi, e⟩ := List.mem_iff_getElem.1 h
    rw [List.length_take] at hi
    rw [List.getElem_take] at e
    exact hk i (by omega) (by rw [List.getD_eq_getElem?_getD, List.getElem?_eq_getElem (by omega)]; exact e))
  replace h := Lib.hid h
  generalize (zs.take n).contains x = r at Hn Hno ⊢
  go_enter Tryd.func43, Tryd.ntmps43
  go_wp2
  go_loop [9] (fun i => ∃ k : Nat, k ≤ n ∧ i = .int .i64 k ∧ Hid (∀ j, j < k → zs.getD j 0 ≠ x)) (fun i => n - (intOf i).toNat)
  case atStart => exact ⟨0, Nat.zero_le _, rfl, fun j hj => absurd hj (Nat.not_lt_zero _)⟩
  case round =>
    obtain ⟨k, hk, rfl, hno⟩ := hrel
    by_cases hlt : k < n
    · obtain ⟨b, off, rfl, hb, hcc⟩ := Row.ints_at h.out (by omega)
      have hlt' : (k : Int) < (n : Int) := by omega
      have c1 := hcc k (by omega)
      have hg : zs.getD k 0 = zs[k] := by rw [List.getD_eq_getElem?_getD, List.getElem?_eq_getElem (by omega)]; rfl
      rw [← hg] at c1
      have Hk := Lib.hid (Hn.out k hlt)
      have Hk2 := Lib.hid (show zs.getD k 0 ≠ x → ∀ j, j < k + 1 → zs.getD j 0 ≠ x from fun e j hj => by
        rcases Nat.lt_succ_iff_lt_or_eq.1 hj with h | h
        · exact hno.out j h
        · rw [h]; exact e)
      clear hcc hg
      generalize zs.getD k 0 = y at c1 Hk Hk2
      by_cases hxy : y = x
      · subst hxy
        have hr := Hk.out rfl
        subst hr
        go_wp2
        go_ret
        exact ⟨rfl, rfl⟩
      · have hb : (y == x) = false := beq_eq_false_iff_ne.2 hxy
        have Hk3 : Hid (∀ j, j < k + 1 → zs.getD j 0 ≠ x) := Hk2.out hxy
        clear Hk Hk2
        go_wp2
        go_round
        case rel => exact ⟨k + 1, by omega, by go_num, Hk3⟩
        case measure => simp [intOf]; omega
    · have hke : k = n := by omega
      subst hke
      have hr := Hno.out hno.out
      subst hr
      go_wp2
      go_ret
      exact ⟨rfl, rfl⟩

set_option maxHeartbeats 800000 in
theorem spec_l1All (A : Option Addr) (zs : List Int) (c : Nat) (w : World) (h : Row w w.heap.size A (ints zs)) (hl : zs.length ≤ 3) :
    Calls Tryd.prog 42 #[.slice A zs.length c, .int .i64 0, .int .i64 2] w fun e w' => e = .returned (.bool (zs.all inB)) ∧ w = w' := by
  have Hn := Lib.hid (show ∀ k, k < zs.length → inB (zs.getD k 0) = false → zs.all inB = false from fun k hk e => by
    rw [List.getD_eq_getElem?_getD, List.getElem?_eq_getElem (by omega)] at e
    rw [List.all_eq_false]
    exact ⟨zs[k], List.getElem_mem hk, by rw [show inB zs[k] = false from e]; simp⟩)
  have Hno := Lib.hid (show (∀ k, k < zs.length → inB (zs.getD k 0) = true) → zs.all inB = true from fun hk => by
    rw [List.all_eq_true]
    intro y hy
    obtain ⟨i, hi, e⟩ := List.mem_iff_getElem.1 hy
    have := hk i hi
    rw [List.getD_eq_getElem?_getD, List.getElem?_eq_getElem hi] at this
    rw [← e]
    exact this)
  replace h := Lib.hid h
  generalize zs.all inB = r at Hn Hno ⊢
  go_enter Tryd.func42, Tryd.ntmps42
  go_wp2
  go_loop [11] (fun i => ∃ k : Nat, k ≤ zs.length ∧ i = .int .i64 k ∧ Hid (∀ j, j < k → inB (zs.getD j 0) = true)) (fun i => zs.length - (intOf i).toNat)
  case atStart => exact ⟨0, Nat.zero_le _, rfl, fun j hj => absurd hj (Nat.not_lt_zero _)⟩
  case round =>
    obtain ⟨k, hk, rfl, hno⟩ := hrel
    by_cases hlt : k < zs.length
    · obtain ⟨b, off, rfl, hb, hcc⟩ := Row.ints_at h.out (by omega)
      have hlt' : (k : Int) < (zs.length : Int) := by omega
      have c1 := hcc k (by omega)
      have hg : zs.getD k 0 = zs[k] := by rw [List.getD_eq_getElem?_getD, List.getElem?_eq_getElem (by omega)]; rfl
      rw [← hg] at c1
      have Hk := Lib.hid (Hn.out k hlt)
      have Hk2 := Lib.hid (show inB (zs.getD k 0) = true → ∀ j, j < k + 1 → inB (zs.getD j 0) = true from fun e j hj => by
        rcases Nat.lt_succ_iff_lt_or_eq.1 hj with h | h
        · exact hno.out j h
        · rw [h]; exact e)
      clear hcc hg
      generalize zs.getD k 0 = y at c1 Hk Hk2
      have hin := fun W => spec_l1In y 0 2 W
      rw [show decide (0 ≤ y ∧ y ≤ 2) = inB y from rfl] at hin
      cases hxy : inB y
      · have hr := Hk.out hxy
        subst hr
        rw [hxy] at hin
        replace hin := Lib.hid hin
        clear hxy Hk Hk2
        go_wp2_with (go_at_call 47; refine (hin.out _).mono ?_; rintro e w' ⟨rfl, rfl⟩)
        go_ret
        exact ⟨rfl, rfl⟩
      · have Hk3 : Hid (∀ j, j < k + 1 → inB (zs.getD j 0) = true) := Hk2.out hxy
        rw [hxy] at hin
        replace hin := Lib.hid hin
        clear hxy Hk Hk2
        go_wp2_with (go_at_call 47; refine (hin.out _).mono ?_; rintro e w' ⟨rfl, rfl⟩)
        go_round
        case rel => exact ⟨k + 1, by omega, by go_num, Hk3⟩
        case measure => simp [intOf]; omega
    · have hke : k = zs.length := by omega
      subst hke
      have hr := Hno.out hno.out
      subst hr
      go_wp2
      go_ret
      exact ⟨rfl, rfl⟩

theorem three {zs : List Int} (h : zs.length = 3) : ∃ x y z, zs = [x, y, z] := by
  match zs, h with
  | [x, y, z], _ => exact ⟨x, y, z, rfl⟩
theorem nmOk_three (x y z : Int) : nmOk [x, y, z] = (inB x && inB y && inB z && (decide (x ≠ y) && (decide (x ≠ z) && decide (y ≠ z)))) := by
  simp [nmOk, Bool.and_assoc]
theorem has_three (x y z : Int) : ([x, y, z].contains 0 && ([x, y, z].contains 1 && [x, y, z].contains 2)) = nmOk [x, y, z] := by
  rw [nmOk_three, Bool.eq_iff_iff]
  unfold inB
  simp only [Bool.and_eq_true, List.contains_iff_mem, List.mem_cons, List.not_mem_nil, or_false, decide_eq_true_eq]
  omega

set_option maxHeartbeats 800000 in
theorem impl_areNames (A : Option Addr) (zs : List Int) (c : Nat) (w : World) (h : Row w w.heap.size A (ints zs)) (hl : zs.length ≤ 9223372036854775807) :
    Calls Tryd.prog 44 #[.slice A zs.length c] w fun e w' => e = .returned (.bool (nmOk zs)) ∧ w = w' := by
  by_cases h3 : zs.length = 3
  · obtain ⟨x, y, z, rfl⟩ := three h3
    rw [← has_three]
    obtain ⟨b, off, rfl, hb, hcc⟩ := Row.ints_at h (by simp)
    have hct := fun (v : Int) W (hW : w = W) => (Tryd.slices_Contains_int b off 3 c [x, y, z] v W (Nat.le_refl _) (by omega) (fun j hj => by
      rw [← hW, hcc j hj, List.getD_eq_getElem?_getD, List.getElem?_eq_getElem hj]; rfl)).mono fun _ _ hh => And.intro hh.1 hh.2.symm
    have hc0 := hct 0 w rfl
    have hc1 := hct 1 w rfl
    have hc2 := hct 2 w rfl
    clear hct hcc h h3 hl
    go_enter Tryd.func44, Tryd.ntmps44
    rw [show List.take 3 [x, y, z] = [x, y, z] from rfl] at hc0 hc1 hc2
    replace hc0 := Lib.hid hc0
    replace hc1 := Lib.hid hc1
    replace hc2 := Lib.hid hc2
    generalize [x, y, z].contains 0 = a0 at hc0 ⊢
    generalize [x, y, z].contains 1 = a1 at hc1 ⊢
    generalize [x, y, z].contains 2 = a2 at hc2 ⊢
    go_wp2
    go_loop [7] (fun i => i = .int .i64 0 ∨ (i = .int .i64 1 ∧ a0 = true) ∨ (i = .int .i64 2 ∧ a0 = true ∧ a1 = true) ∨ (i = .int .i64 3 ∧ a0 = true ∧ a1 = true ∧ a2 = true)) (fun i => 3 - (intOf i).toNat)
    case atStart => exact .inl rfl
    case round =>
      rcases hrel with rfl | ⟨rfl, rfl⟩ | ⟨rfl, rfl, rfl⟩ | ⟨rfl, rfl, rfl, rfl⟩
      · cases a0
        · go_wp2_with (go_at_call 60; refine hc0.out.mono ?_; rintro e w' ⟨rfl, rfl⟩)
          go_ret
          exact ⟨rfl, rfl⟩
        · go_wp2_with (go_at_call 60; refine hc0.out.mono ?_; rintro e w' ⟨rfl, rfl⟩)
          exact ⟨by simp, by simp [intOf]⟩
      · cases a1
        · go_wp2_with (go_at_call 60; refine hc1.out.mono ?_; rintro e w' ⟨rfl, rfl⟩)
          go_ret
          exact ⟨rfl, rfl⟩
        · go_wp2_with (go_at_call 60; refine hc1.out.mono ?_; rintro e w' ⟨rfl, rfl⟩)
          exact ⟨by simp, by simp [intOf]⟩
      · cases a2
        · go_wp2_with (go_at_call 60; refine hc2.out.mono ?_; rintro e w' ⟨rfl, rfl⟩)
          go_ret
          exact ⟨rfl, rfl⟩
        · go_wp2_with (go_at_call 60; refine hc2.out.mono ?_; rintro e w' ⟨rfl, rfl⟩)
          exact ⟨by simp, by simp [intOf]⟩
      · go_wp2
        go_ret
        exact ⟨rfl, rfl⟩
  · have hno : nmOk zs = false := by unfold nmOk; rw [decide_eq_false h3]; rfl
    rw [hno]
    have h3' : ((zs.length : Int) != 3) = true := by simp; omega
    clear hno h
    go_enter Tryd.func44, Tryd.ntmps44
    go_wp2
    go_ret
    exact ⟨rfl, rfl⟩

/-- a letter by its new name -/
def rnL (zs : List Int) (b : UInt8) : UInt8 := UInt8.ofNat (97 + (zs.getD (b.toNat - 97) 0).toNat)
/-- the first k letters of a word by their new names -/
def rnTo (zs : List Int) (s : ByteArray) (k : Nat) : ByteArray := ⟨((s.data.toList.take k).map (rnL zs)).toArray⟩
/-- a word by new names -/
def rnB (zs : List Int) (s : ByteArray) : ByteArray := ⟨(s.data.toList.map (rnL zs)).toArray⟩
theorem rnTo_zero (zs : List Int) (s : ByteArray) : rnTo zs s 0 = ⟨#[]⟩ := by simp [rnTo]
theorem rnTo_all (zs : List Int) (s : ByteArray) : rnTo zs s s.size = rnB zs s := by
  unfold rnTo rnB
  rw [List.take_of_length_le (by rw [← Lib.size_eq]; exact Nat.le_refl _)]
theorem rnTo_size (zs : List Int) (s : ByteArray) (k : Nat) (h : k ≤ s.size) : (rnTo zs s k).size = k := by
  rw [Lib.size_eq]
  simp only [rnTo, List.length_map, List.length_take]
  rw [← Lib.size_eq]
  omega
theorem abc_extract (j : Nat) (h : j ≤ 2) : (⟨#[97, 98, 99]⟩ : ByteArray).extract j (j + 1) = ⟨#[UInt8.ofNat (97 + j)]⟩ := by
  rcases (by omega : j = 0 ∨ j = 1 ∨ j = 2) with rfl | rfl | rfl <;> decide
theorem rnTo_succ (zs : List Int) (s : ByteArray) (k : Nat) (h : k < s.size) (j : Nat) (hj : j ≤ 2) (e : zs.getD (s[k].toNat - 97) 0 = j) : rnTo zs s (k + 1) = rnTo zs s k ++ (⟨#[97, 98, 99]⟩ : ByteArray).extract j (j + 1) := by
  rw [abc_extract j hj]
  apply data_inj
  have hl : k < s.data.toList.length := by rw [← Lib.size_eq]; exact h
  rw [ByteArray.data_append, Array.toList_append]
  show (s.data.toList.take (k + 1)).map (rnL zs) = (s.data.toList.take k).map (rnL zs) ++ _
  rw [List.take_succ_eq_append_getElem hl, List.map_append]
  congr 1
  show [rnL zs s[k]] = _
  unfold rnL
  rw [e]
  rfl
theorem nm_dup {zs : List Int} (h3 : zs.length = 3) (ha : zs.all inB = true) (k : Nat) (hk : k < 3) (h : (zs.take k).contains (zs.getD k 0) = true) : nmOk zs = false := by
  obtain ⟨x, y, z, rfl⟩ := three h3
  rcases (by omega : k = 0 ∨ k = 1 ∨ k = 2) with rfl | rfl | rfl
  · simp at h
  · have : y = x := by simpa using h
    subst this
    simp [nmOk]
  · have : z = x ∨ z = y := by simpa using h
    rcases this with e | e
    · subst e; simp [nmOk]
    · subst e; simp [nmOk]
theorem nm_all {zs : List Int} (h3 : zs.length = 3) (ha : zs.all inB = true) (h : ∀ k, k < 3 → (zs.take k).contains (zs.getD k 0) = false) : nmOk zs = true := by
  obtain ⟨x, y, z, rfl⟩ := three h3
  have h1 := h 1 (by omega)
  have h2 := h 2 (by omega)
  have e1 : ¬ y = x := by simpa using h1
  have e2 : ¬ z = x ∧ ¬ z = y := by simpa using h2
  unfold nmOk
  rw [ha]
  simp
  exact ⟨fun e => e1 e.symm, fun e => e2.1 e.symm, fun e => e2.2 e.symm⟩
theorem nm_no {zs : List Int} (ha : zs.all inB = false) : nmOk zs = false := by unfold nmOk; rw [ha]; simp
theorem nm_len {zs : List Int} (h : ¬ zs.length = 3) : nmOk zs = false := by unfold nmOk; rw [decide_eq_false h]; rfl
def reOk (ss : List ByteArray) (zs : List Int) : Bool := W.isSet ss && nmOk zs
def rns (zs : List Int) (ss : List ByteArray) : List ByteArray := ss.map (rnB zs)
def reOf (ss : List ByteArray) (zs : List Int) : List ByteArray := if reOk ss zs then ordB (rns zs ss) else []
theorem reOf_no {ss : List ByteArray} {zs : List Int} (h : reOk ss zs = false) : reOf ss zs = [] := by unfold reOf; rw [h]; rfl
theorem reOf_yes {ss : List ByteArray} {zs : List Int} (h : reOk ss zs = true) : reOf ss zs = ordB (rns zs ss) := by unfold reOf; rw [h]; rfl
theorem rns_length (zs : List Int) (ss : List ByteArray) : (rns zs ss).length = ss.length := by simp [rns]
theorem rns_succ (zs : List Int) (ss : List ByteArray) (k : Nat) (h : k < ss.length) : rns zs (ss.take (k + 1)) = rns zs (ss.take k) ++ [rnB zs (W.nth ss k)] := by
  unfold rns
  rw [List.take_succ_eq_append_getElem h, List.map_append, W.nth_lt ss k h]
  rfl
theorem reOf_len (ss : List ByteArray) (zs : List Int) : (reOf ss zs).length ≤ 1048576 := by
  cases h : reOk ss zs
  · rw [reOf_no h]; simp
  · rw [reOf_yes h]
    have h1 := ord_length (rns zs ss)
    unfold reOk at h
    rw [Bool.and_eq_true] at h
    have h2 := W.isSet_len ss h.1
    rw [rns_length] at h1
    omega
theorem fit_rns {ss : List ByteArray} (zs : List Int) (h : ss.length ≤ 12) : fitOk (rns zs ss) = true ∧ fitOf (rns zs ss) = ordB (rns zs ss) := by
  have h1 := ord_length (rns zs ss)
  rw [rns_length] at h1
  have e : fitOk (rns zs ss) = true := decide_eq_true (by omega)
  refine ⟨e, ?_⟩
  unfold fitOf
  rw [e]
  rfl
theorem short_letter {s : ByteArray} (h : W.short s = true) (k : Nat) (hk : k < s.size) : 97 ≤ s[k].toNat ∧ s[k].toNat ≤ 99 := by
  unfold W.short W.isWd at h
  rw [Bool.and_eq_true] at h
  have := List.all_eq_true.1 h.2 (s[k]) (List.getElem_mem (by rw [← Lib.size_eq]; exact hk))
  unfold W.isL at this
  exact of_decide_eq_true this

end Go.Proofs.YtbepplkpnhfifaaDoor
