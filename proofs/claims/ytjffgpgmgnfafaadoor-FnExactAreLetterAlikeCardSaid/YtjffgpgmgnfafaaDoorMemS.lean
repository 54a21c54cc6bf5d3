/-
  WHAT THIS FILE PROVES: what the checks' own functions over slices of texts do: their sizes are told, they are copied, equal ones are told equal, marks are laid and found again; asked: rows that lie in memory, lengths that an int holds.
-/
import Derived.Test.YtjffgpgmgnfafaaDoorMem
import Derived.Deep.OwnRows
import Derived.Laws.IdiomStrings
import Derived.Deep.RegionHeld3
namespace Go.Proofs.YtjffgpgmgnfafaaDoor
open Go.RowKit

def strs (ss : List ByteArray) : List Value := ss.map Value.string
theorem strs_length (ss : List ByteArray) : (strs ss).length = ss.length := by simp [strs]
theorem strs_at (ss : List ByteArray) (k : Nat) (h : k < ss.length) : (strs ss)[k]? = some (.string ss[k]) := by
  unfold strs
  rw [List.getElem?_map, List.getElem?_eq_getElem h]
  rfl
theorem strs_set (ss : List ByteArray) (j : Nat) (x : ByteArray) : (strs ss).set j (.string x) = strs (ss.set j x) := by
  unfold strs
  rw [List.map_set]
/-- the first j of the one list, then what is left of the other -/
def mix {α : Type} (ys xs : List α) (j : Nat) : List α := ys.take j ++ xs.drop j
theorem mix_length {α : Type} (ys xs : List α) (j : Nat) (h : ys.length = xs.length) : (mix ys xs j).length = xs.length := by
  unfold mix
  rw [List.length_append, List.length_take, List.length_drop]
  omega
theorem mix_zero {α : Type} (ys xs : List α) : mix ys xs 0 = xs := by simp [mix]
theorem mix_all {α : Type} (ys xs : List α) (h : ys.length = xs.length) : mix ys xs ys.length = ys := by
  unfold mix
  rw [List.take_length, h, List.drop_length, List.append_nil]
theorem mix_set {α : Type} (ys xs : List α) (j : Nat) (h : ys.length = xs.length) (hj : j < ys.length) : (mix ys xs j).set j ys[j] = mix ys xs (j + 1) := by
  unfold mix
  have hl : (ys.take j).length = j := by rw [List.length_take]; omega
  rw [List.set_append_right _ _ (by rw [hl]; exact Nat.le_refl _), hl, Nat.sub_self, List.take_succ_eq_append_getElem hj, List.drop_eq_getElem_cons (show j < xs.length by omega), List.set_cons_zero, List.append_assoc]
  rfl

theorem infoStr : (Tryd.prog.info? 9).map (fun i => (i.zero, i.size, i.bytes)) = some (some (.string ByteArray.empty), 1, 16) := by kernel_rfl

/-- what is told of sizes: a negative number, or none of them passes a million -/
def SzPost (w : World) (L : Int) (ss : List ByteArray) (e : Ending) (w' : World) : Prop :=
  ∃ r : Int, e = .returned (.int .i64 r) ∧ w = w' ∧ -1 ≤ r ∧ r ≤ L ∧ (0 ≤ r → ss.length ≤ 1048576 ∧ ∀ s ∈ ss, s.size ≤ 1048576)

set_option maxHeartbeats 800000 in
theorem szStringS_any (A : Option Addr) (ss : List ByteArray) (c : Nat) (L : Int) (w : World) (h : Row w w.heap.size A (strs ss)) (hl : ss.length ≤ 9223372036854775807) (hs : ∀ s ∈ ss, s.size ≤ 9223372036854775807) (hL0 : 0 ≤ L) (hL1 : L ≤ 1048576) :
    Calls Tryd.prog 5 #[.slice A ss.length c, .int .i64 L] w (SzPost w L ss) := by
  by_cases h0 : L - (ss.length : Int) < 0
  · go_enter Tryd.func5, Tryd.ntmps5
    go_wp2
    go_ret
    exact ⟨-1, rfl, rfl, by omega, by omega, fun h => by omega⟩
  · replace hs := Lib.hid hs
    replace h := Lib.hid h
    go_enter Tryd.func5, Tryd.ntmps5
    go_wp2
    go_loop [1, 5] (fun l i => ∃ (k : Nat) (r : Int), k ≤ ss.length ∧ i = .int .i64 k ∧ l = .int .i64 r ∧ 0 ≤ r ∧ r ≤ L ∧ ∀ j (hj : j < ss.length), j < k → ss[j].size ≤ 1048576) (fun _ i => ss.length - (intOf i).toNat)
    case atStart => exact ⟨0, L - ss.length, Nat.zero_le _, rfl, rfl, by omega, by omega, fun _ _ h => by omega⟩
    case round =>
      obtain ⟨k, r, hk, rfl, rfl, hr0, hr1, hall⟩ := hrel
      replace hall := Lib.hid hall
      by_cases hlt : k < ss.length
      · obtain ⟨b, off, rfl, hb, hc⟩ := h.out (by rw [strs_length]; omega)
        have hlt' : (k : Int) < (ss.length : Int) := by omega
        have c1 := hc k _ (strs_at ss k hlt)
        clear hc
        have hsz := hs.out ss[k] (List.getElem_mem hlt)
        have Hx : Hid (∃ x, x = ss[k]) := ⟨_, rfl⟩
        obtain ⟨x, hx⟩ := Hx.out
        rw [← hx] at c1 hsz
        replace hx := Lib.hid hx
        clear Hx
        by_cases hn : r - (x.size : Int) < 0
        · go_wp2
          go_ret
          exact ⟨-1, rfl, rfl, by omega, by omega, fun h => by omega⟩
        · go_wp2
          go_round
          case rel =>
            refine ⟨k + 1, r - x.size, by omega, by go_num, rfl, by omega, by omega, fun j hj hjk => ?_⟩
            by_cases e : j = k
            · subst e
              rw [← hx.out]
              omega
            · exact hall.out j hj (by omega)
          case measure => simp [intOf]; omega
      · go_wp2
        go_ret
        refine ⟨r, rfl, rfl, by omega, by omega, fun _ => ⟨by omega, fun s hs => ?_⟩⟩
        obtain ⟨j, hj, rfl⟩ := List.getElem_of_mem hs
        exact hall.out j hj (by omega)


/-- the call hands back a slice of its own that reads as ss; nothing that was there has turned -/
def GivesStrs (w0 : World) (ss : List ByteArray) (e : Ending) (w' : World) : Prop :=
  ∃ A c, e = .returned (.slice A ss.length c) ∧ w'.ownsRow w0.heap.size 9 1 (.slice A ss.length c) ss.length (strs ss) ∧ Below w0.heap.size w0 w'

set_option maxHeartbeats 800000 in
theorem toStringS_any (A : Option Addr) (ss : List ByteArray) (c : Nat) (w : World) (h : Row w w.heap.size A (strs ss)) (hl : ss.length ≤ 1048576) :
    Calls Tryd.prog 7 #[.slice A ss.length c] w (GivesStrs w ss) := by
  have hmk := fun w => run_make_row' (P := Tryd.prog) 22 9 (.string ByteArray.empty) 16 Tryd.underlying22 infoStr rfl .i64 .i64 ss.length (by omega) (by omega) w
  have hown0 : (w.alloc (.cells (madeCells #[.string ByteArray.empty] ss.length) 9)).ownsRow w.heap.size 9 1 (.slice (some ⟨w.heap.size, 0, none⟩) ss.length ss.length) ss.length (strs (List.replicate ss.length ByteArray.empty)) := by
    have := World.ownsRow_lit (base := w.heap.size) (e := 9) (size := 1) w (madeCells #[.string ByteArray.empty] ss.length) ss.length (Nat.le_refl _) (by unfold maxLen; omega) (by rw [size_madeCells]; omega)
    rw [toList_madeCells_one] at this
    simpa [strs] using this
  replace hown0 := Lib.hid hown0
  have hl' : (List.replicate ss.length ByteArray.empty).length = ss.length := List.length_replicate
  replace hl' := Lib.hid hl'
  replace h := Lib.hid h
  go_enter Tryd.func7, Tryd.ntmps7
  go_wp2
  go_loopw [4] (fun i wr => ∃ k : Nat, k ≤ ss.length ∧ i = .int .i64 k ∧
      wr.ownsRow w.heap.size 9 1 (.slice (some ⟨w.heap.size, 0, none⟩) ss.length ss.length) ss.length (strs (mix ss (List.replicate ss.length ByteArray.empty) k)) ∧ Below w.heap.size w wr) (fun i _ => ss.length - (intOf i).toNat)
  case atStart => exact ⟨0, Nat.zero_le _, rfl, by rw [mix_zero]; exact hown0.out, (Below.refl _ _).alloc (Nat.le_refl _) _⟩
  case round =>
    obtain ⟨k, hk, rfl, ho, hB⟩ := hrel
    by_cases hlt : k < ss.length
    · have hlt' : (k : Int) < (ss.length : Int) := by omega
      obtain ⟨b, off, rfl, hb, hc⟩ := h.out (by rw [strs_length]; omega)
      have c0 := (hB.cell (p := ⟨b, off + k, none⟩) hb).trans (hc k _ (strs_at ss k hlt))
      clear hc
      have c1 := ho.cellAt k (by omega)
      rw [strs_at _ k (by rw [mix_length _ _ _ hl'.out.symm, hl'.out]; exact hlt)] at c1
      generalize (mix ss (List.replicate ss.length ByteArray.empty) k)[k]'(by rw [mix_length _ _ _ hl'.out.symm, hl'.out]; exact hlt) = old at c1
      have hf := ho.frozenAt k
      have hst := ho.stored k (.string ss[k])
      rw [strs_set, mix_set ss _ k hl'.out.symm hlt] at hst
      replace hst := Lib.hid hst
      have hO := Lib.hid hB
      clear ho hB
      go_wp2
      go_roundw
      case rel => exact ⟨k + 1, by omega, by go_num, hst.out.1, hO.out.grown hst.out.2 hO.out.size (fun g hg => by injection hg with hg; omega)⟩
      case measure => simp [intOf]; omega
    · obtain rfl : k = ss.length := by omega
      have hO := Lib.hid (And.intro ho hB)
      clear ho hB
      go_wp2
      go_ret
      refine ⟨_, _, rfl, ?_, hO.out.2⟩
      have := hO.out.1
      rwa [mix_all _ _ hl'.out.symm] at this

set_option maxHeartbeats 800000 in
/-- two slices of the same texts are told equal -/
theorem eqStringS_quiet (A A' : Option Addr) (ss : List ByteArray) (c c' : Nat) (w : World) (h : Row w w.heap.size A (strs ss)) (h' : Row w w.heap.size A' (strs ss)) (hl : ss.length ≤ 9223372036854775807) :
    Calls Tryd.prog 9 #[.slice A ss.length c, .slice A' ss.length c'] w fun e w' => e = .returned (.bool true) ∧ ∃ q, w' = w.drewN q := by
  by_cases h0 : 0 < ss.length
  · obtain ⟨b, off, rfl, hb, hc⟩ := h (by rw [strs_length]; exact h0)
    obtain ⟨b', off', rfl, hb', hc'⟩ := h' (by rw [strs_length]; exact h0)
    replace hc := Lib.hid hc
    replace hc' := Lib.hid hc'
    clear h h'
    go_enter Tryd.func9, Tryd.ntmps9
    go_wp2
    go_loopw [5] (fun i wr => ∃ k : Nat, k ≤ ss.length ∧ i = .int .i64 k ∧ ∃ q, wr = w.drewN q) (fun i _ => ss.length - (intOf i).toNat)
    case atStart => exact ⟨0, Nat.zero_le _, rfl, 0, rfl⟩
    case round =>
      obtain ⟨k, hk, rfl, q, rfl⟩ := hrel
      by_cases hlt : k < ss.length
      · have hlt' : (k : Int) < (ss.length : Int) := by omega
        have c1 := hc.out k _ (strs_at ss k hlt)
        have c2 := hc'.out k _ (strs_at ss k hlt)
        generalize ss[k] = x at c1 c2
        go_wp2
        go_quiet (fail)
        go_wp2
        go_roundw
        case rel => exact ⟨k + 1, by omega, by go_num, q + nq, rfl⟩
        case measure => simp [intOf]; omega
      · go_wp2
        go_ret
        exact ⟨rfl, q, rfl⟩
  · have hn : ss = [] := List.eq_nil_of_length_eq_zero (by omega)
    subst hn
    go_enter Tryd.func9, Tryd.ntmps9
    go_wp2
    refine wp_loop_rounds 1 ?_
    rw [rounds_succ]
    go_wp2
    go_ret
    exact ⟨rfl, 0, rfl⟩
theorem eqStringS_same (A A' : Option Addr) (ss : List ByteArray) (c c' : Nat) (w : World) (h : Row w w.heap.size A (strs ss)) (h' : Row w w.heap.size A' (strs ss)) (hl : ss.length ≤ 9223372036854775807) :
    Calls Tryd.prog 9 #[.slice A ss.length c, .slice A' ss.length c'] w fun e w' => e = .returned (.bool true) ∧ Below w.heap.size w w' :=
  (eqStringS_quiet A A' ss c c' w h h' hl).mono fun _ _ ⟨he, q, hw⟩ => ⟨he, by rw [hw]; exact below_drewN (Below.refl _ _) _⟩

/-- the digits of k ahead of o -/
def digs (k : Nat) (o : ByteArray) : ByteArray := if k = 0 then o else digs (k / 10) (⟨#[48 + UInt8.ofNat (k % 10)]⟩ ++ o)
termination_by k
decreasing_by omega
/-- the text of a mark -/
def mt (k : Int) : ByteArray := ⟨#[109]⟩ ++ digs k.toNat ByteArray.empty

/-- the texts of n marks from k on -/
def mts (k : Int) (n : Nat) : List ByteArray := (List.range n).map fun (i : Nat) => mt (k + (i : Int))
theorem mts_length (k : Int) (n : Nat) : (mts k n).length = n := by simp [mts]
theorem mts_at (k : Int) (n j : Nat) (h : j < n) : (mts k n)[j]'(by rw [mts_length]; exact h) = mt (k + j) := by simp [mts]


/-- the call hands back a slice of its own that reads as ss, and whether it is told; nothing that was there has turned -/
def OkStrs (w0 : World) (ss : List ByteArray) (ok : Bool) (e : Ending) (w' : World) : Prop :=
  ∃ A c, e = .returned (.tuple #[.slice A ss.length c, .bool ok]) ∧ w'.ownsRow w0.heap.size 9 1 (.slice A ss.length c) ss.length (strs ss) ∧ Below w0.heap.size w0 w'
theorem okStrs_of {w0 w' : World} {ss : List ByteArray} {ok : Bool} {v : Value} {base : Nat} (ho : w'.ownsRow base 9 1 v ss.length (strs ss)) (hb : w0.heap.size = base) (hB : Below w0.heap.size w0 w') : OkStrs w0 ss ok (.returned (.tuple #[v, .bool ok])) w' := by
  subst hb
  obtain ⟨A, c, rfl⟩ := own_slice ho
  exact ⟨A, c, rfl, ho, hB⟩
theorem okStrs_nil (w0 w' : World) (ok : Bool) (hB : Below w0.heap.size w0 w') : OkStrs w0 [] ok (.returned (.tuple #[.slice none 0 0, .bool ok])) w' :=
  ⟨none, 0, rfl, World.ownsRow_nil _ _ _ _, hB⟩
theorem givesStrs_of {w0 w' : World} {ss : List ByteArray} {v : Value} {base : Nat} (ho : w'.ownsRow base 9 1 v ss.length (strs ss)) (hb : w0.heap.size = base) (hB : Below w0.heap.size w0 w') : GivesStrs w0 ss (.returned v) w' := by
  subst hb
  obtain ⟨A, c, rfl⟩ := own_slice ho
  exact ⟨A, c, rfl, ho, hB⟩
theorem strs_snoc (ss : List ByteArray) (x : ByteArray) : strs (ss ++ [x]) = strs ss ++ [.string x] := by simp [strs]
theorem one_text (x : ByteArray) : ∀ u ∈ [Value.string x], u.oneCell' = true := fun u hu => by
  simp only [List.mem_cons, List.mem_nil_iff, or_false] at hu
  subst hu
  rfl

end Go.Proofs.YtjffgpgmgnfafaaDoor
