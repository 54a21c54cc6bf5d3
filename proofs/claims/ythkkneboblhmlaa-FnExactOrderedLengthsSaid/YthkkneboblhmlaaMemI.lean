/-
  WHAT THIS FILE PROVES: what the checks' own functions over slices of ints do: equal ones are told equal, marks are laid and found again; asked: rows that lie in memory, lengths that an int holds.
-/
import Derived.Test.YthkkneboblhmlaaMem
namespace Go.Proofs.Ythkkneboblhmlaa
open Go.RowKit

def ints (xs : List Int) : List Value := xs.map (Value.int .i64)
theorem ints_length (xs : List Int) : (ints xs).length = xs.length := by simp [ints]
theorem ints_at (xs : List Int) (k : Nat) (h : k < xs.length) : (ints xs)[k]? = some (.int .i64 xs[k]) := by
  unfold ints
  rw [List.getElem?_map, List.getElem?_eq_getElem h]
  rfl

set_option maxHeartbeats 800000 in
/-- two slices of the same ints are told equal -/
theorem eqIntS_quiet (A A' : Option Addr) (xs : List Int) (c c' : Nat) (w : World) (h : Row w w.heap.size A (ints xs)) (h' : Row w w.heap.size A' (ints xs)) (hl : xs.length ≤ 9223372036854775807) :
    Calls Try.prog 9 #[.slice A xs.length c, .slice A' xs.length c'] w fun e w' => e = .returned (.bool true) ∧ ∃ q, w' = w.drewN q := by
  by_cases h0 : 0 < xs.length
  · obtain ⟨b, off, rfl, hb, hc⟩ := h (by rw [ints_length]; exact h0)
    obtain ⟨b', off', rfl, hb', hc'⟩ := h' (by rw [ints_length]; exact h0)
    replace hc := Lib.hid hc
    replace hc' := Lib.hid hc'
    clear h h'
    go_enter Try.func9, Try.ntmps9
    go_wp2
    go_loopw [5] (fun i wr => ∃ k : Nat, k ≤ xs.length ∧ i = .int .i64 k ∧ ∃ q, wr = w.drewN q) (fun i _ => xs.length - (intOf i).toNat)
    case atStart => exact ⟨0, Nat.zero_le _, rfl, 0, rfl⟩
    case round =>
      obtain ⟨k, hk, rfl, q, rfl⟩ := hrel
      by_cases hlt : k < xs.length
      · have hlt' : (k : Int) < (xs.length : Int) := by omega
        have c1 := hc.out k _ (ints_at xs k hlt)
        have c2 := hc'.out k _ (ints_at xs k hlt)
        generalize xs[k] = x at c1 c2
        go_wp2
        go_quiet (fail)
        go_wp2
        go_roundw
        case rel => exact ⟨k + 1, by omega, by go_num, q + nq, rfl⟩
        case measure => simp [intOf]; omega
      · go_wp2
        go_ret
        exact ⟨rfl, q, rfl⟩
  · have hn : xs = [] := List.eq_nil_of_length_eq_zero (by omega)
    subst hn
    go_enter Try.func9, Try.ntmps9
    go_wp2
    refine wp_loop_rounds 1 ?_
    rw [rounds_succ]
    go_wp2
    go_ret
    exact ⟨rfl, 0, rfl⟩
theorem eqIntS_same (A A' : Option Addr) (xs : List Int) (c c' : Nat) (w : World) (h : Row w w.heap.size A (ints xs)) (h' : Row w w.heap.size A' (ints xs)) (hl : xs.length ≤ 9223372036854775807) :
    Calls Try.prog 9 #[.slice A xs.length c, .slice A' xs.length c'] w fun e w' => e = .returned (.bool true) ∧ Below w.heap.size w w' :=
  (eqIntS_quiet A A' xs c c' w h h' hl).mono fun _ _ ⟨he, q, hw⟩ => ⟨he, by rw [hw]; exact below_drewN (Below.refl _ _) _⟩

/-- the marks k, k + 1, .. -/
def marks (k : Int) (n : Nat) : List Int := (List.range n).map fun (i : Nat) => k + (i : Int)
theorem marks_length (k : Int) (n : Nat) : (marks k n).length = n := by simp [marks]
theorem marks_at (k : Int) (n j : Nat) (h : j < n) : (marks k n)[j]'(by rw [marks_length]; exact h) = k + j := by simp [marks]
theorem marks_succ (k : Int) (j : Nat) : marks k (j + 1) = marks k j ++ [k + (j : Int)] := by simp [marks, List.range_succ]
theorem marks_set (k : Int) (xs : List Int) (j : Nat) (h : j < xs.length) : (marks k j ++ xs.drop j).set j (k + j) = marks k (j + 1) ++ xs.drop (j + 1) := by
  rw [List.set_append_right _ _ (by rw [marks_length]; exact Nat.le_refl _), marks_length, Nat.sub_self, marks_succ, List.drop_eq_getElem_cons h, List.set_cons_zero, List.append_assoc]
  rfl
theorem ints_set (xs : List Int) (j : Nat) (x : Int) : (ints xs).set j (.int .i64 x) = ints (xs.set j x) := by
  unfold ints
  rw [List.map_set]
theorem marked_length (k : Int) (xs : List Int) (j : Nat) (h : j ≤ xs.length) : (marks k j ++ xs.drop j).length = xs.length := by
  rw [List.length_append, marks_length, List.length_drop]
  omega

set_option maxHeartbeats 800000 in
/-- the marks are laid into a row of the call's own -/
theorem markIntS_own (A : Option Addr) (xs : List Int) (c base : Nat) (k : Int) (w : World) (hown : w.ownsRow base 3 1 (.slice A xs.length c) xs.length (ints xs)) (hk0 : 0 ≤ k) (hk1 : k ≤ 1099511627776) (hl : xs.length ≤ 1099511627776) :
    Calls Try.prog 10 #[.slice A xs.length c, .int .i64 k] w fun e w' => e = .returned (.int .i64 (k + xs.length)) ∧
      w'.ownsRow base 3 1 (.slice A xs.length c) xs.length (ints (marks k xs.length)) ∧ w.grownBy w' (Value.slice A xs.length c).ownBlock := by
  by_cases h0 : 0 < xs.length
  · obtain ⟨g, rfl, hbg, hlt⟩ := own_form hown h0
    replace hown := Lib.hid hown
    go_enter Try.func10, Try.ntmps10
    go_wp2
    go_loopw [1, 5] (fun m i wr => ∃ j : Nat, j ≤ xs.length ∧ i = .int .i64 j ∧ m = .int .i64 (k + j) ∧
        wr.ownsRow base 3 1 (.slice (some ⟨g, 0, none⟩) xs.length c) xs.length (ints (marks k j ++ xs.drop j)) ∧ w.grownBy wr (some g)) (fun _ i _ => xs.length - (intOf i).toNat)
    case atStart => exact ⟨0, Nat.zero_le _, rfl, by simp, by simpa [marks] using hown.out, ⟨rfl, rfl, rfl, Nat.le_refl _, fun _ _ _ => rfl⟩⟩
    case round =>
      obtain ⟨j, hj, rfl, rfl, ho, hg⟩ := hrel
      by_cases hlt2 : j < xs.length
      · have hlt' : (j : Int) < (xs.length : Int) := by omega
        have hc := ho.cellAt j (by omega)
        rw [ints_at _ j (by rw [marked_length _ _ _ hj]; exact hlt2)] at hc
        generalize (marks k j ++ xs.drop j)[j]'(by rw [marked_length _ _ _ hj]; exact hlt2) = old at hc
        have hf := ho.frozenAt j
        have hst := ho.stored j (.int .i64 (k + j))
        rw [ints_set, marks_set k xs j hlt2] at hst
        replace hst := Lib.hid hst
        clear ho
        replace hg := Lib.hid hg
        go_wp2
        go_roundw
        case rel => exact ⟨j + 1, by omega, by go_num, by go_num, hst.out.1, hg.out.trans hst.out.2⟩
        case measure => simp [intOf]; omega
      · obtain rfl : j = xs.length := by omega
        have hs := Lib.hid (And.intro ho hg)
        clear ho hg
        go_wp2
        go_ret
        refine ⟨rfl, ?_, hs.out.2⟩
        have := hs.out.1
        rwa [List.drop_length, List.append_nil] at this
  · have hn : xs = [] := List.eq_nil_of_length_eq_zero (by omega)
    subst hn
    have hs := Lib.hid hown
    clear hown
    go_enter Try.func10, Try.ntmps10
    go_wp2
    refine wp_loop_rounds 1 ?_
    rw [rounds_succ]
    go_wp2
    go_ret
    exact ⟨by simp, by simpa [marks] using hs.out, ⟨rfl, rfl, rfl, Nat.le_refl _, fun _ _ _ => rfl⟩⟩

set_option maxHeartbeats 800000 in
/-- the marks are found again -/
theorem heldIntS_marks (A : Option Addr) (n c : Nat) (k : Int) (w : World) (h : Row w w.heap.size A (ints (marks k n))) (hk0 : 0 ≤ k) (hk1 : k ≤ 1099511627776) (hl : n ≤ 1099511627776) :
    Calls Try.prog 11 #[.slice A n c, .int .i64 k] w fun e w' => e = .returned (.int .i64 (k + n)) ∧ w = w' := by
  by_cases h0 : 0 < n
  · obtain ⟨b, off, rfl, hb, hc⟩ := h (by rw [ints_length, marks_length]; exact h0)
    replace hc := Lib.hid hc
    clear h
    go_enter Try.func11, Try.ntmps11
    go_wp2
    go_loop [1, 5] (fun m i => ∃ j : Nat, j ≤ n ∧ i = .int .i64 j ∧ m = .int .i64 (k + j)) (fun _ i => n - (intOf i).toNat)
    case atStart => exact ⟨0, Nat.zero_le _, rfl, by simp⟩
    case round =>
      obtain ⟨j, hj, rfl, rfl⟩ := hrel
      by_cases hlt : j < n
      · have hlt' : (j : Int) < (n : Int) := by omega
        have c1 := hc.out j _ (ints_at _ j (by rw [marks_length]; exact hlt))
        rw [marks_at k n j hlt] at c1
        go_wp2
        go_round
        case rel => exact ⟨j + 1, by omega, by go_num, by go_num⟩
        case measure => simp [intOf]; omega
      · obtain rfl : j = n := by omega
        go_wp2
        go_ret
        exact ⟨rfl, rfl⟩
  · obtain rfl : n = 0 := by omega
    go_enter Try.func11, Try.ntmps11
    go_wp2
    refine wp_loop_rounds 1 ?_
    rw [rounds_succ]
    go_wp2
    go_ret
    exact ⟨by simp, rfl⟩

theorem marks_own {w : World} {base e c : Nat} {A : Option Addr} {n : Nat} {k : Int} (h : w.ownsRow base e 1 (.slice A n c) n (ints (marks k n))) : w.ownsRow base e 1 (.slice A n c) n (ints (marks k n)) := h
/-- the call hands back a slice of its own that reads as xs, and whether it is told; nothing that was there has turned -/
def OkInts (w0 : World) (xs : List Int) (ok : Bool) (e : Ending) (w' : World) : Prop :=
  ∃ A c, e = .returned (.tuple #[.slice A xs.length c, .bool ok]) ∧ w'.ownsRow w0.heap.size 3 1 (.slice A xs.length c) xs.length (ints xs) ∧ Below w0.heap.size w0 w'

theorem okInts_of {w0 w' : World} {xs : List Int} {ok : Bool} {v : Value} {base : Nat} (ho : w'.ownsRow base 3 1 v xs.length (ints xs)) (hb : w0.heap.size = base) (hB : Below w0.heap.size w0 w') : OkInts w0 xs ok (.returned (.tuple #[v, .bool ok])) w' := by
  subst hb
  obtain ⟨A, c, rfl⟩ := own_slice ho
  exact ⟨A, c, rfl, ho, hB⟩
theorem okInts_nil (w0 w' : World) (ok : Bool) (hB : Below w0.heap.size w0 w') : OkInts w0 [] ok (.returned (.tuple #[.slice none 0 0, .bool ok])) w' :=
  ⟨none, 0, rfl, World.ownsRow_nil _ _ _ _, hB⟩

/-- the call hands back a slice of its own that reads as xs; nothing that was there has turned -/
def GivesInts (w0 : World) (xs : List Int) (e : Ending) (w' : World) : Prop :=
  ∃ A c, e = .returned (.slice A xs.length c) ∧ w'.ownsRow w0.heap.size 3 1 (.slice A xs.length c) xs.length (ints xs) ∧ Below w0.heap.size w0 w'
theorem givesInts_of {w0 w' : World} {xs : List Int} {v : Value} {base : Nat} (ho : w'.ownsRow base 3 1 v xs.length (ints xs)) (hb : w0.heap.size = base) (hB : Below w0.heap.size w0 w') : GivesInts w0 xs (.returned v) w' := by
  subst hb
  obtain ⟨A, c, rfl⟩ := own_slice ho
  exact ⟨A, c, rfl, ho, hB⟩
theorem ints_snoc (xs : List Int) (x : Int) : ints (xs ++ [x]) = ints xs ++ [.int .i64 x] := by simp [ints]
theorem one_cell (x : Int) : ∀ u ∈ [Value.int .i64 x], u.oneCell' = true := fun u hu => by
  simp only [List.mem_cons, List.mem_nil_iff, or_false] at hu
  subst hu
  rfl

theorem infoInt : (Try.prog.info? 3).map (fun i => (i.zero, i.size, i.bytes)) = some (some (.int .i64 0), 1, 8) := by kernel_rfl

end Go.Proofs.Ythkkneboblhmlaa
