/-
  WHAT THIS FILE PROVES: the program's tests of weights and counts, and words with given counts: they give what the plain ones say; asked: slices in memory, lengths that an int holds.
-/
import Derived.Test.YthhiegcdocjfkaaDoorLe
import Derived.Test.YthhiegcdocjfkaaDoorIn
import Derived.Test.YthhiegcdocjfkaaDoorArith
import Derived.OwnWalk
import Derived.BigQuiet
namespace Go.Proofs.YthhiegcdocjfkaaDoor
open Go.RowKit Go.Shelf

theorem div_wrapM (a g : Nat) (h : a ≤ 4611686018427387904) : wrap64 ((a : Int) / (g : Int)) = ((a / g : Nat) : Int) := by
  have h1 := Nat.div_le_self a g
  rw [← Int.natCast_ediv]
  generalize a / g = q at h1 ⊢
  exact IntWalk.wrap64_in _ (by omega)
/-- what is left of m behind the first k of three numbers, if none of them is negative or too great -/
def flP (m x y v : Int) (k : Nat) (left : Int) : Prop :=
  (k = 0 ∧ left = m) ∨ (k = 1 ∧ left = m - x ∧ 0 ≤ x ∧ x ≤ m) ∨ (k = 2 ∧ left = m - x - y ∧ 0 ≤ x ∧ 0 ≤ y ∧ x + y ≤ m) ∨ (k = 3 ∧ left = m - x - y - v ∧ 0 ≤ x ∧ 0 ≤ y ∧ 0 ≤ v ∧ x + y + v ≤ m)
theorem flP_le {m x y v : Int} {k : Nat} {left : Int} (h : flP m x y v k left) (hm : 0 ≤ m) : 0 ≤ left ∧ left ≤ m := by
  rcases h with ⟨_, h⟩ | ⟨_, h⟩ | ⟨_, h⟩ | ⟨_, h⟩ <;> omega
theorem flP_no {m x y v : Int} {k : Nat} {left n : Int} (h : flP m x y v k left) (hk : k < 3) (hn : [x, y, v][k]? = some n) (hb : n < 0 ∨ left < n) : W.flB m [x, y, v] = false := by
  show decide (0 ≤ x ∧ 0 ≤ y ∧ 0 ≤ v ∧ x + y + v ≤ m) = false
  rw [decide_eq_false_iff_not]
  rcases h with ⟨rfl, h⟩ | ⟨rfl, h⟩ | ⟨rfl, h⟩ | ⟨rfl, h⟩
  · have e : x = n := by simpa using hn
    omega
  · have e : y = n := by simpa using hn
    omega
  · have e : v = n := by simpa using hn
    omega
  · omega
theorem flP_next {m x y v : Int} {k : Nat} {left n : Int} (h : flP m x y v k left) (hk : k < 3) (hn : [x, y, v][k]? = some n) (h0 : 0 ≤ n) (h1 : n ≤ left) : flP m x y v (k + 1) (left - n) := by
  rcases h with ⟨rfl, h⟩ | ⟨rfl, h⟩ | ⟨rfl, h⟩ | ⟨rfl, h⟩
  · have e : x = n := by simpa using hn
    exact .inr (.inl ⟨rfl, by omega, by omega, by omega⟩)
  · have e : y = n := by simpa using hn
    exact .inr (.inr (.inl ⟨rfl, by omega, by omega, by omega, by omega⟩))
  · have e : v = n := by simpa using hn
    exact .inr (.inr (.inr ⟨rfl, by omega, by omega, by omega, by omega, by omega⟩))
  · omega
theorem flP_all {m x y v : Int} {left : Int} (h : flP m x y v 3 left) : W.flB m [x, y, v] = true := by
  show decide (0 ≤ x ∧ 0 ≤ y ∧ 0 ≤ v ∧ x + y + v ≤ m) = true
  rw [decide_eq_true_eq]
  rcases h with ⟨h, _⟩ | ⟨h, _⟩ | ⟨h, _⟩ | ⟨_, h⟩
  · cases h
  · cases h
  · cases h
  · exact h.2
set_option maxHeartbeats 1600000 in
theorem impl_areForLetters (m : Int) (A : Option Addr) (z : List Int) (c : Nat) (w : World) (h : Row w w.heap.size A (ints z)) (hm : 0 ≤ m ∧ m ≤ 1000) :
    Calls Tryd.prog 49 #[.slice A z.length c, .int .i64 m] w fun e w' => e = .returned (.bool (W.flB m z)) ∧ w = w' := by
  by_cases hl : z.length = 3
  · obtain ⟨x, y, v, rfl⟩ := W.three hl
    obtain ⟨b, off, rfl, hb, hcc0⟩ := Row.int_at h (by simp)
    have hcc := Lib.hid (show ∀ k, k < 3 → ∃ n, [x, y, v][k]? = some n ∧ w.cell? ⟨b, off + k, none⟩ = some (.int .i64 n) from fun k hk => ⟨[x, y, v][k], List.getElem?_eq_getElem _, hcc0 k hk⟩)
    clear hcc0 h hl
    obtain ⟨r, hr⟩ : ∃ r, r = W.flB m [x, y, v] := ⟨_, rfl⟩
    rw [← hr]
    have Hno := Lib.hid (fun k left n (hP : flP m x y v k left) (hk : k < 3) (hn : [x, y, v][k]? = some n) (hb : n < 0 ∨ left < n) => hr.trans (flP_no hP hk hn hb))
    have Hall := Lib.hid (fun left (hP : flP m x y v 3 left) => hr.trans (flP_all hP))
    have hm1 := hm.1
    have hm2 := hm.2
    clear hr hm
    go_enter Tryd.func49, Tryd.ntmps49
    go_wp2
    go_loop [5, 14] (fun lf i => ∃ (k : Nat) (left : Int), k ≤ 3 ∧ i = .int .i64 k ∧ lf = .int .i64 left ∧ Hid (flP m x y v k left)) (fun _ i => 3 - (intOf i).toNat)
    case atStart => exact ⟨0, m, by omega, rfl, rfl, .inl ⟨rfl, rfl⟩⟩
    case round =>
      obtain ⟨k, left, hk, rfl, rfl, hP⟩ := hrel
      by_cases hlt : k < 3
      · have hlt' : (k : Int) < 3 := by omega
        obtain ⟨n, hn, c1⟩ := hcc.out k hlt
        have hl0 := flP_le hP.out hm1
        have hl1 := hl0.1
        have hl2 := hl0.2
        clear hl0
        by_cases h0 : n < 0
        · have hr0 := Hno.out k left n hP.out hlt hn (.inl h0)
          subst hr0
          clear hn
          go_wp2
          go_ret
          exact ⟨rfl, rfl⟩
        · by_cases h1 : left < n
          · have hr0 := Hno.out k left n hP.out hlt hn (.inr h1)
            subst hr0
            clear hn
            go_wp2
            go_ret
            exact ⟨rfl, rfl⟩
          · have hP2 := Lib.hid (flP_next hP.out hlt hn (by omega) (by omega))
            clear hn
            go_wp2
            go_round
            case rel => exact ⟨k + 1, left - n, by omega, by go_num, by go_num, hP2⟩
            case measure => simp [intOf]; omega
      · obtain rfl : k = 3 := by omega
        have hr0 := Hall.out left hP.out
        subst hr0
        go_wp2
        go_ret
        exact ⟨rfl, rfl⟩
  · rw [W.flB_len hl]
    have hl2 : ((z.length : Int) == 3) = false := beq_eq_false_iff_ne.2 (by omega)
    have hl3 : ((z.length : Int) != 3) = true := by simp; omega
    clear h hl
    go_enter Tryd.func49, Tryd.ntmps49
    go_wp2
    go_ret
    exact ⟨rfl, rfl⟩
end Go.Proofs.YthhiegcdocjfkaaDoor
