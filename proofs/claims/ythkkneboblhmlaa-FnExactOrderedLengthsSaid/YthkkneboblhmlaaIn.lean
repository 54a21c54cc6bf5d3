/-
  WHAT THIS FILE PROVES: whether all numbers of a list lie within bounds: the specification's function tells it; asked: a slice of numbers in memory.
-/
import Derived.Test.YthkkneboblhmlaaMemI
import Derived.Test.YthkkneboblhmlaaIsSet
namespace Go.Proofs.Ythkkneboblhmlaa
open Go.RowKit

/-- within bounds -/
def inR (lo hi x : Int) : Bool := decide (lo ≤ x ∧ x ≤ hi)
theorem Row.int_at {w : World} {B : Nat} {A : Option Addr} {zs : List Int} (h : Row w B A (ints zs)) (h0 : 0 < zs.length) : ∃ b off, A = some ⟨b, off, none⟩ ∧ b < B ∧ ∀ k (hk : k < zs.length), w.cell? ⟨b, off + k, none⟩ = some (.int .i64 zs[k]) := by
  obtain ⟨b, off, e, hb, hc⟩ := h (by rw [ints_length]; exact h0)
  exact ⟨b, off, e, hb, fun k hk => hc k _ (ints_at zs k hk)⟩

set_option maxHeartbeats 800000 in
theorem spec_l1AllR (A : Option Addr) (zs : List Int) (c : Nat) (lo hi : Int) (w : World) (h : Row w w.heap.size A (ints zs)) (hl : zs.length ≤ 1099511627776) :
    Calls Try.prog 50 #[.slice A zs.length c, .int .i64 lo, .int .i64 hi] w fun e w' => e = .returned (.bool (zs.all (inR lo hi))) ∧ w = w' := by
  have Hn := Lib.hid (show ∀ k, k < zs.length → inR lo hi (zs.getD k 0) = false → zs.all (inR lo hi) = false from fun k hk e => by
    rw [List.getD_eq_getElem?_getD, List.getElem?_eq_getElem (by omega)] at e
    rw [List.all_eq_false]
    exact ⟨zs[k], List.getElem_mem hk, by rw [show inR lo hi zs[k] = false from e]; simp⟩)
  have Hno := Lib.hid (show (∀ k, k < zs.length → inR lo hi (zs.getD k 0) = true) → zs.all (inR lo hi) = true from fun hk => by
    rw [List.all_eq_true]
    intro y hy
    obtain ⟨i, hi', e⟩ := List.mem_iff_getElem.1 hy
    have := hk i hi'
    rw [List.getD_eq_getElem?_getD, List.getElem?_eq_getElem hi'] at this
    rw [← e]
    exact this)
  replace h := Lib.hid h
  generalize zs.all (inR lo hi) = r at Hn Hno ⊢
  go_enter Try.func50, Try.ntmps50
  go_wp2
  go_loop [11] (fun i => ∃ k : Nat, k ≤ zs.length ∧ i = .int .i64 k ∧ Hid (∀ j, j < k → inR lo hi (zs.getD j 0) = true)) (fun i => zs.length - (intOf i).toNat)
  case atStart => exact ⟨0, Nat.zero_le _, rfl, fun j hj => absurd hj (Nat.not_lt_zero _)⟩
  case round =>
    obtain ⟨k, hk, rfl, hno⟩ := hrel
    by_cases hlt : k < zs.length
    · obtain ⟨b, off, rfl, hb, hcc⟩ := Row.int_at h.out (by omega)
      have hlt' : (k : Int) < (zs.length : Int) := by omega
      have c1 := hcc k (by omega)
      have hg : zs.getD k 0 = zs[k] := by rw [List.getD_eq_getElem?_getD, List.getElem?_eq_getElem (by omega)]; rfl
      rw [← hg] at c1
      have Hk := Lib.hid (Hn.out k hlt)
      have Hk2 := Lib.hid (show inR lo hi (zs.getD k 0) = true → ∀ j, j < k + 1 → inR lo hi (zs.getD j 0) = true from fun e j hj => by
        rcases Nat.lt_succ_iff_lt_or_eq.1 hj with h | h
        · exact hno.out j h
        · rw [h]; exact e)
      clear hcc hg
      generalize zs.getD k 0 = y at c1 Hk Hk2
      have hin := fun W => spec_l1In y lo hi W
      rw [show decide (lo ≤ y ∧ y ≤ hi) = inR lo hi y from rfl] at hin
      cases hxy : inR lo hi y
      · have hr := Hk.out hxy
        subst hr
        rw [hxy] at hin
        replace hin := Lib.hid hin
        clear hxy Hk Hk2
        go_wp2_with (go_at_call 49; refine (hin.out _).mono ?_; rintro e w' ⟨rfl, rfl⟩)
        go_ret
        exact ⟨rfl, rfl⟩
      · have Hk3 : Hid (∀ j, j < k + 1 → inR lo hi (zs.getD j 0) = true) := Hk2.out hxy
        rw [hxy] at hin
        replace hin := Lib.hid hin
        clear hxy Hk Hk2
        go_wp2_with (go_at_call 49; refine (hin.out _).mono ?_; rintro e w' ⟨rfl, rfl⟩)
        go_round
        case rel => exact ⟨k + 1, by omega, by go_num, Hk3⟩
        case measure => simp [intOf]; omega
    · have hke : k = zs.length := by omega
      subst hke
      have hr := Hno.out hno.out
      subst hr
      go_wp2
      go_ret
      exact ⟨rfl, rfl⟩

end Go.Proofs.Ythkkneboblhmlaa
