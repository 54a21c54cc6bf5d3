/-
  WHAT THIS FILE PROVES: the library's search of a slice of numbers for one of which a function value says yes: whether there is one; asked: a slice in memory, a function value that tells of each number in its world and leaves the world as it is.
-/
import Derived.Test.YthkkneboblhmlaaIn
namespace Go.Proofs.Ythkkneboblhmlaa
open Go.RowKit

/-- an index is found just if the function value says yes of some number -/
def FoundInt (p : Int → Bool) (z : List Int) (w : World) (e : Ending) (w' : World) : Prop := ∃ r : Int, e = .returned (.int .i64 r) ∧ decide (0 ≤ r) = z.any p ∧ w = w'
set_option maxHeartbeats 800000 in
theorem index_funcI (g : Nat) (lb : Array Value) (eg : ∀ args w, (callFunc g args).run Try.prog w = .ok (.enter g args) w) (p : Int → Bool) (A : Option Addr) (z : List Int) (c : Nat) (w : World) (h : Row w w.heap.size A (ints z)) (hl : z.length ≤ 9223372036854775807)
    (hq0 : ∀ x : Int, Calls Try.prog g (#[.int .i64 x] ++ lb) w fun e w' => e = .returned (.bool (p x)) ∧ w = w') :
    Calls Try.prog 66 #[.slice A z.length c, .func (.func g) #[] lb] w (FoundInt p z w) := by
  have hq := Lib.hid hq0
  have hf := Lib.hid (show ∀ k (hk : k < z.length), p z[k] = true → z.any p = true from fun k hk e => List.any_eq_true.2 ⟨z[k], List.getElem_mem hk, e⟩)
  have hs := Lib.hid (show ∀ k (hk : k < z.length), (z.take (k + 1)).any p = ((z.take k).any p || p z[k]) from fun k hk => by
    rw [List.take_succ_eq_append_getElem hk, List.any_append]
    simp)
  have hall := Lib.hid (show (z.take z.length).any p = z.any p by rw [List.take_length])
  have h0 : Hid ((z.take 0).any p = false) := rfl
  clear hq0
  replace h := Lib.hid h
  go_enter Try.func66, Try.ntmps66
  go_wp2
  go_loop [8] (fun i => ∃ k : Nat, k ≤ z.length ∧ i = .int .i64 k ∧ Hid ((z.take k).any p = false)) (fun i => z.length - (intOf i).toNat)
  case atStart => exact ⟨0, Nat.zero_le _, rfl, h0⟩
  case round =>
    obtain ⟨k, hk, rfl, hT⟩ := hrel
    by_cases hlt : k < z.length
    · obtain ⟨b, off, rfl, hb, hcc⟩ := Row.int_at h.out (by omega)
      have hlt' : (k : Int) < (z.length : Int) := by omega
      have c1 := hcc k hlt
      clear hcc
      have hf1 := Lib.hid (hf.out k hlt)
      have hs1 := Lib.hid (hs.out k hlt)
      generalize z[k] = l at c1 hf1 hs1
      have hq1 := hq.out l
      cases hd : p l
      · rw [hd] at hq1
        replace hq1 := Lib.hid hq1
        have hT2 : Hid ((z.take (k + 1)).any p = false) := by show _ = _; rw [hs1.out, hT.out, hd]; rfl
        clear hd hs1 hf1
        go_wp2_with fail
        refine hq1.out.mono ?_
        rintro e w' ⟨rfl, rfl⟩
        go_wp2
        go_round
        case rel => exact ⟨k + 1, by omega, by go_num, hT2⟩
        case measure => simp [intOf]; omega
      · rw [hd] at hq1
        replace hq1 := Lib.hid hq1
        have ha := Lib.hid (hf1.out hd)
        clear hd hs1 hf1
        go_wp2_with fail
        refine hq1.out.mono ?_
        rintro e w' ⟨rfl, rfl⟩
        go_wp2
        go_ret
        exact ⟨k, rfl, by rw [ha.out]; simp, rfl⟩
    · obtain rfl : k = z.length := by omega
      have ha := Lib.hid (hall.out.symm.trans hT.out)
      go_wp2
      go_ret
      exact ⟨-1, rfl, by rw [ha.out]; rfl, rfl⟩
theorem contains_funcI (g : Nat) (lb : Array Value) (eg : ∀ args w, (callFunc g args).run Try.prog w = .ok (.enter g args) w) (p : Int → Bool) (A : Option Addr) (z : List Int) (c : Nat) (w : World) (h : Row w w.heap.size A (ints z)) (hl : z.length ≤ 9223372036854775807)
    (hq0 : ∀ x : Int, Calls Try.prog g (#[.int .i64 x] ++ lb) w fun e w' => e = .returned (.bool (p x)) ∧ w = w') :
    Calls Try.prog 61 #[.slice A z.length c, .func (.func g) #[] lb] w fun e w' => e = .returned (.bool (z.any p)) ∧ w = w' := by
  have hq := Lib.hid (index_funcI g lb eg p A z c w h hl hq0)
  generalize hd : z.any p = r
  replace hd := Lib.hid hd
  clear h hq0
  go_enter Try.func61, Try.ntmps61
  go_wp2_with fail
  refine hq.out.mono ?_
  rintro e w' ⟨x, rfl, hx, rfl⟩
  rw [hd.out] at hx
  subst hx
  go_wp2
  go_ret
  exact ⟨rfl, rfl⟩
end Go.Proofs.Ythkkneboblhmlaa
