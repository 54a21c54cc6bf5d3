/-
  WHAT THIS FILE PROVES: the library's search of a slice of texts for one of which a function value says yes: its index, or a negative number, and whether there is one; asked: rows that lie in memory, a function value that tells of each text, whatever has been put behind the heap.
-/
import Derived.Test.YtojcnalgjeojdaaGreatDoorIsSet
import Derived.Test.YtojcnalgjeojdaaGreatDoorMemS
import Derived.Test.YtojcnalgjeojdaaGreatDoorSets
import Derived.BigQuiet
namespace Go.Proofs.YtojcnalgjeojdaaGreatDoor
open Go.RowKit

/-- the function value tells p of each text of a list, in each later world, and turns nothing that was there -/
def Tells (g : Nat) (lb : Array Value) (p : ByteArray → Bool) (ss : List ByteArray) (w : World) : Prop :=
  ∀ (k : Nat) (u : World), k < ss.length → Below w.heap.size w u → Calls Tryz.prog g (#[.string (W.nth ss k)] ++ lb) u fun e u' => e = .returned (.bool (p (W.nth ss k))) ∧ Below u.heap.size u u'
/-- the first index, of the first k texts -/
def firstAt (p : ByteArray → Bool) (ss : List ByteArray) : Int := match ss.findIdx? p with
  | some i => (i : Int)
  | none => -1
theorem firstAt_hit (p : ByteArray → Bool) (ss : List ByteArray) (k : Nat) (hk : k < ss.length) (hn : ∀ j, j < k → p (W.nth ss j) = false) (hp : p (W.nth ss k) = true) : firstAt p ss = (k : Int) := by
  unfold firstAt
  have : ss.findIdx? p = some k := by
    rw [List.findIdx?_eq_some_iff_getElem]
    refine ⟨hk, by rw [← W.nth_lt ss k hk]; exact hp, fun j hj => ?_⟩
    have := hn j hj
    rw [W.nth_lt ss j (by omega)] at this
    rw [this]
    simp
  rw [this]
theorem firstAt_none (p : ByteArray → Bool) (ss : List ByteArray) (hn : ∀ j, j < ss.length → p (W.nth ss j) = false) : firstAt p ss = -1 := by
  unfold firstAt
  have : ss.findIdx? p = none := by
    rw [List.findIdx?_eq_none_iff]
    intro x hx
    obtain ⟨j, hj, rfl⟩ := List.getElem_of_mem hx
    have := hn j hj
    rwa [W.nth_lt ss j hj] at this
  rw [this]
theorem firstAt_any (p : ByteArray → Bool) (ss : List ByteArray) : decide (0 ≤ firstAt p ss) = ss.any p := by
  by_cases h : ∃ x ∈ ss, p x = true
  · have h2 : ss.any p = true := List.any_eq_true.2 h
    rw [h2]
    unfold firstAt
    cases he : ss.findIdx? p with
    | none =>
      rw [List.findIdx?_eq_none_iff] at he
      obtain ⟨x, hx, hp⟩ := h
      rw [he x hx] at hp
      cases hp
    | some i => simp
  · have h2 : ss.any p = false := by
      rw [List.any_eq_false]
      exact fun x hx hp => h ⟨x, hx, hp⟩
    rw [h2]
    unfold firstAt
    cases he : ss.findIdx? p with
    | none => rfl
    | some i =>
      rw [List.findIdx?_eq_some_iff_getElem] at he
      obtain ⟨hi, hp, _⟩ := he
      exact absurd ⟨_, List.getElem_mem hi, hp⟩ h

set_option maxHeartbeats 1600000 in
theorem index_func (g : Nat) (lb : Array Value) (eg : ∀ args w, (callFunc g args).run Tryz.prog w = .ok (.enter g args) w) (p : ByteArray → Bool) (A : Option Addr) (ss : List ByteArray) (c : Nat) (w : World) (h : Row w w.heap.size A (strs ss)) (hl : ss.length ≤ 262144) (hq : Tells g lb p ss w) :
    Calls Tryz.prog 42 #[.slice A ss.length c, .func (.func g) #[] lb] w fun e w' => e = .returned (.int .i64 (firstAt p ss)) ∧ Below w.heap.size w w' := by
  have Hhit := Lib.hid (firstAt_hit p ss)
  have Hnone := Lib.hid (firstAt_none p ss)
  generalize firstAt p ss = r at Hhit Hnone ⊢
  replace hq := Lib.hid hq
  replace h := Lib.hid h
  go_enter Tryz.func42, Tryz.ntmps42
  go_wp2
  go_loopw [8] (fun i wr => ∃ k : Nat, k ≤ ss.length ∧ i = .int .i64 k ∧ Hid (∀ j, j < k → p (W.nth ss j) = false) ∧ Below w.heap.size w wr) (fun i _ => ss.length - (intOf i).toNat)
  case atStart => exact ⟨0, Nat.zero_le _, rfl, fun j hj => absurd hj (Nat.not_lt_zero _), Below.refl _ _⟩
  case round =>
    obtain ⟨k, hk, rfl, hT, hB⟩ := hrel
    by_cases hlt : k < ss.length
    · obtain ⟨b, off, rfl, hb, hcc⟩ := h.out (by rw [strs_length]; omega)
      have hlt' : (k : Int) < (ss.length : Int) := by omega
      have c1 := (hB.cell (p := ⟨b, off + k, none⟩) hb).trans (hcc k _ (strs_nth ss k hlt))
      clear hcc
      have hq1 := Lib.hid (hq.out k wr hlt hB)
      have hO := Lib.hid hB
      have Hh := Lib.hid (Hhit.out k hlt hT.out)
      have HT := Lib.hid (show p (W.nth ss k) = false → ∀ j, j < k + 1 → p (W.nth ss j) = false from fun e j hj => by
        by_cases e2 : j = k
        · subst e2; exact e
        · exact hT.out j (by omega))
      generalize W.nth ss k = x at c1 hq1 Hh HT
      generalize hpx : p x = y at hq1 Hh HT
      clear hB hT
      go_wp2_with fail
      refine hq1.out.mono ?_
      rintro e w2 ⟨rfl, hB2⟩
      have hO2 := Lib.hid (hO.out.trans (hB2.mono hO.out.size))
      clear hB2 c1 hq1
      cases y
      · have HT2 := Lib.hid (HT.out rfl)
        go_wp2
        go_roundw
        case rel => exact ⟨k + 1, by omega, by go_num, HT2, hO2.out⟩
        case measure => simp [intOf]; omega
      · have Hr := Hh.out rfl
        subst Hr
        go_wp2
        go_ret
        exact ⟨rfl, hO2.out⟩
    · obtain rfl : k = ss.length := by omega
      have Hr := Hnone.out hT.out
      subst Hr
      have hO := Lib.hid hB
      clear hB hT
      go_wp2
      go_ret
      exact ⟨rfl, hO.out⟩
theorem contains_func (g : Nat) (lb : Array Value) (eg : ∀ args w, (callFunc g args).run Tryz.prog w = .ok (.enter g args) w) (p : ByteArray → Bool) (A : Option Addr) (ss : List ByteArray) (c : Nat) (w : World) (h : Row w w.heap.size A (strs ss)) (hl : ss.length ≤ 262144) (hq : Tells g lb p ss w) :
    Calls Tryz.prog 24 #[.slice A ss.length c, .func (.func g) #[] lb] w fun e w' => e = .returned (.bool (ss.any p)) ∧ Below w.heap.size w w' := by
  have hi := Lib.hid (index_func g lb eg p A ss c w h hl hq)
  rw [← firstAt_any]
  generalize firstAt p ss = r at hi ⊢
  clear h hq
  go_enter Tryz.func24, Tryz.ntmps24
  go_wp2_with fail
  refine hi.out.mono ?_
  rintro e w2 ⟨rfl, hB⟩
  replace hB := Lib.hid hB
  go_wp2
  go_ret
  exact ⟨rfl, hB.out⟩
end Go.Proofs.YtojcnalgjeojdaaGreatDoor
