/-
  WHAT THIS FILE PROVES: the library's Concat of two slices of numbers hands back a slice of the call's own with the numbers of both; asked: rows that lie in memory, room.
-/
import Derived.Test.YtnfimfapdmkobaaShelf
import Derived.Test.YtnfimfapdmkobaaAppend
import Derived.Test.YtnfimfapdmkobaaMemI
import Derived.Shelf.Spec.SlicesGrow
namespace Go.Proofs.Ytnfimfapdmkobaa
open Go.RowKit Go.Shelf

theorem intsCells (zs : List Int) : ∀ u ∈ ints zs, u.oneCell' = true := fun u hu => by
  unfold ints at hu
  rw [List.mem_map] at hu
  obtain ⟨x, _, rfl⟩ := hu
  rfl
theorem intsAppend (a b : List Int) : ints (a ++ b) = ints a ++ ints b := by simp [ints]

theorem info6I : ∃ i0, Try.prog.info? 3 = some i0 ∧ i0.zero = some (.int .i64 0) ∧ i0.size = 1 ∧ i0.bytes = 8 := by
  obtain ⟨i0, hi, h⟩ := info_parts infoInt
  exact ⟨i0, hi, h⟩

/-- slices.Grow of nil: room for n texts, none of them there. -/
theorem grow_nilI (n : Nat) (w : World) (hn : n ≤ 1048576) :
    Calls Try.prog 29 #[.slice none 0 0, .int .i64 n] w fun e w' => ∃ v, e = .returned v ∧ w'.ownsRow w.heap.size 3 1 v 0 [] ∧ Below w.heap.size w w' := by
  by_cases h0 : n = 0
  · subst h0
    refine (Any8.slices_Grow_room Try.growI none 0 0 0 w (by omega) (by omega) (by omega) (by omega)).mono fun e w' ⟨he, hw⟩ => ⟨_, he, ?_, ?_⟩
    · rw [hw]; exact World.ownsRow_nil _ _ _ _
    · rw [hw]; exact Below.refl _ _
  · obtain ⟨i0, hi, hz, hs, hb⟩ := info6I
    have hbig : (0 + n) * i0.bytes ≤ 140737488355328 := by rw [hb]; omega
    refine (Any8.slices_Grow_grow Try.growI i0 (.int .i64 0) hi hz (by omega) none 0 0 n [] w (by omega) (by omega) hbig (by omega) (by simp) (fun _ => rfl) (fun a h => by cases h)).mono fun e w' ⟨he, hw⟩ => ⟨_, he, ?_, ?_⟩
    · simp only [show Try.growI_ren.t 25 = 3 from rfl] at hw ⊢
      rw [hw]
      have hle := grownCap_ge w (0 + n) 0 3
      have hmx := grownCap_le_maxLen w (0 + n) 0 3 (by unfold maxLen; omega)
      generalize grownCap w (0 + n) 0 3 = G at hle hmx ⊢
      refine World.ownsRow_made w.drew _ _ (Nat.le_refl _) hmx ?_
      simp only [Array.size_append, size_zeroCells]
      show ([] : List Value).toArray.size + (0 + n - 0) * 1 + (G - (0 + n)) * 1 = G * 1
      simp
      omega
    · rw [hw]
      exact (Below.refl _ _).drew.alloc (Nat.le_refl _) _

set_option maxHeartbeats 3200000 in
theorem slices_Concat2I (bc : Nat) (A1 A2 : Option Addr) (s1 s2 : List Int) (c1 c2 : Nat) (w : World) (hb : bc < w.heap.size)
    (e1 : w.cell? ⟨bc, 0, none⟩ = some (.slice A1 s1.length c1)) (e2 : w.cell? ⟨bc, 1, none⟩ = some (.slice A2 s2.length c2))
    (h1 : Row w w.heap.size A1 (ints s1)) (h2 : Row w w.heap.size A2 (ints s2)) (l1 : s1.length ≤ 262144) (l2 : s2.length ≤ 262144) :
    Calls Try.prog 27 #[.slice (some ⟨bc, 0, none⟩) 2 2] w (GivesInts w (s1 ++ s2)) := by
  obtain ⟨i0, hinfo⟩ := info6I
  have HR := Lib.hid hinfo
  have HE := Lib.hid (And.intro e1 e2)
  have HS := Lib.hid (And.intro h1 h2)
  have hg : Hid (∀ W, Calls Try.prog 29 #[.slice none 0 0, .int .i64 ((s1.length : Int) + (s2.length : Int))] W fun e w' => ∃ v, e = .returned v ∧ w'.ownsRow W.heap.size 3 1 v 0 [] ∧ Below W.heap.size W w') := fun W => by
    have := grow_nilI (s1.length + s2.length) W (by omega)
    rwa [Int.natCast_add] at this
  clear hinfo h1 h2
  go_enter Try.func27, Try.ntmps27
  go_wp2
  go_loop [3, 11] (fun z i => (i = .int .i64 0 ∧ z = .int .i64 0) ∨ (i = .int .i64 1 ∧ z = .int .i64 (s1.length : Int)) ∨ (i = .int .i64 2 ∧ z = .int .i64 ((s1.length : Int) + (s2.length : Int)))) (fun _ i => 2 - (intOf i).toNat)
  case atStart => exact .inl ⟨rfl, rfl⟩
  case round =>
    rcases hrel with ⟨rfl, rfl⟩ | ⟨rfl, rfl⟩ | ⟨rfl, rfl⟩
    · go_wp2
      exact ⟨.inr (.inl ⟨rfl, by simp⟩), by simp [intOf]⟩
    · go_wp2
      exact ⟨.inr (.inr ⟨rfl, rfl⟩), by simp [intOf]⟩
    · go_wp2_with fail
      refine (hg.out _).mono ?_
      rintro e w1 ⟨v1, rfl, ho1, hB1⟩
      have H1 := Lib.hid (And.intro ho1 hB1)
      clear ho1 hB1
      clear e1 e2
      go_wp2_with fail
      go_loopw [6, 27] (fun v i wr => Below w.heap.size w wr ∧ ((i = .int .i64 0 ∧ wr.ownsRow w.heap.size 3 1 v 0 []) ∨ (i = .int .i64 1 ∧ wr.ownsRow w.heap.size 3 1 v s1.length (ints s1)) ∨ (i = .int .i64 2 ∧ wr.ownsRow w.heap.size 3 1 v (s1.length + s2.length) (ints s1 ++ ints s2)))) (fun _ i _ => 2 - (intOf i).toNat)
      case atStart => exact ⟨H1.out.2, .inl ⟨rfl, H1.out.1⟩⟩
      case round =>
        obtain ⟨hB, hrel⟩ := hrel
        have e1 := (hB.cell (p := ⟨bc, 0, none⟩) hb).trans HE.out.1
        have e2 := (hB.cell (p := ⟨bc, 1, none⟩) hb).trans HE.out.2
        have hbs := hB.size
        rcases hrel with ⟨rfl, ho⟩ | ⟨rfl, ho⟩ | ⟨rfl, ho⟩
        · have hO := Lib.hid (And.intro ho (And.intro hB (HS.out.1.below hB)))
          clear ho hB e2
          go_wp2_with (at_builtin; refine wpList_append_row _ rfl _ _ 34 rfl w.heap.size 3 i0 _ 8 Try.underlying34 HR.out.1 HR.out.2.1 HR.out.2.2.1 HR.out.2.2.2 rfl _ 0 [] rfl hO.out.1 w.heap.size A1 c1 (ints s1) (by rw [ints_length]; rfl) hO.out.2.2 (intsCells _) (by rw [ints_length]; unfold maxLen; omega) (by rw [ints_length]; omega) hbs ?_)
          intro v2 w2 ho2 hg2
          have hF := Lib.hid (And.intro ho2 hg2)
          clear ho2 hg2
          go_wp2
          go_roundw
          case rel =>
            refine ⟨hO.out.2.1.grown hF.out.2 hbs (fun g hg => (hO.out.1.lt g hg).1), .inr (.inl ⟨rfl, ?_⟩)⟩
            have := hF.out.1
            first | exact this | rwa [ints_length] at this | rwa [ints_length, Nat.zero_add, List.nil_append] at this
          case measure => simp [intOf]
        · have hO := Lib.hid (And.intro ho (And.intro hB (HS.out.2.below hB)))
          clear ho hB e1
          go_wp2_with (at_builtin; refine wpList_append_row _ rfl _ _ 34 rfl w.heap.size 3 i0 _ 8 Try.underlying34 HR.out.1 HR.out.2.1 HR.out.2.2.1 HR.out.2.2.2 rfl _ s1.length (ints s1) rfl hO.out.1 w.heap.size A2 c2 (ints s2) (by rw [ints_length]; rfl) hO.out.2.2 (intsCells _) (by rw [ints_length]; unfold maxLen; omega) (by rw [ints_length]; omega) hbs ?_)
          intro v2 w2 ho2 hg2
          have hF := Lib.hid (And.intro ho2 hg2)
          clear ho2 hg2
          go_wp2
          go_roundw
          case rel =>
            refine ⟨hO.out.2.1.grown hF.out.2 hbs (fun g hg => (hO.out.1.lt g hg).1), .inr (.inr ⟨rfl, ?_⟩)⟩
            have := hF.out.1
            first | exact this | rwa [ints_length] at this
          case measure => simp [intOf]
        · have hO := Lib.hid (And.intro ho hB)
          clear ho hB e1 e2
          go_wp2
          go_ret
          refine givesInts_of (base := w.heap.size) ?_ rfl hO.out.2
          have := hO.out.1
          rw [intsAppend, List.length_append]
          exact this

end Go.Proofs.Ytnfimfapdmkobaa
