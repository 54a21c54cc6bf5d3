/-
  WHAT THIS FILE PROVES: at how many places a word is within another one: the specification's and the program's functions give the same number; asked: lengths that an int holds.
-/
import Derived.Test.YtaghllkmifehmaaDoorPair
import Derived.Laws.RangeString
namespace Go.Proofs.YtaghllkmifehmaaDoor
open Go.RowKit Go.Shelf

theorem extract_end (s : ByteArray) (k : Nat) : (s.extract k s.size).data.toList = s.data.toList.drop k := by
  rw [Lib.extract_eq]
  show (List.take (s.size - k) (List.drop k s.data.toList)) = _
  exact List.take_of_length_le (by simp)

theorem good_byte (s : ByteArray) (h : W.good s.data.toList = true) (k : Nat) (hk : k < s.size) : (s[k]'hk).toNat < 128 := by
  have h2 : W.isWd s.data.toList = true := by unfold W.good at h; simp only [Bool.and_eq_true] at h; exact h.2
  have hl : k < s.data.toList.length := by simpa using hk
  have := List.all_eq_true.1 h2 (s.data.toList[k]) (List.getElem_mem hl)
  rw [byte_toList s k hk] at this
  unfold W.isL at this
  simp at this
  omega

theorem countIn_of (s t : ByteArray) (h1 : W.good s.data.toList = true) (h2 : W.good t.data.toList = true) (h3 : t.toList.isEmpty = false) : W.countIn s.data.toList t.data.toList = W.cnt s.data.toList t.data.toList s.size := by
  rw [Lib.toList_data] at h3
  unfold W.countIn
  rw [h1, h2, h3, Lib.size_eq]
  rfl

/-- a number and whether it is told -/
def countOk (s t : ByteArray) : Bool := both s t && !t.toList.isEmpty

theorem countIn_no (s t : ByteArray) (h : countOk s t = false) : W.countIn s.data.toList t.data.toList = 0 := by
  unfold countOk both at h
  rw [Lib.toList_data] at h
  unfold W.countIn
  rw [h]
  rfl

set_option maxHeartbeats 800000 in
theorem spec_CountIn (s t : ByteArray) (w : World) (hs : s.size ≤ 9223372036854775807) (ht : t.size ≤ 9223372036854775807) :
    Calls Tryd.prog 18 #[.string s, .string t] w fun e w' => e = .returned (.tuple #[.int .i64 (W.countIn s.data.toList t.data.toList), .bool (countOk s t)]) ∧ Below w.heap.size w w' := by
  cases hok : countOk s t
  · rw [countIn_no s t hok]
    have hw := Lib.hid hok
    clear hok
    cases h1 : W.good s.data.toList
    · clear hw
      go_enter Tryd.func18, Tryd.ntmps18
      go_wp2_with (first | (go_at_call_of 27 (Value.string s); refine (spec_wdGood s _ hs).mono ?_; rintro e w' ⟨rfl, rfl⟩) | (go_at_call_of 27 (Value.string t); refine (spec_wdGood t _ ht).mono ?_; rintro e w' ⟨rfl, rfl⟩))
      go_ret2
      exact ⟨rfl, Below.refl _ _⟩
    · cases h2 : W.good t.data.toList
      · clear hw
        go_enter Tryd.func18, Tryd.ntmps18
        go_wp2_with (first | (go_at_call_of 27 (Value.string s); refine (spec_wdGood s _ hs).mono ?_; rintro e w' ⟨rfl, rfl⟩) | (go_at_call_of 27 (Value.string t); refine (spec_wdGood t _ ht).mono ?_; rintro e w' ⟨rfl, rfl⟩))
        go_ret2
        exact ⟨rfl, Below.refl _ _⟩
      · have h3 : t.toList.isEmpty = true := by
          have := hw.out
          unfold countOk both at this
          rw [h1, h2] at this
          simpa using this
        clear hw
        go_enter Tryd.func18, Tryd.ntmps18
        go_wp2_with (first | (go_at_call_of 27 (Value.string s); refine (spec_wdGood s _ hs).mono ?_; rintro e w' ⟨rfl, rfl⟩) | (go_at_call_of 27 (Value.string t); refine (spec_wdGood t _ ht).mono ?_; rintro e w' ⟨rfl, rfl⟩))
        go_ret2
        exact ⟨rfl, Below.refl _ _⟩
  · have h1 : W.good s.data.toList = true := by unfold countOk both at hok; simp only [Bool.and_eq_true] at hok; exact hok.1.1
    have h2 : W.good t.data.toList = true := by unfold countOk both at hok; simp only [Bool.and_eq_true] at hok; exact hok.1.2
    have h3 : t.toList.isEmpty = false := by unfold countOk at hok; simp only [Bool.and_eq_true] at hok; simpa using hok.2
    rw [countIn_of s t h1 h2 h3]
    clear hok
    have Hb := Lib.hid (good_byte s h1)
    go_enter Tryd.func18, Tryd.ntmps18
    go_wp2_with (first | (go_at_call_of 27 (Value.string s); refine (spec_wdGood s _ hs).mono ?_; rintro e w' ⟨rfl, rfl⟩) | (go_at_call_of 27 (Value.string t); refine (spec_wdGood t _ ht).mono ?_; rintro e w' ⟨rfl, rfl⟩))
    go_loopw [6] (fun n wr => ∃ pos : Nat, pos ≤ s.size ∧ n = .int .i64 (W.cnt s.data.toList t.data.toList pos) ∧ wr = w.iter s pos) (fun _ wr => s.size - wr.iterPos w.heap.size)
    case atStart => exact ⟨0, Nat.zero_le _, rfl, rfl⟩
    case round =>
      obtain ⟨pos, hps, rfl, rfl⟩ := hrel
      have hmu : (w.iter s pos).iterPos w.heap.size = pos := by simp [World.iterPos, World.iter_heap]
      by_cases hp : pos < s.size
      · have hnext : ∀ ty, (Instr.next (.pointer (some ⟨w.heap.size, 0, none⟩)) true ty).run Tryd.prog (w.iter s pos) = _ := fun ty => run_next_ascii w s pos ty hp (Hb.out pos hp)
        have Hmu := Lib.hid hmu
        clear hmu
        have hle := W.cnt_le s.data.toList t.data.toList pos
        have Hs := Lib.hid (W.cnt_succ s.data.toList t.data.toList pos)
        have hc := fun W => spec_wdBegins (s.extract pos s.size) t W
        rw [extract_end] at hc
        cases hq : Lib.hasPrefix (s.data.toList.drop pos) t.data.toList
        · rw [hq] at hc
          have Hq := Lib.hid hq
          clear hq
          replace hc := Lib.hid hc
          go_wp2_with (go_at_call 29; refine (hc.out _).mono ?_; rintro e w' ⟨rfl, rfl⟩)
          go_roundw
          case rel => exact ⟨pos + 1, by omega, by rw [Hs.out, Hq.out]; rfl, rfl⟩
          case measure => rw [Hmu.out]; simp [World.iterPos, World.iter_heap]; omega
        · rw [hq] at hc
          have Hq := Lib.hid hq
          clear hq
          replace hc := Lib.hid hc
          go_wp2_with (go_at_call 29; refine (hc.out _).mono ?_; rintro e w' ⟨rfl, rfl⟩)
          go_roundw
          case rel => exact ⟨pos + 1, by omega, by rw [Hs.out, Hq.out]; go_num, rfl⟩
          case measure => rw [Hmu.out]; simp [World.iterPos, World.iter_heap]; omega
      · have hnext : ∀ ty, (Instr.next (.pointer (some ⟨w.heap.size, 0, none⟩)) true ty).run Tryd.prog (w.iter s pos) = _ := fun ty => run_next_end w s pos ty hp
        obtain rfl : pos = s.size := by omega
        clear hmu
        go_wp2
        go_ret2
        exact ⟨rfl, (Below.refl _ _).alloc (Nat.le_refl _) _⟩

set_option maxHeartbeats 800000 in
theorem impl_CountIn (s t : ByteArray) (w : World) (hs : s.size ≤ 9223372036854775807) (ht : t.size ≤ 9223372036854775807) :
    Calls Tryd.prog 19 #[.string s, .string t] w fun e w' => e = .returned (.tuple #[.int .i64 (W.countIn s.data.toList t.data.toList), .bool (countOk s t)]) ∧ Below w.heap.size w w' := by
  cases hok : countOk s t
  · rw [countIn_no s t hok]
    have hw := Lib.hid hok
    clear hok
    cases h1 : W.good s.data.toList
    · clear hw
      go_enter Tryd.func19, Tryd.ntmps19
      go_wp2_with (first | (go_at_call_of 11 (Value.string s); refine (impl_IsWord s _ hs).mono ?_; rintro e w1 ⟨rfl, hA⟩) | (go_at_call_of 11 (Value.string t); refine (impl_IsWord t _ ht).mono ?_; rintro e w2 ⟨rfl, hB⟩))
      go_ret2
      exact ⟨rfl, hA⟩
    · cases h2 : W.good t.data.toList
      · clear hw
        go_enter Tryd.func19, Tryd.ntmps19
        go_wp2_with (first | (go_at_call_of 11 (Value.string s); refine (impl_IsWord s _ hs).mono ?_; rintro e w1 ⟨rfl, hA⟩) | (go_at_call_of 11 (Value.string t); refine (impl_IsWord t _ ht).mono ?_; rintro e w2 ⟨rfl, hB⟩))
        go_ret2
        exact ⟨rfl, hA.trans (hB.mono hA.size)⟩
      · have h3 : t.toList.isEmpty = true := by
          have := hw.out
          unfold countOk both at this
          rw [h1, h2] at this
          simpa using this
        clear hw
        go_enter Tryd.func19, Tryd.ntmps19
        go_wp2_with (first | (go_at_call_of 11 (Value.string s); refine (impl_IsWord s _ hs).mono ?_; rintro e w1 ⟨rfl, hA⟩) | (go_at_call_of 11 (Value.string t); refine (impl_IsWord t _ ht).mono ?_; rintro e w2 ⟨rfl, hB⟩))
        go_ret2
        exact ⟨rfl, hA.trans (hB.mono hA.size)⟩
  · have h1 : W.good s.data.toList = true := by unfold countOk both at hok; simp only [Bool.and_eq_true] at hok; exact hok.1.1
    have h2 : W.good t.data.toList = true := by unfold countOk both at hok; simp only [Bool.and_eq_true] at hok; exact hok.1.2
    have h3 : t.toList.isEmpty = false := by unfold countOk at hok; simp only [Bool.and_eq_true] at hok; simpa using hok.2
    rw [countIn_of s t h1 h2 h3]
    clear hok
    have Hb := Lib.hid (good_byte s h1)
    go_enter Tryd.func19, Tryd.ntmps19
    go_wp2_with (first | (go_at_call_of 11 (Value.string s); refine (impl_IsWord s _ hs).mono ?_; rintro e w1 ⟨rfl, hA⟩) | (go_at_call_of 11 (Value.string t); refine (impl_IsWord t _ ht).mono ?_; rintro e w2 ⟨rfl, hB⟩))
    go_loop [6, 22] (fun n i => ∃ pos : Nat, pos ≤ s.size ∧ n = .int .i64 (W.cnt s.data.toList t.data.toList pos) ∧ i = .int .i64 pos) (fun _ i => s.size - (intOf i).toNat)
    case atStart => exact ⟨0, Nat.zero_le _, rfl, rfl⟩
    case round =>
      obtain ⟨pos, hps, rfl, rfl⟩ := hrel
      by_cases hp : pos < s.size
      · have hle := W.cnt_le s.data.toList t.data.toList pos
        have Hs := Lib.hid (W.cnt_succ s.data.toList t.data.toList pos)
        have hc := fun W => Tryd.strings_HasPrefix (s.extract pos s.size) t W
        rw [extract_end] at hc
        cases hq : Lib.hasPrefix (s.data.toList.drop pos) t.data.toList
        · rw [hq] at hc
          have Hq := Lib.hid hq
          clear hq
          replace hc := Lib.hid hc
          go_wp2_with (go_at_call 30; refine (hc.out _).mono ?_; rintro e w' ⟨rfl, rfl⟩)
          go_round
          case rel => exact ⟨pos + 1, by omega, by rw [Hs.out, Hq.out]; rfl, by go_num⟩
          case measure => simp [intOf]; omega
        · rw [hq] at hc
          have Hq := Lib.hid hq
          clear hq
          replace hc := Lib.hid hc
          go_wp2_with (go_at_call 30; refine (hc.out _).mono ?_; rintro e w' ⟨rfl, rfl⟩)
          go_round
          case rel => exact ⟨pos + 1, by omega, by rw [Hs.out, Hq.out]; go_num, by go_num⟩
          case measure => simp [intOf]; omega
      · obtain rfl : pos = s.size := by omega
        go_wp2
        go_ret2
        exact ⟨rfl, hA.trans (hB.mono hA.size)⟩

end Go.Proofs.YtaghllkmifehmaaDoor
