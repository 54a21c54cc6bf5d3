/-
  WHAT THIS FILE PROVES: a word with other letters by the program's function, which stores into a row of bytes of its own; asked: a row of three names that lies in memory.
-/
import Derived.Test.YtbepplkpnhfifaaDoorNames
import Derived.Lib.AtoiErrMem
import Derived.Lib.ConvBytes
import Derived.Laws.IdiomStrings
namespace Go.Proofs.YtbepplkpnhfifaaDoor
open Go.RowKit Go.Shelf

/-- a block of bytes -/
def BytesAt (w : World) (g : Nat) (l : List UInt8) : Prop := ∀ j (h : j < l.length), w.cell? ⟨g, j, none⟩ = some (.int .u8 (l[j].toNat : Int)) ∧ w.frozen? ⟨g, j, none⟩ = false
theorem BytesAt.set {w : World} {g : Nat} {l : List UInt8} (h : BytesAt w g l) (j : Nat) (x : UInt8) (hj : j < l.length) : BytesAt (w.setCell ⟨g, j, none⟩ (.int .u8 (x.toNat : Int))) g (l.set j x) := fun i hi => by
  have hi' : i < l.length := by simpa using hi
  refine ⟨?_, by rw [World.frozen?_setCell]; exact (h i hi').2⟩
  by_cases e : i = j
  · subst e
    rw [World.cell?_setCell_same' _ _ _ (by rw [(h i hi').1]; rfl)]
    simp
  · have hne : (⟨g, j, none⟩ : Addr) ≠ ⟨g, i, none⟩ := by
      intro k
      simp only [Addr.mk.injEq] at k
      exact e k.2.1.symm
    have h2 : (w.setCell ⟨g, j, none⟩ (.int .u8 (x.toNat : Int))).cell? ⟨g, i, none⟩ = w.cell? ⟨g, i, none⟩ := World.cell?_setCell_other _ _ _ _ hne
    rw [h2, (h i hi').1]
    rw [List.getElem_set_ne (fun k => e k.symm)]
theorem bytes_new (w : World) (s : ByteArray) : BytesAt (Lib.bytesWorld w 5 s) w.heap.size s.data.toList := fun j hj => by
  have hj' : j < s.size := by rw [Lib.size_eq]; exact hj
  refine ⟨?_, ?_⟩
  · rw [Lib.bytesWorld_cell w _ s j hj', List.getD_eq_getElem?_getD, List.getElem?_eq_getElem hj]
    rfl
  · have hcs : s.size ≤ (Lib.bytesCells w 5 s).size := by
      unfold Lib.bytesCells
      rw [Array.size_append, Array.size_map]
      show s.data.size ≤ _
      omega
    have hge : ¬ (Lib.bytesCells w 5 s).size ≤ j := by omega
    unfold World.frozen?
    simp only [Lib.bytesWorld_at_new]
    simp [hge]
theorem mix_get {xs ys : List UInt8} (h : ys.length = xs.length) (j : Nat) (hj : j < xs.length) : (mix ys xs j)[j]'(by rw [mix_length ys xs j h]; exact hj) = xs[j] := by
  unfold mix
  rw [List.getElem_append_right (by rw [List.length_take]; omega)]
  simp only [List.getElem_drop, List.length_take]
  congr 1
  omega

set_option maxHeartbeats 6400000 in
set_option maxRecDepth 20000 in
theorem impl_renamed (s : ByteArray) (b' off' : Nat) (zs : List Int) (c' : Nat) (w : World) (hb' : b' < w.heap.size) (hcn : ∀ k, k < 3 → w.cell? ⟨b', off' + k, none⟩ = some (.int .i64 (zs.getD k 0))) (hin : ∀ k, k < 3 → 0 ≤ zs.getD k 0 ∧ zs.getD k 0 ≤ 2) (hsh : W.short s = true) :
    Calls Tryd.prog 46 #[.string s, .slice (some ⟨b', off', none⟩) 3 c'] w fun e w' => e = .returned (.string (rnB zs s)) ∧ Below w.heap.size w w' := by
  have hcv := Lib.run_convert_string_bytes w 41 56 5 s Tryd.underlying41 Tryd.underlying56 Tryd.underlying5
  have hsl : s.data.toList.length = s.size := (Lib.size_eq s).symm
  have Hb := Lib.hid (And.intro (bytes_new w s) (Lib.bytesWorld_below w 5 s))
  have Hml := Lib.hid (show ((s.data.toList.map (rnL zs)).length = s.data.toList.length) by simp)
  have Hlt := Lib.hid (fun k hk => short_letter hsh k hk)
  have hx8 := (W.short_size s hsh).2
  have Hcn := Lib.hid hcn
  have Hin := Lib.hid hin
  have Hsl := Lib.hid hsl
  generalize Lib.bytesWorld w 5 s = wb at hcv Hb
  have hA0 : ((⟨#[97, 98, 99]⟩ : ByteArray)[0]'(by decide)).toNat = 97 := rfl
  have hA1 : ((⟨#[97, 98, 99]⟩ : ByteArray)[1]'(by decide)).toNat = 98 := rfl
  have hA2 : ((⟨#[97, 98, 99]⟩ : ByteArray)[2]'(by decide)).toNat = 99 := rfl
  clear hcn hin hsh hsl
  go_enter Tryd.func46, Tryd.ntmps46
  go_wp2
  go_loopw [12] (fun i wr => ∃ j : Nat, j ≤ s.size ∧ i = .int .i64 j ∧ BytesAt wr w.heap.size (mix (s.data.toList.map (rnL zs)) s.data.toList j) ∧ Below w.heap.size w wr) (fun i _ => s.size - (intOf i).toNat)
  case atStart => exact ⟨0, Nat.zero_le _, rfl, by rw [mix_zero]; exact Hb.out.1, Hb.out.2⟩
  case round =>
    obtain ⟨j, hj, rfl, hy, hB⟩ := hrel
    have hO := Lib.hid (And.intro hy hB)
    clear hy hB
    by_cases hlt : j < s.size
    · have hlt' : (j : Int) < (s.size : Int) := by omega
      have hjl : j < s.data.toList.length := by rw [Hsl.out]; exact hlt
      have c1 : wr.cell? ⟨w.heap.size, j, none⟩ = some (.int .u8 (s[j].toNat : Int)) := by
        have := (hO.out.1 j (by rw [mix_length _ _ j Hml.out]; exact hjl)).1
        rw [mix_get Hml.out j hjl] at this
        exact this
      have f1 := (hO.out.1 j (by rw [mix_length _ _ j Hml.out]; exact hjl)).2
      have hlet := Hlt.out j hlt
      have Hset := Lib.hid (show ∀ q : Nat, q ≤ 2 → zs.getD (s[j].toNat - 97) 0 = (q : Int) → BytesAt (wr.setCell ⟨w.heap.size, j, none⟩ (.int .u8 ((UInt8.ofNat (97 + q)).toNat : Int))) w.heap.size (mix (s.data.toList.map (rnL zs)) s.data.toList (j + 1)) from fun q hq e => by
        have h1 := hO.out.1.set j (UInt8.ofNat (97 + q)) (by rw [mix_length _ _ j Hml.out]; exact hjl)
        have h2 := mix_set (s.data.toList.map (rnL zs)) s.data.toList j Hml.out (by rw [Hml.out]; exact hjl)
        rw [List.getElem_map] at h2
        have h3 : rnL zs s.data.toList[j] = UInt8.ofNat (97 + q) := by
          show rnL zs s[j] = _
          unfold rnL
          rw [e]
          rfl
        rw [h3] at h2
        rw [h2] at h1
        exact h1)
      have c0 := (hO.out.2.cell (p := ⟨b', off' + 0, none⟩) hb').trans (Hcn.out 0 (by omega))
      have c2 := (hO.out.2.cell (p := ⟨b', off' + 1, none⟩) hb').trans (Hcn.out 1 (by omega))
      have c3 := (hO.out.2.cell (p := ⟨b', off' + 2, none⟩) hb').trans (Hcn.out 2 (by omega))
      rw [Nat.add_zero] at c0
      have i0 := Hin.out 0 (by omega)
      have i1 := Hin.out 1 (by omega)
      have i2 := Hin.out 2 (by omega)
      have HBs := Lib.hid (fun v => hO.out.2.setCell (p := ⟨w.heap.size, j, none⟩) (Nat.le_refl _) v)
      generalize s[j].toNat = nn at c1 hlet Hset
      clear hO hjl
      rcases (by omega : nn = 97 ∨ nn = 98 ∨ nn = 99) with rfl | rfl | rfl
      · have Hst : ∀ q : Nat, q ≤ 2 → zs.getD 0 0 = (q : Int) → BytesAt (wr.setCell ⟨w.heap.size, j, none⟩ (.int .u8 ((UInt8.ofNat (97 + q)).toNat : Int))) w.heap.size (mix (s.data.toList.map (rnL zs)) s.data.toList (j + 1)) := Hset.out
        clear Hset
        generalize zs.getD 0 0 = v at c0 Hst i0
        rcases (by omega : v = 0 ∨ v = 1 ∨ v = 2) with rfl | rfl | rfl
        · have Hq := Lib.hid (show BytesAt (wr.setCell ⟨w.heap.size, j, none⟩ (.int .u8 97)) w.heap.size (mix (s.data.toList.map (rnL zs)) s.data.toList (j + 1)) from Hst 0 (by omega) rfl)
          clear Hst
          go_wp2
          go_roundw
          case rel => exact ⟨j + 1, by omega, by go_num, Hq.out, HBs.out _⟩
          case measure => simp [intOf]; omega
        · have Hq := Lib.hid (show BytesAt (wr.setCell ⟨w.heap.size, j, none⟩ (.int .u8 98)) w.heap.size (mix (s.data.toList.map (rnL zs)) s.data.toList (j + 1)) from Hst 1 (by omega) rfl)
          clear Hst
          go_wp2
          go_roundw
          case rel => exact ⟨j + 1, by omega, by go_num, Hq.out, HBs.out _⟩
          case measure => simp [intOf]; omega
        · have Hq := Lib.hid (show BytesAt (wr.setCell ⟨w.heap.size, j, none⟩ (.int .u8 99)) w.heap.size (mix (s.data.toList.map (rnL zs)) s.data.toList (j + 1)) from Hst 2 (by omega) rfl)
          clear Hst
          go_wp2
          go_roundw
          case rel => exact ⟨j + 1, by omega, by go_num, Hq.out, HBs.out _⟩
          case measure => simp [intOf]; omega
      · have Hst : ∀ q : Nat, q ≤ 2 → zs.getD 1 0 = (q : Int) → BytesAt (wr.setCell ⟨w.heap.size, j, none⟩ (.int .u8 ((UInt8.ofNat (97 + q)).toNat : Int))) w.heap.size (mix (s.data.toList.map (rnL zs)) s.data.toList (j + 1)) := Hset.out
        clear Hset
        generalize zs.getD 1 0 = v at c2 Hst i1
        rcases (by omega : v = 0 ∨ v = 1 ∨ v = 2) with rfl | rfl | rfl
        · have Hq := Lib.hid (show BytesAt (wr.setCell ⟨w.heap.size, j, none⟩ (.int .u8 97)) w.heap.size (mix (s.data.toList.map (rnL zs)) s.data.toList (j + 1)) from Hst 0 (by omega) rfl)
          clear Hst
          go_wp2
          go_roundw
          case rel => exact ⟨j + 1, by omega, by go_num, Hq.out, HBs.out _⟩
          case measure => simp [intOf]; omega
        · have Hq := Lib.hid (show BytesAt (wr.setCell ⟨w.heap.size, j, none⟩ (.int .u8 98)) w.heap.size (mix (s.data.toList.map (rnL zs)) s.data.toList (j + 1)) from Hst 1 (by omega) rfl)
          clear Hst
          go_wp2
          go_roundw
          case rel => exact ⟨j + 1, by omega, by go_num, Hq.out, HBs.out _⟩
          case measure => simp [intOf]; omega
        · have Hq := Lib.hid (show BytesAt (wr.setCell ⟨w.heap.size, j, none⟩ (.int .u8 99)) w.heap.size (mix (s.data.toList.map (rnL zs)) s.data.toList (j + 1)) from Hst 2 (by omega) rfl)
          clear Hst
          go_wp2
          go_roundw
          case rel => exact ⟨j + 1, by omega, by go_num, Hq.out, HBs.out _⟩
          case measure => simp [intOf]; omega
      · have Hst : ∀ q : Nat, q ≤ 2 → zs.getD 2 0 = (q : Int) → BytesAt (wr.setCell ⟨w.heap.size, j, none⟩ (.int .u8 ((UInt8.ofNat (97 + q)).toNat : Int))) w.heap.size (mix (s.data.toList.map (rnL zs)) s.data.toList (j + 1)) := Hset.out
        clear Hset
        generalize zs.getD 2 0 = v at c3 Hst i2
        rcases (by omega : v = 0 ∨ v = 1 ∨ v = 2) with rfl | rfl | rfl
        · have Hq := Lib.hid (show BytesAt (wr.setCell ⟨w.heap.size, j, none⟩ (.int .u8 97)) w.heap.size (mix (s.data.toList.map (rnL zs)) s.data.toList (j + 1)) from Hst 0 (by omega) rfl)
          clear Hst
          go_wp2
          go_roundw
          case rel => exact ⟨j + 1, by omega, by go_num, Hq.out, HBs.out _⟩
          case measure => simp [intOf]; omega
        · have Hq := Lib.hid (show BytesAt (wr.setCell ⟨w.heap.size, j, none⟩ (.int .u8 98)) w.heap.size (mix (s.data.toList.map (rnL zs)) s.data.toList (j + 1)) from Hst 1 (by omega) rfl)
          clear Hst
          go_wp2
          go_roundw
          case rel => exact ⟨j + 1, by omega, by go_num, Hq.out, HBs.out _⟩
          case measure => simp [intOf]; omega
        · have Hq := Lib.hid (show BytesAt (wr.setCell ⟨w.heap.size, j, none⟩ (.int .u8 99)) w.heap.size (mix (s.data.toList.map (rnL zs)) s.data.toList (j + 1)) from Hst 2 (by omega) rfl)
          clear Hst
          go_wp2
          go_roundw
          case rel => exact ⟨j + 1, by omega, by go_num, Hq.out, HBs.out _⟩
          case measure => simp [intOf]; omega
    · have hje : j = s.size := by omega
      subst hje
      have hy := hO.out.1
      rw [← Hsl.out, ← Hml.out, mix_all _ _ Hml.out] at hy
      have hcv2 := fun cap => run_convert_bytes_back (P := Tryd.prog) wr 56 9 5 ⟨w.heap.size, 0, none⟩ cap (s.data.toList.map (rnL zs)) Tryd.underlying56 Tryd.underlying5 Tryd.underlying9 (fun j hj => by
        rw [addr_at, Nat.zero_add]
        exact (hy j hj).1)
      rw [Hml.out, Hsl.out] at hcv2
      clear hcv hy
      go_wp2
      go_ret
      exact ⟨rfl, hO.out.2⟩

end Go.Proofs.YtbepplkpnhfifaaDoor
