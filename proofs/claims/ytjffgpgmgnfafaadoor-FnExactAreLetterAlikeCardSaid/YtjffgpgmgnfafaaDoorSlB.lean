/-
  WHAT THIS FILE PROVES: the library's sort of at most twelve bytes of the call's own puts them in order; the program's letters in order of a word; asked: bytes that lie in memory, above what was there.
-/
import Derived.Test.YtjffgpgmgnfafaaDoorSl
import Derived.Test.YtjffgpgmgnfafaaDoorShelf
import Derived.Test.YtjffgpgmgnfafaaDoorAppend
import Derived.Lib.ConvBytes
import Derived.Lib.AtoiErrMem
import Derived.Laws.IdiomStrings
import Derived.Sort.Row
import Derived.OwnWalk
import Derived.BigQuiet
import Derived.BigRegion
import Derived.RegionTactic
namespace Go.Proofs.YtjffgpgmgnfafaaDoor
open Go.RowKit Go.Shelf

/-- bytes that lie in a block, free to be written -/
def BH (w : World) (g : Nat) (l : List UInt8) : Prop := ∀ j x, l[j]? = some x → w.cell? ⟨g, j, none⟩ = some (.int .u8 (x.toNat : Int)) ∧ w.frozen? ⟨g, j, none⟩ = false
theorem BH.set {w : World} {g : Nat} {l : List UInt8} (h : BH w g l) (i : Nat) (a : UInt8) : BH (w.setCell ⟨g, i, none⟩ (.int .u8 (a.toNat : Int))) g (l.set i a) := fun j x hx => by
  rw [World.frozen?_setCell]
  by_cases e : i = j
  · subst e
    have hi : i < l.length := by
      have := (List.getElem?_eq_some_iff.1 hx).1
      rwa [List.length_set] at this
    rw [List.getElem?_set_self hi] at hx
    injection hx with hx
    subst hx
    have h1 := h i l[i] (List.getElem?_eq_getElem hi)
    exact ⟨World.cell?_setCell_same w ⟨g, i, none⟩ _ h1.1, h1.2⟩
  · rw [List.getElem?_set_ne e] at hx
    have h1 := h j x hx
    exact ⟨(World.cell?_setCell_other w ⟨g, i, none⟩ ⟨g, j, none⟩ _ (fun e' => e (congrArg Addr.off e'))).trans h1.1, h1.2⟩
theorem BH.drew {w : World} {g : Nat} {l : List UInt8} (h : BH w g l) : BH w.drew g l := h
theorem BH.drewN {w : World} {g : Nat} {l : List UInt8} (h : BH w g l) (n : Nat) : BH (w.drewN n) g l := h
theorem isNaN_byte (x : Nat) (w : World) : Calls Tryd.prog 97 #[.int .u8 (x : Int)] w fun e w' => e = .returned (.bool false) ∧ w = w' := by
  have h1 : ((x : Int) != (x : Int)) = false := by simp
  go_enter Tryd.func97, Tryd.ntmps97
  go_wp2
  go_ret
  exact ⟨by first | rfl | simp, rfl⟩
theorem less_byte (x y : Nat) (w : World) : Calls Tryd.prog 77 #[.int .u8 (x : Int), .int .u8 (y : Int)] w fun e w' => e = .returned (.bool (decide (x < y))) ∧ w = w' := by
  have hn := Lib.hid (fun x w => isNaN_byte x w)
  go_enter Tryd.func77, Tryd.ntmps77
  go_wp2_with (go_at_call 97; refine (hn.out _ _).mono ?_; rintro e w' ⟨rfl, rfl⟩)
  go_ret
  exact ⟨rfl, rfl⟩
set_option maxHeartbeats 6400000 in
theorem insertion_bytes (base g : Nat) (l : List UInt8) (c : Nat) (w : World) (hl1 : 1 ≤ l.length) (hl : l.length ≤ 12) (hg : base ≤ g) (h : BH w g l) :
    Calls Tryd.prog 71 #[.slice (some ⟨g, 0, none⟩) l.length c, .int .i64 0, .int .i64 l.length] w fun e w' => e = .returned (.tuple #[]) ∧ BH w' g (W.srt l) ∧ Below base w w' := by
  have Hless := Lib.hid (fun x y u => less_byte x y u)
  have Hend := Lib.hid (fun p (hp : p.Perm l) (hu : W.UpB p) => W.srt_uniq hp hu)
  obtain ⟨x0, hx0⟩ : ∃ x0, l[0]? = some x0 := ⟨_, List.getElem?_eq_getElem (by omega)⟩
  have H0 := Lib.hid (show l = [x0] ++ l.drop 1 by
    cases l with
    | nil => simp at hl1
    | cons a r => simp at hx0; subst hx0; rfl)
  have Ht1 := Lib.hid (show l.take 1 = [x0] by
    cases l with
    | nil => simp at hl1
    | cons a r => simp at hx0; subst hx0; rfl)
  replace h := Lib.hid h
  clear hx0
  go_enter Tryd.func71, Tryd.ntmps71
  go_wp2
  go_loopw [6] (fun iv wr => ∃ (i : Nat) (p : List UInt8), 1 ≤ i ∧ i ≤ l.length ∧ iv = .int .i64 i ∧ Hid (p.length = i ∧ p.Perm (l.take i) ∧ W.UpB p) ∧ BH wr g (p ++ l.drop i) ∧ Below base w wr) (fun iv _ => l.length - (intOf iv).toNat)
  case atStart => exact ⟨1, [x0], Nat.le_refl _, hl1, rfl, ⟨rfl, by rw [Ht1.out], List.pairwise_singleton _ _⟩, by rw [← H0.out]; exact h.out, Below.refl _ _⟩
  case round =>
    obtain ⟨i, p, hi1, hi, rfl, hP, hH, hB⟩ := hrel
    have HH := Lib.hid (And.intro hH hB)
    generalize wr = wa at *
    by_cases hlt : i < l.length
    · have hlt' : (i : Int) < (l.length : Int) := by omega
      obtain ⟨x, hx⟩ : ∃ x, l[i]? = some x := ⟨_, List.getElem?_eq_getElem hlt⟩
      have Hst := Lib.hid (show BH wa g (W.mid p x p.length (l.drop (i + 1))) by
        rw [W.mid_all]
        have e : l.drop i = x :: l.drop (i + 1) := by
          rw [List.drop_eq_getElem_cons hlt]
          rw [List.getElem?_eq_getElem hlt] at hx
          injection hx with hx
          rw [hx]
        rw [← e]
        exact HH.out.1)
      have Htk := Lib.hid (show l.take (i + 1) = l.take i ++ [x] by
        rw [List.take_succ_eq_append_getElem hlt]
        rw [List.getElem?_eq_getElem hlt] at hx
        injection hx with hx
        rw [hx])
      have hpl := hP.out.1
      clear hH hB hx
      go_wp2
      go_loopw [7] (fun jv wr => ∃ j : Nat, j ≤ i ∧ jv = .int .i64 j ∧ Hid (∀ y ∈ p.drop j, x.toNat ≤ y.toNat) ∧ BH wr g (W.mid p x j (l.drop (i + 1))) ∧ Below base w wr) (fun jv _ => (intOf jv).toNat)
      case atStart => exact ⟨i, Nat.le_refl _, rfl, (by rw [← hpl, List.drop_length]; intro y hy; cases hy), by rw [← hpl]; rw [← hpl] at Hst; exact Hst.out, HH.out.2⟩
      case round =>
        clear HH Hst
        obtain ⟨j, hj, rfl, hD, hH, hB⟩ := hrel
        generalize wr = wb at *
        have hj64 : (j : Int) ≤ 12 := by omega
        rcases j with _ | j
        · have HE := Lib.hid (show BH wb g ((p.take 0 ++ x :: p.drop 0) ++ l.drop (i + 1)) from hH)
          have hins := Lib.hid (And.intro ((W.ins_perm p x 0).trans ((hP.out.2.1.append_right [x]).trans (List.Perm.of_eq Htk.out.symm))) (W.ins_up (j := 0) hP.out.2.2 (by intro y hy; cases hy) hD.out))
          have hBB := Lib.hid hB
          have hlen := Lib.hid (show (p.take 0 ++ x :: p.drop 0).length = i + 1 by simp; omega)
          have h00 : ¬ ((0 : Int) < 0) := by omega
          clear hH hB hpl
          go_wp2
          go_quiet (fail)
          go_wp2
          go_roundw
          case rel => exact ⟨i + 1, p.take 0 ++ x :: p.drop 0, by omega, by omega, by go_num, ⟨hlen.out, hins.out.1, hins.out.2⟩, HE.out.drewN _, below_drewN hBB.out _⟩
          case measure => simp [intOf]; omega
        · have hjp : j < p.length := by omega
          obtain ⟨y, hy⟩ : ∃ y, p[j]? = some y := ⟨_, List.getElem?_eq_getElem hjp⟩
          have hyj : p[j] = y := by rw [List.getElem?_eq_getElem hjp] at hy; injection hy
          have ca := hH (j + 1) x (W.mid_at p x (j + 1) _ (by omega))
          have cb := hH j y (by rw [W.mid_before p x j _ hjp, hyj])
          have ca1 := ca.1
          have ca2 := ca.2
          have cb1 := cb.1
          have cb2 := cb.2
          have hj1 : (0 : Int) < (j : Int) + 1 := by omega
          have hjl : (j : Int) + 1 < (l.length : Int) := by omega
          have hjl2 : (j : Int) < (l.length : Int) := by omega
          have hle1 := Hless.out x.toNat y.toNat
          have HHb := Lib.hid (And.intro hH hB)
          have ej : ((j + 1 : Nat) : Int) = (j : Int) + 1 := by omega
          rw [ej]
          replace ej := Lib.hid ej
          clear ca cb hH hB hj64
          by_cases hxy : x.toNat < y.toNat
          · rw [decide_eq_true hxy] at hle1
            replace hle1 := Lib.hid hle1
            have hD2 : Hid (∀ z ∈ p.drop j, x.toNat ≤ z.toNat) := fun z hz => by
              rw [List.drop_eq_getElem_cons hjp, hyj] at hz
              rcases List.mem_cons.1 hz with rfl | hz
              · omega
              · exact hD.out z hz
            have hst := W.mid_step p x j (l.drop (i + 1)) hjp
            rw [hyj] at hst
            replace hst := Lib.hid hst
            have HS := Lib.hid (fun n => ((HHb.out.1.drewN n).set (j + 1) y).set j x)
            clear hxy hy hyj hpl
            generalize hxn : x.toNat = xn at ca1 hle1 HS
            generalize hyn : y.toNat = yn at cb1 hle1 HS
            replace hxn := Lib.hid hxn
            replace hyn := Lib.hid hyn
            go_wp2
            go_quiet ((go_at_call 77; refine (hle1.out _).mono ?_; rintro e w' ⟨rfl, rfl⟩; exact ⟨rfl, _, rfl⟩))
            go_wp2
            go_region
            go_wp2
            go_roundw
            case rel => exact ⟨j, by omega, by go_num, (show Hid _ from fun z hz => by rw [← hxn.out]; exact hD2.out z hz), by rw [← hst.out]; exact HS.out _, (((below_drewN HHb.out.2 _).setCell hg _).setCell hg _)⟩
            case measure => simp [intOf]
          · rw [decide_eq_false hxy] at hle1
            replace hle1 := Lib.hid hle1
            have HE := Lib.hid (show BH wb g ((p.take (j + 1) ++ x :: p.drop (j + 1)) ++ l.drop (i + 1)) from HHb.out.1)
            have hins := Lib.hid (And.intro ((W.ins_perm p x (j + 1)).trans ((hP.out.2.1.append_right [x]).trans (List.Perm.of_eq Htk.out.symm))) (W.ins_up (j := j + 1) hP.out.2.2 (W.up_before hP.out.2.2 hjp (by rw [hyj]; omega)) hD.out))
            have hlen := Lib.hid (show (p.take (j + 1) ++ x :: p.drop (j + 1)).length = i + 1 by rw [List.length_append, List.length_cons, List.length_take, List.length_drop]; omega)
            clear hxy hy hyj hpl
            generalize hxn : x.toNat = xn at ca1 hle1
            generalize hyn : y.toNat = yn at cb1 hle1
            replace hxn := Lib.hid hxn
            replace hyn := Lib.hid hyn
            go_wp2
            go_quiet ((go_at_call 77; refine (hle1.out _).mono ?_; rintro e w' ⟨rfl, rfl⟩; exact ⟨rfl, _, rfl⟩))
            go_wp2
            go_roundw
            case rel => exact ⟨i + 1, p.take (j + 1) ++ x :: p.drop (j + 1), by omega, by omega, by go_num, ⟨hlen.out, hins.out.1, hins.out.2⟩, HE.out.drewN _, below_drewN HHb.out.2 _⟩
            case measure => simp [intOf]; omega
    · obtain rfl : i = l.length := by omega
      have HE := Lib.hid (show BH wa g (W.srt l) from by
        have h1 := HH.out.1
        rw [List.drop_length, List.append_nil, Hend.out p (by have := hP.out.2.1; rwa [List.take_length] at this) hP.out.2.2] at h1
        exact h1)
      clear hH hB
      go_wp2
      go_end0
      exact ⟨rfl, HE.out, HH.out.2⟩
set_option maxHeartbeats 1600000 in
theorem sort_bytes (base g : Nat) (l : List UInt8) (c : Nat) (w : World) (hl1 : 1 ≤ l.length) (hl : l.length ≤ 12) (hg : base ≤ g) (h : BH w g l) :
    Calls Tryd.prog 41 #[.slice (some ⟨g, 0, none⟩) l.length c] w fun e w' => e = .returned (.tuple #[]) ∧ BH w' g (W.srt l) ∧ Below base w w' := by
  have hi := Lib.hid (insertion_bytes base g l c w hl1 hl hg h)
  have hpd : ∀ lim : Value, Calls Tryd.prog 50 #[.slice (some ⟨g, 0, none⟩) l.length c, .int .i64 0, .int .i64 l.length, lim] w fun e w' => e = .returned (.tuple #[]) ∧ BH w' g (W.srt l) ∧ Below base w w' := by
    intro lim
    have hl12 : (l.length : Int) ≤ 12 := by omega
    clear h
    go_enter Tryd.func50, Tryd.ntmps50
    go_wp2
    refine wp_loop_rounds 1 ?_
    rw [rounds_succ]
    go_wp2_with fail
    refine hi.out.mono ?_
    rintro e w1 ⟨rfl, h1, h2⟩
    have H := Lib.hid (And.intro h1 h2)
    clear h1 h2
    go_wp2
    refine bodyPost_ret (results_none rfl _ _ _) rfl ?_
    exact ⟨rfl, H.out.1, H.out.2⟩
  have hbl := Lib.hid (fun (u : World) => (Tryd.bits_Len (l.length : Int) u (by omega) (by omega)).mono fun _ _ h => And.intro h.1 h.2.symm)
  replace hpd := Lib.hid hpd
  have hwr : IntKind.u64.wrap (l.length : Int) = (l.length : Int) := IntWalk.u64_in _ (by omega)
  have hwr2 : (l.length : Int) % 18446744073709551616 = (l.length : Int) := by omega
  clear h hi
  go_enter Tryd.func41, Tryd.ntmps41
  go_wp2_with (go_at_call 43; refine (hbl.out _).mono ?_; rintro e w' ⟨rfl, rfl⟩)
  refine (hpd.out _).mono ?_
  rintro e w1 ⟨rfl, h1, h2⟩
  have H := Lib.hid (And.intro h1 h2)
  clear h1 h2
  go_wp2
  go_end0
  exact ⟨rfl, H.out.1, H.out.2⟩
/-- the letters of a word in order -/
def srtB (s : ByteArray) : ByteArray := ⟨(W.srt s.data.toList).toArray⟩
theorem srt_len (l : List UInt8) : (W.srt l).length = l.length := (W.srt_perm l).length_eq
theorem bh_bytes (w : World) (s : ByteArray) : BH (Lib.bytesWorld w 5 s) w.heap.size s.data.toList := fun j x hx => by
  obtain ⟨hjl, hxe⟩ := List.getElem?_eq_some_iff.1 hx
  have hj' : j < s.size := by rw [Lib.size_eq]; exact hjl
  refine ⟨?_, ?_⟩
  · rw [Lib.bytesWorld_cell w _ s j hj', List.getD_eq_getElem?_getD, hx]
    rfl
  · have hcs : s.size ≤ (Lib.bytesCells w 5 s).size := by
      unfold Lib.bytesCells
      rw [Array.size_append, Array.size_map]
      show s.data.size ≤ _
      omega
    have hge : ¬ (Lib.bytesCells w 5 s).size ≤ j := by omega
    unfold World.frozen?
    simp only [Lib.bytesWorld_at_new]
    simp [hge]
set_option maxHeartbeats 1600000 in
theorem impl_sortedLetters (s : ByteArray) (w : World) (hs1 : 1 ≤ s.size) (hs : s.size ≤ 12) :
    Calls Tryd.prog 30 #[.string s] w fun e w' => e = .returned (.string (srtB s)) ∧ Below w.heap.size w w' := by
  have hcv := Lib.run_convert_string_bytes w 44 60 5 s Tryd.underlying44 Tryd.underlying60 Tryd.underlying5
  have hsl : s.data.toList.length = s.size := (Lib.size_eq s).symm
  have hso := fun c => sort_bytes w.heap.size w.heap.size s.data.toList c (Lib.bytesWorld w 5 s) (by omega) (by omega) (Nat.le_refl _) (bh_bytes w s)
  rw [hsl] at hso
  have Hb := Lib.hid (Lib.bytesWorld_below w 5 s)
  replace hso := Lib.hid hso
  generalize Lib.bytesWorld w 5 s = wb at hcv hso Hb
  have hsrt := Lib.hid (show (⟨(W.srt s.data.toList).toArray⟩ : ByteArray) = srtB s from rfl)
  have hlen := Lib.hid (show (W.srt s.data.toList).length = s.size by rw [srt_len, hsl])
  generalize W.srt s.data.toList = L at hso hsrt hlen
  go_enter Tryd.func30, Tryd.ntmps30
  go_wp2_with fail
  refine (hso.out _).mono ?_
  rintro e w2 ⟨rfl, hH2, hB2⟩
  have hcv2 := fun cap => run_convert_bytes_back (P := Tryd.prog) w2 60 9 5 ⟨w.heap.size, 0, none⟩ cap L Tryd.underlying60 Tryd.underlying5 Tryd.underlying9 (fun j hj => by
    have h1 := (hH2 j L[j] (List.getElem?_eq_getElem (by simpa using hj))).1
    rw [addr_at]
    simpa using h1)
  rw [hlen.out] at hcv2
  have HB := Lib.hid (Hb.out.trans hB2)
  clear hH2 hB2 hcv hso Hb
  go_wp2
  go_ret
  exact ⟨by rw [← hsrt.out]; rfl, HB.out⟩
end Go.Proofs.YtjffgpgmgnfafaaDoor
