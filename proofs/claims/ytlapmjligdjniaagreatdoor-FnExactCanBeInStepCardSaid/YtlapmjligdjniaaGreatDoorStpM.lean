/-
  WHAT THIS FILE PROVES: small facts on a slice of slices of numbers that holds where letters lead, and on a row that is put behind it; each asks what its premises name.
-/
import Derived.Test.YtlapmjligdjniaaGreatDoorStp
import Derived.Test.YtlapmjligdjniaaGreatDoorSSI
namespace Go.Proofs.YtlapmjligdjniaaGreatDoor
open Go.RowKit Go.Shelf

/-- a slice of slices that reads as the table of a set -/
def RowTab (w : World) (B : Nat) (A : Option Addr) (ss : List ByteArray) : Prop := RowSS w B A (intss (tab ss (inB ss).length))
theorem RowTab.below {w w' : World} {B : Nat} {A : Option Addr} {ss : List ByteArray} (h : RowTab w B A ss) (hb : Below B w w') : RowTab w' B A ss := RowSS.below h hb
theorem RowTab.more {w : World} {B B' : Nat} {A : Option Addr} {ss : List ByteArray} (h : RowTab w B A ss) (hB : B ≤ B') : RowTab w B' A ss := RowSS.more h hB
theorem RowTab.row {w : World} {B : Nat} {A : Option Addr} {ss : List ByteArray} (h : RowTab w B A ss) {i : Nat} (hi : i < (inB ss).length) :
    ∃ b off A' c', A = some ⟨b, off, none⟩ ∧ b < B ∧ w.cell? ⟨b, off + i, none⟩ = some (.slice A' (ltrs ss) c') ∧ Row w B A' (ints (rowT ss i (ltrs ss))) := by
  obtain ⟨vs, h1, h2, h3⟩ := h
  rw [intss_length, tab_len] at h2
  obtain ⟨b, off, e, hb, hc⟩ := h1 (by omega)
  obtain ⟨A', c', h4, h5⟩ := h3 i (ints (rowT ss i (ltrs ss))) (by
    unfold intss
    rw [List.getElem?_map, tab_at ss i _ hi]
    rfl)
  rw [ints_length, rowT_len] at h4
  exact ⟨b, off, A', c', e, hb, hc i _ h4, h5⟩
/-- where one letter leads from one state -/
theorem RowTab.read {w : World} {B : Nat} {A : Option Addr} {ss : List ByteArray} (h : RowTab w B A ss) {i k : Nat} (hi : i < (inB ss).length) (hk : k < ltrs ss) :
    ∃ b off b' off' c', A = some ⟨b, off, none⟩ ∧ b < B ∧ w.cell? ⟨b, off + i, none⟩ = some (.slice (some ⟨b', off', none⟩) (ltrs ss) c') ∧ b' < B ∧ w.cell? ⟨b', off' + k, none⟩ = some (.int .i64 ((tr ss i k : Nat) : Int)) := by
  obtain ⟨b, off, A', c', e, hb, hc, hr⟩ := h.row hi
  obtain ⟨b', off', e', hb', hc'⟩ := hr (by rw [ints_length, rowT_len]; omega)
  subst e'
  refine ⟨b, off, b', off', c', e, hb, hc, hb', hc' k _ ?_⟩
  unfold ints
  rw [List.getElem?_map, rowT_at ss i k _ hk]
  rfl
theorem infoInts2 : (Tryz.prog.info? 58).map (fun i => (i.zero, i.size, i.bytes)) = some (some (.slice none 0 0), 1, 24) := by kernel_rfl
theorem one_slice2 (A : Option Addr) (n c : Nat) : ∀ u ∈ [Value.slice A n c], u.oneCell' = true := fun u hu => by
  simp only [List.mem_cons, List.mem_nil_iff, or_false] at hu
  subst hu
  rfl
/-- a row made later than all others is put behind them -/
theorem push_later {w wq w' : World} {base mid : Nat} {v v' : Value} {vs : List Value} {xss : List (List Int)} {xs : List Int} {A : Option Addr} {n c : Nat} (hn : n = xs.length) (h : OwnAt w base 58 3 v vs (intss xss)) (hB : Below w.heap.size w wq)
    (hbm : base ≤ mid) (hmid : w.heap.size ≤ mid) (hx : wq.ownsRow mid 3 1 (.slice A n c) n (ints xs)) (ho : w'.ownsRow base 58 1 v' (xss.length + 1) (vs ++ [.slice A n c])) (hg : wq.grownBy w' v.ownBlock) :
    OwnAt w' base 58 3 v' (vs ++ [.slice A n c]) (intss (xss ++ [xs])) := by
  subst hn
  have h2 := h.below hB
  have hl := intss_length xss
  have hxl := ints_length xs
  rw [intss_snoc]
  have := OwnAt.push (w := wq) (w' := w') (base := base) (E := 58) (e := 3) (v := v) (vs := vs) (xss := intss xss) (by decide) h2 (v' := v') (xs := ints xs) (A := A) (c := c) (by rw [hxl]; exact own_base hx hbm) (fun u hu => by
    rw [hxl]
    cases hb : u.ownBlock with
    | none => exact .inl rfl
    | some g =>
      right
      intro e
      have h3 := (h.lt u hu g hb).2
      have h4 := (hx.lt g e.symm).1
      omega) (by rw [hl, hxl]; exact ho) hg
  rw [hxl] at this
  exact this
end Go.Proofs.YtlapmjligdjniaaGreatDoor
