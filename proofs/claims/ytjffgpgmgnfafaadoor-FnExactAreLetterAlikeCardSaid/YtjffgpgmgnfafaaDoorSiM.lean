/-
  WHAT THIS FILE PROVES: slices of slices of numbers of the call's own: one with one row, one with a fresh row more; each asks what its premises name.
-/
import Derived.Test.YtjffgpgmgnfafaaDoorSSI
import Derived.Test.YtjffgpgmgnfafaaDoorMem
namespace Go.Proofs.YtjffgpgmgnfafaaDoor
open Go.RowKit

theorem infoSI : (Tryd.prog.info? 28).map (fun i => (i.zero, i.size, i.bytes)) = some (some (.slice none 0 0), 1, 24) := by kernel_rfl
theorem one_sli (A : Option Addr) (n c : Nat) : ∀ u ∈ [Value.slice A n c], u.oneCell' = true := fun u hu => by
  simp only [List.mem_cons, List.mem_nil_iff, or_false] at hu
  subst hu
  rfl
theorem cells_sli (w : World) (v : Value) (t : TypeId) : ∀ (j : Nat) u, [v][j]? = some u → (w.alloc (.cells #[v] t)).cell? ((⟨w.heap.size, 0, none⟩ : Addr).add j) = some u := fun j u hu => by
  have hj : j = 0 := by
    have := (List.getElem?_eq_some_iff.1 hu).1
    simpa using this
  subst hj
  simp at hu
  subst hu
  show (w.alloc (.cells #[v] t)).cell? ⟨w.heap.size, 0, none⟩ = _
  rw [World.cell?_alloc_at _ _ _ _ rfl]
  rfl
section
variable {w w1 w' : World} {base : Nat}
theorem si_one {A : Option Addr} {l : List Int} {c : Nat} (hx : w1.ownsRow base 3 1 (.slice A l.length c) l.length (ints l)) (hb : base ≤ w1.heap.size) :
    OwnAt (w1.alloc (.cells #[.slice A l.length c] 28)) base 28 3 (.slice (some ⟨w1.heap.size, 0, none⟩) 1 1) [.slice A l.length c] (intss [l]) := by
  refine ⟨?_, fun i xs hi => ?_, fun i j u u' hij hu hu' => ?_⟩
  · have := World.ownsRow_lit (base := base) (e := 28) (size := 1) w1 #[.slice A l.length c] 1 hb (by unfold maxLen; omega) rfl
    exact this
  · have h0 : i = 0 := by
      have := (List.getElem?_eq_some_iff.1 hi).1
      simpa [intss] using this
    subst h0
    have e : xs = ints l := by
      have : some (ints l) = some xs := hi
      injection this with this
      exact this.symm
    subst e
    rw [ints_length]
    exact ⟨A, c, rfl, hx.alloc _⟩
  · have h0 := (List.getElem?_eq_some_iff.1 hu).1
    have h1 := (List.getElem?_eq_some_iff.1 hu').1
    simp at h0 h1
    omega
theorem si_push {v v' : Value} {vs : List Value} {xss : List (List Int)} (h : OwnAt w base 28 3 v vs (intss xss)) (hbase : base ≤ w.heap.size) (hB : Below w.heap.size w w1)
    {A : Option Addr} {l : List Int} {c : Nat} (hx : w1.ownsRow w.heap.size 3 1 (.slice A l.length c) l.length (ints l))
    (ho : w'.ownsRow base 28 1 v' (xss.length + 1) (vs ++ [.slice A l.length c])) (hg : (w1.alloc (.cells #[.slice A l.length c] 28)).grownBy w' v.ownBlock) :
    OwnAt w' base 28 3 v' (vs ++ [.slice A l.length c]) (intss (xss ++ [l])) := by
  have hlt := h.lt
  have hV := (h.below hB).below ((Below.refl w1.heap.size w1).alloc (Nat.le_refl _) (.cells #[.slice A l.length c] 28))
  have hX := own_below hx ((Below.refl w1.heap.size w1).alloc (Nat.le_refl _) (.cells #[.slice A l.length c] 28))
  rw [intss_snoc]
  have key := OwnAt.push (by decide) hV (v' := v') (xs := ints l) (A := A) (c := c) (by rw [ints_length]; exact own_base hX hbase) (by
    rw [ints_length]
    intro u hu
    cases hb : u.ownBlock with
    | none => exact .inl rfl
    | some g =>
      right
      intro e
      have h1 := (hlt u hu g hb).2
      have h2 := (hx.lt g e.symm).1
      omega) (by rw [intss_length, ints_length]; exact ho) hg
  rw [ints_length] at key
  exact key
end
end Go.Proofs.YtjffgpgmgnfafaaDoor
