/-
  WHAT THIS FILE PROVES: the specification's functions that make the dangling lists of a set, and tell by the last one whether it is a code: they give what the plain lists say; asked: a set in memory.
-/
import Derived.Test.YtcjhjkbijfpoaaaDoorDang
import Derived.Test.YtcjhjkbijfpoaaaDoorHas
import Derived.Test.YtcjhjkbijfpoaaaDoorText
import Derived.Test.YtcjhjkbijfpoaaaDoorSSS
import Derived.Maps.AppendAt
namespace Go.Proofs.YtcjhjkbijfpoaaaDoor
open Go.RowKit Go.Shelf

theorem infoStrs : (Tryd.prog.info? 22).map (fun i => (i.zero, i.size, i.bytes)) = some (some (.slice none 0 0), 1, 24) := by kernel_rfl
theorem one_sliceS (A : Option Addr) (n c : Nat) : ∀ u ∈ [Value.slice A n c], u.oneCell' = true := fun u hu => by
  simp only [List.mem_cons, List.mem_nil_iff, or_false] at hu
  subst hu
  rfl
theorem cells_oneS (w : World) (v : Value) (t : TypeId) : ∀ (j : Nat) u, [v][j]? = some u → (w.alloc (.cells #[v] t)).cell? ((⟨w.heap.size, 0, none⟩ : Addr).add j) = some u := fun j u hu => by
  obtain rfl : j = 0 := by have := (List.getElem?_eq_some_iff.1 hu).1; simpa using this
  simp only [List.getElem?_cons_zero, Option.some.injEq] at hu
  subst hu
  rw [show (⟨w.heap.size, 0, none⟩ : Addr).add 0 = ⟨w.heap.size, 0, none⟩ from rfl, World.cell?_alloc_at _ _ _ _ rfl]
  rfl


end Go.Proofs.YtcjhjkbijfpoaaaDoor
