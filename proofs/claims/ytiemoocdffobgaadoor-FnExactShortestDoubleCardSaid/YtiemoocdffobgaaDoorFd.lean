/-
  WHAT THIS FILE PROVES: the program's search for the first word with two readings finds it, whatever the order in which its map is ranged over; asked: a slice of texts in memory that is a set.
-/
import Derived.Test.YtiemoocdffobgaaDoorMtI
namespace Go.Proofs.YtiemoocdffobgaaDoor
open Go.RowKit Go.ChangeMaps Go.Maps Go.Shelf
open W (le)

/-- the ends by which one word of a set is ahead of another one -/
def firstI (ss : List ByteArray) : ByteArray → List UInt8 → Prop := fun x v => ∃ s t, s ∈ ss ∧ t ∈ ss ∧ x ∈ restOf s t ∧ v = t.data.toList
theorem mt_of_db {ss : List ByteArray} {w : List UInt8} {x : ByteArray} (h : Db ss w x) : Mt.Db ss (firstI ss) w x := by
  induction h with
  | start hs ht hx => exact .start ⟨_, _, hs, ht, hx, rfl⟩
  | off _ ht hx ih => exact ih.off ht hx
  | on _ ht hx ih => exact ih.on ht hx
theorem db_of_mt {ss : List ByteArray} {w : List UInt8} {x : ByteArray} (h : Mt.Db ss (firstI ss) w x) : Db ss w x := by
  induction h with
  | start hi =>
    obtain ⟨s, t, hs, ht, hx, rfl⟩ := hi
    exact .start hs ht hx
  | off _ ht hx ih => exact ih.off ht hx
  | on _ ht hx ih => exact ih.on ht hx
theorem fd_of_mt {ss : List ByteArray} {r : Option (List UInt8)} (h : Mt.FD ss (firstI ss) r) : FD ss r := by
  refine ⟨fun w e => ?_, fun e v u hd => h.2 e v u (mt_of_db hd)⟩
  obtain ⟨⟨u, hu, hd⟩, h2⟩ := h.1 w e
  exact ⟨⟨u, hu, db_of_mt hd⟩, fun v x hx hm => h2 v x (mt_of_db hx) hm⟩
theorem ends_firstI {ss : List ByteArray} (hset : W.isSet ss = true) : Mt.Ends ss (firstI ss) (dS ss) where
  start := fun x v hi => by
    obtain ⟨s, t, hs, ht, hx, rfl⟩ := hi
    exact ⟨dS_start hset x (mem_rests.2 ⟨s, hs, t, ht, hx⟩), by have := set_size hset ht; rw [← Lib.size_eq]; omega⟩
  step := fun x y hx he => dS_step x y hx he
  few := by have := dS_length hset; omega
  size := fun x hx => by
    obtain ⟨t, ht, i, hi, rfl⟩ := mem_dS.1 hx
    have := drop_size t (i + 1)
    have := set_size hset ht
    omega
theorem dst_mt {ss fs : List ByteArray} {f : ByteArray → Option (List UInt8)} {g : ByteArray → Option ByteArray} {F : List UInt8 → Bool} (h : DSt ss fs f g F) : Mt.DSt ss (firstI ss) fs f g F where
  nodup := h.nodup
  mem := h.mem
  inv := {
    start := fun x v hi => by
      obtain ⟨s, t, hs, ht, hx, rfl⟩ := hi
      exact h.inv.start s t x hs ht hx
    off := h.inv.off
    on := h.inv.on
    fR := fun u w hu => mt_of_db (h.inv.fR u w hu)
    oR := fun u w hu => mt_of_db (h.inv.oR u w hu)
    bR := fun w hw => by
      obtain ⟨u, hu, hd⟩ := h.inv.bR w hw
      exact ⟨u, hu, mt_of_db hd⟩
    hit := h.inv.hit
    mono := h.inv.mono }
  mark := h.mark
  sep := h.sep
  size := h.size

theorem impl_firstDouble (A : Option Addr) (ss : List ByteArray) (c : Nat) (w : World) (h : Row w w.heap.size A (strs ss)) (hset : W.isSet ss = true) :
    Calls Tryd.prog 39 #[.slice A ss.length c] w (GivesDouble w ss) := by
  have h12 := W.isSet_len ss hset
  have hq1 := Lib.hid (impl_firstEnds A ss c w h h12 (fun s hs => (set_size hset hs).2))
  have hq2 := Lib.hid (fun (w1 : World) (bo : Nat) (g0 : ByteArray → Option ByteArray) (hB : Below w.heap.size w w1) (hb : w.heap.size ≤ bo) (hO : OpenAt w1 bo 4096 g0) (hP : Puts noF noG (ends0 ss ss.length) g0) =>
    Mt.impl_firstMeeting A ss c w w1 h hset hB bo g0 (firstI ss) (dS ss) (ends_firstI hset) hb hO (dst_mt (DSt.first hset hP)))
  clear h hset
  go_enter Tryd.func39, Tryd.ntmps39
  go_wp2_with fail
  refine hq1.out.mono ?_
  rintro e w1 ⟨bo, g0, rfl, hbo, hO0, hP0, hB0⟩
  have hq3 := Lib.hid (hq2.out w1 bo g0 hB0 hbo hO0 hP0)
  clear hq2 hq1 hbo hO0 hP0 hB0
  go_wp2_with fail
  refine hq3.out.mono ?_
  rintro e w2 ⟨x, ok, rfl, hf, hx, hB⟩
  have H := Lib.hid (And.intro (fd_of_mt hf) (And.intro hx hB))
  clear hq3 hf hx hB
  go_wp2
  go_ret2
  exact ⟨x, ok, rfl, H.out.1, H.out.2.1, H.out.2.2⟩

end Go.Proofs.YtiemoocdffobgaaDoor
