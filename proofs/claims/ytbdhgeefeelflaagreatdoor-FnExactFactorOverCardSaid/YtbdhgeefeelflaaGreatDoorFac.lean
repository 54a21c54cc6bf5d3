/-
  WHAT THIS FILE PROVES: plain facts on the words of a set, each read by a code and each of its words' indices a letter; no program in sight.
-/
import Derived.Test.YtbdhgeefeelflaaGreatDoorRead
import Derived.Test.YtbdhgeefeelflaaGreatDoorWdIf
import Derived.Test.YtbdhgeefeelflaaGreatDoorDbl
import Derived.Test.YtbdhgeefeelflaaGreatDoorKr
namespace Go.Proofs.YtbdhgeefeelflaaGreatDoor

/-- the letter with an index -/
def fcC (i : Int) : UInt8 := if i = 0 then 97 else if i = 1 then 98 else 99
def fcL (r : List Int) : List UInt8 := r.map fcC
/-- the text of the first k indices -/
def fcTo (r : List Int) (k : Nat) : ByteArray := ⟨(fcL (r.take k)).toArray⟩
def fcB (r : List Int) : ByteArray := ⟨(fcL r).toArray⟩
/-- what a word's reading says -/
def fc1 (bs : List ByteArray) (s : ByteArray) : ByteArray := fcB (rdOf bs s)
theorem fcTo_zero (r : List Int) : fcTo r 0 = ⟨#[]⟩ := rfl
theorem fcTo_all (r : List Int) : fcTo r r.length = fcB r := by unfold fcTo fcB; rw [List.take_length]
theorem fcTo_succ (r : List Int) (k : Nat) (h : k < r.length) : fcTo r (k + 1) = fcTo r k ++ ⟨#[fcC r[k]]⟩ := by
  refine data_inj ?_
  rw [ByteArray.data_append, Array.toList_append]
  unfold fcTo fcL
  rw [List.take_succ_eq_append_getElem h, List.map_append]
  simp
theorem fcTo_size (r : List Int) (k : Nat) (h : k ≤ r.length) : (fcTo r k).size = k := by
  show ((fcL (r.take k)).toArray).size = k
  unfold fcL
  simp
  omega
theorem fcB_size (r : List Int) : (fcB r).size = r.length := by rw [← fcTo_all, fcTo_size r _ (Nat.le_refl _)]
theorem fc_cases {i : Int} (h : 0 ≤ i ∧ i < 3) : i = 0 ∨ i = 1 ∨ i = 2 := by omega
theorem fcC_le (i : Int) : 97 ≤ (fcC i).toNat ∧ (fcC i).toNat ≤ 99 := by
  unfold fcC
  split
  · decide
  · split <;> decide
/-- a letter cut out of the three -/
theorem fc_cut {i : Int} (h : 0 ≤ i ∧ i < 3) : (⟨#[97, 98, 99]⟩ : ByteArray).extract i.toNat (i.toNat + 1) = ⟨#[fcC i]⟩ := by
  rcases fc_cases h with rfl | rfl | rfl <;> rfl
theorem fcB_short {r : List Int} (h0 : 1 ≤ r.length) (h8 : r.length ≤ 8) : W.short (fcB r) = true := by
  unfold W.short
  rw [decide_eq_true (by rw [fcB_size]; omega), Bool.true_and]
  unfold W.isWd
  rw [List.all_eq_true]
  intro c hc
  unfold fcB fcL at hc
  simp only [List.mem_map] at hc
  obtain ⟨i, _, rfl⟩ := hc
  unfold W.isL
  rw [decide_eq_true (fcC_le i)]
theorem reads_el {set : List ByteArray} (hpos : ∀ k, k < set.length → 1 ≤ (W.nth set k).size) : ∀ (n : Nat) (l : List UInt8), l.length = n → ∀ r ∈ W.reads set l, (∀ i ∈ r, 0 ≤ i ∧ i < (set.length : Int)) ∧ (l ≠ [] → r ≠ []) := by
  intro n
  induction n using Nat.strongRecOn with
  | ind n ih =>
    intro l hl r hr
    cases l with
    | nil => rw [W.reads_nil] at hr; simp at hr; subst hr; simp
    | cons c q =>
      rw [← W.reads_all set (c :: q) (by simp)] at hr
      obtain ⟨k, hk, hp, r', hr', rfl⟩ := W.mem_rpart set hpos (c :: q) r set.length (Nat.le_refl _) hr
      have h1 := hpos k hk
      have h2 : (W.nth set k).size ≤ (c :: q).length := by have := Lib.hasPrefix_le hp; rwa [← Lib.size_eq] at this
      have := ih (n - (W.nth set k).size) (by omega) _ (by rw [List.length_drop, hl]) r' hr'
      refine ⟨fun i hi => ?_, fun _ => by simp⟩
      rw [List.mem_cons] at hi
      rcases hi with rfl | hi
      · omega
      · exact this.1 i hi
theorem rdOk_mem {bs : List ByteArray} {s : ByteArray} (h : rdOk bs s = true) : rdOf bs s ∈ W.reads bs s.data.toList := by
  rw [rdOf_yes h]
  unfold rdOk at h
  simp only [Bool.and_eq_true, decide_eq_true_eq] at h
  exact List.mem_of_getElem? (reads_head h.2).2
theorem rd_set {bs : List ByteArray} {s : ByteArray} (h : rdOk bs s = true) : W.isSet bs = true := by
  unfold rdOk at h
  simp only [Bool.and_eq_true] at h
  exact (ask_both h.1).1
theorem rd_el {bs : List ByteArray} {s : ByteArray} (h3 : bs.length ≤ 3) (h : rdOk bs s = true) : ∀ k (hk : k < (rdOf bs s).length), 0 ≤ (rdOf bs s)[k] ∧ (rdOf bs s)[k] < 3 := fun k hk => by
  have := (reads_el (fun k hk => W.set_pos (rd_set h) k hk) _ _ rfl _ (rdOk_mem h)).1 _ (List.getElem_mem hk)
  omega
theorem rd_len {bs : List ByteArray} {s : ByteArray} (hs : W.short s = true) (h : rdOk bs s = true) : 1 ≤ (rdOf bs s).length ∧ (rdOf bs s).length ≤ 8 := by
  have h1 := W.reads_len (fun k hk => W.set_pos (rd_set h) k hk) _ s.data.toList rfl _ (rdOk_mem h)
  have h2 := (reads_el (fun k hk => W.set_pos (rd_set h) k hk) _ _ rfl _ (rdOk_mem h)).2
  have h8 := W.short_size s hs
  rw [Lib.size_eq] at h8
  refine ⟨?_, by omega⟩
  cases hr : rdOf bs s with
  | nil => exact absurd hr (h2 (fun e => by rw [e] at h8; simp at h8))
  | cons a q => simp
theorem rd_len8 {bs : List ByteArray} {s : ByteArray} (hs : W.short s = true) : (rdOf bs s).length ≤ 8 := by
  cases h : rdOk bs s
  · rw [rdOf_no h]; simp
  · exact (rd_len hs h).2
theorem short_good {s : ByteArray} (hs : W.short s = true) : W.good s.data.toList = true := by
  have h8 := (W.short_size s hs).2
  unfold W.short at hs
  simp only [Bool.and_eq_true] at hs
  unfold W.good
  rw [hs.2, decide_eq_true (by rw [← Lib.size_eq]; omega)]
  rfl
/-- a short word and a set: whether there is a reading is whether there are ways -/
theorem rdOk_ways {bs : List ByteArray} {s : ByteArray} (hb : W.isSet bs = true) (hs : W.short s = true) : rdOk bs s = decide (0 < W.ways bs s.data.toList) := by
  unfold rdOk askOk
  rw [hb, short_good hs]
  rfl
def fcAll (ss bs : List ByteArray) : List ByteArray := ss.map (fc1 bs)
theorem fcAll_len (ss bs : List ByteArray) : (fcAll ss bs).length = ss.length := by simp [fcAll]
theorem fcAll_succ (ss bs : List ByteArray) (k : Nat) (h : k < ss.length) : (fcAll ss bs).take (k + 1) = (fcAll ss bs).take k ++ [fc1 bs (W.nth ss k)] := by
  unfold fcAll
  rw [List.take_succ_eq_append_getElem (by simpa using h), List.getElem_map, W.nth_lt ss k h]
theorem fcAll_size {ss bs : List ByteArray} (hs : W.isSet ss = true) : ∀ x ∈ fcAll ss bs, x.size ≤ 8 := fun x hx => by
  unfold fcAll at hx
  obtain ⟨s, hs1, rfl⟩ := List.mem_map.1 hx
  unfold fc1
  rw [fcB_size]
  exact rd_len8 (set_mem hs s hs1)
def fcAsk (ss bs : List ByteArray) : Bool := W.isSet ss && ((W.isSet bs && W.krLet (bs.length : Int)) && isCd bs)
def fcOk (ss bs : List ByteArray) : Bool := fcAsk ss bs && (ss.all (rdOk bs) && fitOk (fcAll ss bs))
def fcOf (ss bs : List ByteArray) : List ByteArray := if fcOk ss bs then ordB (fcAll ss bs) else []
theorem fcOf_no {ss bs : List ByteArray} (h : fcOk ss bs = false) : fcOf ss bs = [] := by unfold fcOf; rw [h]; rfl
theorem fcOf_yes {ss bs : List ByteArray} (h : fcOk ss bs = true) : fcOf ss bs = ordB (fcAll ss bs) := by unfold fcOf; rw [h]; rfl
theorem fcOf_len (ss bs : List ByteArray) : (fcOf ss bs).length ≤ 1048576 := by
  cases h : fcOk ss bs
  · rw [fcOf_no h]; simp
  · rw [fcOf_yes h]
    have h1 := ord_length (fcAll ss bs)
    rw [fcAll_len] at h1
    unfold fcOk fcAsk at h
    simp only [Bool.and_eq_true] at h
    have h2 := W.isSet_len ss h.1.1
    omega
theorem fc_no {ss bs : List ByteArray} (h : fcAsk ss bs = false) : fcOk ss bs = false ∧ fcOf ss bs = [] := by
  have : fcOk ss bs = false := by unfold fcOk; rw [h]; rfl
  exact ⟨this, fcOf_no this⟩
theorem fc_unread {ss bs : List ByteArray} {s : ByteArray} (hs : s ∈ ss) (h : rdOk bs s = false) : fcOk ss bs = false ∧ fcOf ss bs = [] := by
  have : fcOk ss bs = false := by
    unfold fcOk
    rw [show ss.all (rdOk bs) = false by rw [List.all_eq_false]; exact ⟨s, hs, by rw [h]; simp⟩]
    simp
  exact ⟨this, fcOf_no this⟩
theorem all_of_nth {ss : List ByteArray} {p : ByteArray → Bool} (h : ∀ j, j < ss.length → p (W.nth ss j) = true) : ss.all p = true := by
  rw [List.all_eq_true]
  intro s hs
  obtain ⟨j, hj, rfl⟩ := List.getElem_of_mem hs
  have := h j hj
  rwa [W.nth_lt ss j hj] at this
theorem fc_fit {ss bs : List ByteArray} (h : fcAsk ss bs = true) (hr : ∀ j, j < ss.length → rdOk bs (W.nth ss j) = true) : fcOk ss bs = fitOk (fcAll ss bs) ∧ fcOf ss bs = fitOf (fcAll ss bs) := by
  have e : fcOk ss bs = fitOk (fcAll ss bs) := by unfold fcOk; rw [h, all_of_nth hr]; rfl
  refine ⟨e, ?_⟩
  unfold fcOf fitOf
  rw [e]
theorem fc_an {ss bs : List ByteArray} (h : fcAsk ss bs = true) (hr : ∀ j, j < ss.length → rdOk bs (W.nth ss j) = true) : fcOk ss bs = anOk (fcAll ss bs) ∧ fcOf ss bs = anOf (fcAll ss bs) := by
  obtain ⟨h1, h2⟩ := fc_fit h hr
  have hset : W.isSet ss = true := by unfold fcAsk at h; simp only [Bool.and_eq_true] at h; exact h.1
  have e : anOk (fcAll ss bs) = fitOk (fcAll ss bs) := by
    unfold anOk
    rw [show (fcAll ss bs).all W.short = true by
      rw [List.all_eq_true]
      intro x hx
      unfold fcAll at hx
      obtain ⟨s, hs, rfl⟩ := List.mem_map.1 hx
      have hrs := List.all_eq_true.1 (all_of_nth hr) s hs
      have hsh := set_mem hset s hs
      exact fcB_short (rd_len hsh hrs).1 (rd_len hsh hrs).2]
    rfl
  refine ⟨by rw [e, h1], ?_⟩
  rw [h2]
  unfold fitOf anOf
  rw [e]
end Go.Proofs.YtbdhgeefeelflaaGreatDoor
