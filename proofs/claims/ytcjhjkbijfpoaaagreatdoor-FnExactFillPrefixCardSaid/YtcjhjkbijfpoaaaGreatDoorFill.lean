/-
  WHAT THIS FILE PROVES: plain facts on the words that fill a prefix set: those that begin with none of it and with which none begins are, in a prefix set, those with which none begins; no program in sight.
-/
import Derived.Test.YtcjhjkbijfpoaaaGreatDoorPfx
import Derived.Test.YtcjhjkbijfpoaaaGreatDoorKrT
namespace Go.Proofs.YtcjhjkbijfpoaaaGreatDoor

/-- a beginning of k letters with one letter behind -/
def cand (s : ByteArray) (k x : Nat) : ByteArray := s.extract 0 k ++ (⟨#[97, 98, 99]⟩ : ByteArray).extract x (x + 1)
/-- no word of the set begins with it -/
def freeB (ss : List ByteArray) (t : ByteArray) : Bool := ss.all fun u => !bgs t u
/-- it begins with no word of the set, and none of the set begins with it -/
def okU (t u : ByteArray) : Bool := !bgs u t && !bgs t u
def freeTo (ss : List ByteArray) (t : ByteArray) (i : Nat) : Bool := (ss.take i).all (okU t)
def oneIf (ss : List ByteArray) (t : ByteArray) : List ByteArray := if freeB ss t then [t] else []
def rowX (ss : List ByteArray) (s : ByteArray) (k x : Nat) : List ByteArray := (List.range x).flatMap fun j => oneIf ss (cand s k j)
def rowK (ss : List ByteArray) (L : Nat) (s : ByteArray) (k : Nat) : List ByteArray := (List.range k).flatMap fun j => rowX ss s j L
def rowI (ss : List ByteArray) (L i : Nat) : List ByteArray := (List.range i).flatMap fun j => rowK ss L (W.nth ss j) (W.nth ss j).size
/-- a set with the words that fill it -/
def filled (ss : List ByteArray) (L : Nat) : List ByteArray := ss ++ rowI ss L ss.length
theorem rowX_succ (ss : List ByteArray) (s : ByteArray) (k x : Nat) : rowX ss s k (x + 1) = rowX ss s k x ++ oneIf ss (cand s k x) := by
  unfold rowX
  rw [List.range_succ, List.flatMap_append]
  simp
theorem rowK_succ (ss : List ByteArray) (L : Nat) (s : ByteArray) (k : Nat) : rowK ss L s (k + 1) = rowK ss L s k ++ rowX ss s k L := by
  unfold rowK
  rw [List.range_succ, List.flatMap_append]
  simp
theorem rowI_succ (ss : List ByteArray) (L i : Nat) : rowI ss L (i + 1) = rowI ss L i ++ rowK ss L (W.nth ss i) (W.nth ss i).size := by
  unfold rowI
  rw [List.range_succ, List.flatMap_append]
  simp
theorem one_len (ss : List ByteArray) (t : ByteArray) : (oneIf ss t).length ≤ 1 := by unfold oneIf; split <;> simp
theorem rowX_len (ss : List ByteArray) (s : ByteArray) (k : Nat) : ∀ x, (rowX ss s k x).length ≤ x
  | 0 => Nat.le_refl _
  | x + 1 => by
    have := rowX_len ss s k x
    have := one_len ss (cand s k x)
    rw [rowX_succ, List.length_append]
    omega
theorem rowK_len (ss : List ByteArray) (L : Nat) (s : ByteArray) (h3 : L ≤ 3) : ∀ k, (rowK ss L s k).length ≤ 3 * k
  | 0 => Nat.le_refl _
  | k + 1 => by
    have := rowK_len ss L s h3 k
    have := rowX_len ss s k L
    rw [rowK_succ, List.length_append]
    omega
theorem nth_size {ss : List ByteArray} (h : ∀ s ∈ ss, s.size ≤ 8) (i : Nat) : (W.nth ss i).size ≤ 8 := by
  by_cases hi : i < ss.length
  · rw [W.nth_lt ss i hi]; exact h _ (List.getElem_mem hi)
  · unfold W.nth
    rw [List.getD_eq_getElem?_getD, List.getElem?_eq_none (by omega)]
    show (0 : Nat) ≤ 8
    omega
theorem rowI_len (ss : List ByteArray) (L : Nat) (h3 : L ≤ 3) (h : ∀ s ∈ ss, s.size ≤ 8) : ∀ i, (rowI ss L i).length ≤ 24 * i
  | 0 => Nat.le_refl _
  | i + 1 => by
    have := rowI_len ss L h3 h i
    have := rowK_len ss L (W.nth ss i) h3 (W.nth ss i).size
    have := nth_size h i
    rw [rowI_succ, List.length_append]
    omega
theorem abc_one (x : Nat) (h : x < 3) : ((⟨#[97, 98, 99]⟩ : ByteArray).extract x (x + 1)).data.toList = [UInt8.ofNat (97 + x)] := by
  have : x = 0 ∨ x = 1 ∨ x = 2 := by omega
  rcases this with rfl | rfl | rfl <;> rfl
theorem cand_list (s : ByteArray) (k x : Nat) (h : x < 3) : (cand s k x).data.toList = s.data.toList.take k ++ [UInt8.ofNat (97 + x)] := by
  unfold cand
  rw [ByteArray.data_append, Array.toList_append, abc_one x h, Lib.extract_eq]
  simp
theorem letter_ok (x : Nat) (h : x < 3) : W.isL (UInt8.ofNat (97 + x)) = true := by
  have : x = 0 ∨ x = 1 ∨ x = 2 := by omega
  rcases this with rfl | rfl | rfl <;> rfl
theorem cand_short {s : ByteArray} (hs : W.short s = true) (k x : Nat) (hk : k < s.size) (h : x < 3) : W.short (cand s k x) = true := by
  have hl := cand_list s k x h
  unfold W.short at hs ⊢
  simp only [Bool.and_eq_true, decide_eq_true_eq] at hs ⊢
  have h1 : (cand s k x).size = k + 1 := by
    rw [Lib.size_eq, hl, List.length_append, List.length_take, ← Lib.size_eq, List.length_singleton]
    omega
  refine ⟨by omega, ?_⟩
  rw [hl]
  have h2 := hs.2
  unfold W.isWd at h2 ⊢
  rw [List.all_append]
  simp only [Bool.and_eq_true, List.all_cons, List.all_nil, Bool.and_true]
  refine ⟨?_, letter_ok x h⟩
  rw [List.all_eq_true] at h2 ⊢
  exact fun c hc => h2 c (List.mem_of_mem_take hc)
theorem bgs_pre {s t : ByteArray} : bgs s t = true ↔ s.data.toList <+: t.data.toList := List.isPrefixOf_iff_prefix
/-- where one of a prefix set is a beginning of such a word, it is the word -/
theorem cand_begins {ss : List ByteArray} (hp : pfxB ss = true) {s u : ByteArray} (hs : s ∈ ss) (hu : u ∈ ss) (k x : Nat) (hk : k < s.size) (h : x < 3) (hb : bgs u (cand s k x) = true) : bgs (cand s k x) u = true := by
  have hl := cand_list s k x h
  have hz : (cand s k x).size = k + 1 := by
    rw [Lib.size_eq, hl, List.length_append, List.length_take, ← Lib.size_eq, List.length_singleton]
    omega
  by_cases hsz : u.size ≤ k
  · exfalso
    have h1 := bgs_pre.1 hb
    rw [hl] at h1
    have h2 : u.data.toList <+: s.data.toList.take k := List.prefix_of_prefix_length_le h1 (List.prefix_append ..) (by rw [← Lib.size_eq, List.length_take, ← Lib.size_eq]; omega)
    have h3 : u.data.toList <+: s.data.toList := h2.trans (List.take_prefix ..)
    exact pfxB_iff ss |>.1 hp u hu s hs ⟨bgs_pre.2 h3, by omega⟩
  · have := bgs_same hb (by omega)
    rw [← this]
    exact bgs_refl u
theorem freeTo_succ (ss : List ByteArray) (t : ByteArray) (i : Nat) (h : i < ss.length) : freeTo ss t (i + 1) = (freeTo ss t i && okU t (W.nth ss i)) := by
  unfold freeTo
  rw [List.take_succ_eq_append_getElem h, List.all_append, W.nth_lt ss i h]
  simp
theorem freeTo_all {ss : List ByteArray} (hp : pfxB ss = true) {s : ByteArray} (hs : s ∈ ss) (k x : Nat) (hk : k < s.size) (h : x < 3) : freeTo ss (cand s k x) ss.length = freeB ss (cand s k x) := by
  unfold freeTo freeB
  rw [List.take_length]
  rw [Bool.eq_iff_iff, List.all_eq_true, List.all_eq_true]
  refine ⟨fun h1 u hu => ?_, fun h1 u hu => ?_⟩
  · have := h1 u hu
    unfold okU at this
    simp only [Bool.and_eq_true] at this
    exact this.2
  · have h2 := h1 u hu
    unfold okU
    rw [h2, Bool.and_true]
    cases hb : bgs u (cand s k x)
    · rfl
    · rw [cand_begins hp hs hu k x hk h hb] at h2
      simp at h2
theorem one_no {ss : List ByteArray} {t : ByteArray} (h : freeB ss t = false) : oneIf ss t = [] := by unfold oneIf; rw [h]; rfl
theorem one_yes {ss : List ByteArray} {t : ByteArray} (h : freeB ss t = true) : oneIf ss t = [t] := by unfold oneIf; rw [h]; rfl
theorem mem_one {ss : List ByteArray} {t u : ByteArray} (h : u ∈ oneIf ss t) : u = t := by
  unfold oneIf at h
  split at h <;> simp at h
  exact h
theorem rowI_short {ss : List ByteArray} (hs : ∀ s ∈ ss, W.short s = true) (L : Nat) (h3 : L ≤ 3) (i : Nat) (hi : i ≤ ss.length) : ∀ t ∈ rowI ss L i, W.short t = true := by
  intro t ht
  unfold rowI at ht
  obtain ⟨j, hj, ht⟩ := List.mem_flatMap.1 ht
  rw [List.mem_range] at hj
  unfold rowK at ht
  obtain ⟨k, hk, ht⟩ := List.mem_flatMap.1 ht
  rw [List.mem_range] at hk
  unfold rowX at ht
  obtain ⟨x, hx, ht⟩ := List.mem_flatMap.1 ht
  rw [List.mem_range] at hx
  rw [mem_one ht]
  exact cand_short (hs _ (by rw [W.nth_lt ss j (by omega)]; exact List.getElem_mem _)) k x hk (by omega)
theorem filled_short {ss : List ByteArray} (hs : ∀ s ∈ ss, W.short s = true) (L : Nat) (h3 : L ≤ 3) : ∀ t ∈ filled ss L, W.short t = true := by
  intro t ht
  rcases List.mem_append.1 ht with ht | ht
  · exact hs t ht
  · exact rowI_short hs L h3 _ (Nat.le_refl _) t ht
/-- a prefix set of words of L letters, not empty, that fills to a set -/
def foOk (ss : List ByteArray) (L : Int) : Bool := W.krSet ss L && (decide (0 < ss.length) && (pfxB ss && fitOk (filled ss L.toNat)))
def foOf (ss : List ByteArray) (L : Int) : List ByteArray := if foOk ss L then ordB (filled ss L.toNat) else []
theorem foOf_no {ss : List ByteArray} {L : Int} (h : foOk ss L = false) : foOf ss L = [] := by unfold foOf; rw [h]; rfl
theorem foOk_fit {ss : List ByteArray} {L : Int} (h1 : W.krSet ss L = true) (h2 : 0 < ss.length) (h3 : pfxB ss = true) : foOk ss L = fitOk (filled ss L.toNat) ∧ foOf ss L = fitOf (filled ss L.toNat) := by
  have e : foOk ss L = fitOk (filled ss L.toNat) := by unfold foOk; rw [h1, decide_eq_true h2, h3]; rfl
  refine ⟨e, ?_⟩
  unfold foOf fitOf
  rw [e]
theorem foOf_len (ss : List ByteArray) (L : Int) : (foOf ss L).length ≤ 12 := by
  cases h : foOk ss L
  · rw [foOf_no h]; simp
  · unfold foOk at h
    simp only [Bool.and_eq_true, decide_eq_true_eq] at h
    have h1 := h.2.2.2
    unfold foOf foOk
    rw [h.1, decide_eq_true h.2.1, h.2.2.1, h1]
    unfold fitOk at h1
    exact of_decide_eq_true h1
/-- a set is in order as it is -/
theorem ord_set {ss : List ByteArray} (h : W.isSet ss = true) : ordB ss = ss := by
  refine raw_inj (W.inc_unique (inc_ord ss) ?_ fun x => ?_)
  · unfold raw W.Inc
    rw [List.pairwise_map, List.pairwise_iff_getElem]
    intro i j hi hj hij
    have := set_less h hij hj
    rw [W.nth_lt ss i hi, W.nth_lt ss j hj] at this
    exact this
  · rw [raw_ord, W.mem_puts]
    simp
end Go.Proofs.YtcjhjkbijfpoaaaGreatDoor
