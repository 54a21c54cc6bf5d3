/-
  WHAT THIS FILE PROVES: plain facts on the last inner word of a prefix set for which all letters lead to words, and on the set that is shrunk there; no program in sight.
-/
import Derived.Test.YtlapmjligdjniaaGreatDoorInn
import Derived.Test.YtlapmjligdjniaaGreatDoorPfx
import Derived.Test.YtlapmjligdjniaaGreatDoorHas
import Derived.Test.YtlapmjligdjniaaGreatDoorWdIf
import Derived.Test.YtlapmjligdjniaaGreatDoorKrT
namespace Go.Proofs.YtlapmjligdjniaaGreatDoor

/-- how many letters a set has, two at least -/
def ltrs (ss : List ByteArray) : Nat := if ss.all (fun s => W.krWd 2 s.data.toList) then 2 else 3
theorem ltrs_two (ss : List ByteArray) : ltrs ss = 2 ∨ ltrs ss = 3 := by unfold ltrs; split <;> simp
theorem ltrs_succ (ss : List ByteArray) (k : Nat) (h : k < ss.length) : ltrs (ss.take (k + 1)) = if W.krWd 2 (W.nth ss k).data.toList then ltrs (ss.take k) else 3 := by
  unfold ltrs
  rw [List.take_succ_eq_append_getElem h, List.all_append, W.nth_lt ss k h]
  cases h1 : W.krWd 2 ss[k].data.toList <;> simp [h1]
/-- a word with a letter behind -/
def kid (s : ByteArray) (x : Nat) : ByteArray := s ++ (⟨#[97, 98, 99]⟩ : ByteArray).extract x (x + 1)
/-- the first so many letters lead to words -/
def fullTo (ss : List ByteArray) (s : ByteArray) (x : Nat) : Bool := (List.range x).all fun j => hasB ss (kid s j)
theorem fullTo_succ (ss : List ByteArray) (s : ByteArray) (x : Nat) : fullTo ss s (x + 1) = (fullTo ss s x && hasB ss (kid s x)) := by
  unfold fullTo
  rw [List.range_succ, List.all_append]
  simp
/-- all letters lead to words -/
def fullW (ss : List ByteArray) (s : ByteArray) : Bool := fullTo ss s (ltrs ss)
/-- the words with one letter behind -/
def kids (s : ByteArray) (x : Nat) : List ByteArray := (List.range x).map (kid s)
theorem kids_succ (s : ByteArray) (x : Nat) : kids s (x + 1) = kids s x ++ [kid s x] := by
  unfold kids
  rw [List.range_succ, List.map_append]
  rfl
theorem kids_len (s : ByteArray) (x : Nat) : (kids s x).length = x := by simp [kids]
theorem kids_full (ss : List ByteArray) (s : ByteArray) (x : Nat) : (!((kids s x).any fun t => !(hasB ss t))) = fullTo ss s x := by
  unfold kids fullTo
  rw [List.any_map, List.not_any_eq_all_not]
  congr 1
  funext j
  simp
/-- the last one of the first n, empty if there is none -/
def lastTo (p : ByteArray → Bool) (I : List ByteArray) : Nat → ByteArray
  | 0 => ⟨#[]⟩
  | n + 1 => if p (W.nth I n) then W.nth I n else lastTo p I n
theorem lastTo_hit {p : ByteArray → Bool} {I : List ByteArray} {k : Nat} (hk : p (W.nth I k) = true) : ∀ d, (∀ j, k < j → j < k + 1 + d → p (W.nth I j) = false) → lastTo p I (k + 1 + d) = W.nth I k
  | 0, _ => by
    show (if p (W.nth I k) then _ else _) = _
    rw [if_pos hk]
  | d + 1, h => by
    show (if p (W.nth I (k + 1 + d)) then _ else _) = _
    rw [h (k + 1 + d) (by omega) (by omega), if_neg (by simp)]
    exact lastTo_hit hk d (fun j h1 h2 => h j h1 (by omega))
theorem lastTo_none {p : ByteArray → Bool} {I : List ByteArray} (h0 : I ≠ [] → W.nth I 0 = ⟨#[]⟩) : ∀ n, n ≤ I.length → (∀ j, 0 < j → j < n → p (W.nth I j) = false) → lastTo p I n = ⟨#[]⟩
  | 0, _, _ => rfl
  | 1, hn, _ => by
    show (if p (W.nth I 0) then W.nth I 0 else ⟨#[]⟩) = _
    have : I ≠ [] := fun e => by rw [e] at hn; simp at hn
    rw [h0 this]
    split <;> rfl
  | n + 2, hn, h => by
    show (if p (W.nth I (n + 1)) then _ else _) = _
    rw [h (n + 1) (by omega) (by omega), if_neg (by simp)]
    exact lastTo_none h0 (n + 1) (by omega) (fun j h1 h2 => h j h1 (by omega))
/-- the ordered list of inner words begins with the empty one, and no other one is empty -/
theorem inB_less {ss : List ByteArray} {i j : Nat} (hij : i < j) (hj : j < (inB ss).length) : W.less (W.nth (inB ss) i).data.toList (W.nth (inB ss) j).data.toList = true := by
  have h := inc_ord (begsTo ss ss.length)
  have h2 := List.pairwise_iff_getElem.1 h i j (by rw [raw_length]; unfold inB at hj; omega) (by rw [raw_length]; exact hj) hij
  unfold raw at h2
  rw [List.getElem_map, List.getElem_map] at h2
  rw [W.nth_lt _ i (by omega), W.nth_lt _ j hj]
  exact h2
theorem less_nil (l : List UInt8) : W.less l [] = false := by
  unfold W.less
  cases l with
  | nil => rfl
  | cons a r => simp
theorem inB_pos {ss : List ByteArray} {j : Nat} (h0 : 0 < j) (hj : j < (inB ss).length) : 0 < (W.nth (inB ss) j).size := by
  have h := inB_less h0 hj
  cases hs : (W.nth (inB ss) j).size with
  | succ n => omega
  | zero =>
    exfalso
    rw [Lib.size_eq] at hs
    rw [List.eq_nil_of_length_eq_zero hs, less_nil] at h
    cases h
theorem inB_head {ss : List ByteArray} (hq : W.isSet ss = true) (h : inB ss ≠ []) : W.nth (inB ss) 0 = ⟨#[]⟩ := by
  have hne : ss ≠ [] := fun e => h (by rw [e]; rfl)
  have hlen : 0 < ss.length := List.length_pos_iff.2 hne
  have hm : (⟨#[]⟩ : ByteArray) ∈ inB ss := by
    unfold inB
    rw [mem_ord]
    unfold begsTo
    rw [List.mem_flatMap]
    refine ⟨0, by simpa using hlen, ?_⟩
    unfold begs
    rw [List.mem_map]
    refine ⟨0, ?_, ?_⟩
    · have := (W.short_size _ (W.isSet_short ss hq 0 hlen)).1
      simp
      omega
    · refine data_inj ?_
      rw [Lib.extract_eq]
      simp
  obtain ⟨j, hj, e⟩ := List.getElem_of_mem hm
  by_cases hj0 : j = 0
  · subst hj0
    rw [W.nth_lt _ 0 hj]
    exact e
  · exfalso
    have := inB_pos (ss := ss) (j := j) (by omega) hj
    rw [W.nth_lt _ j hj, e] at this
    exact absurd this (by decide)
theorem inB_size2 {ss : List ByteArray} (h : W.isSet ss = true) : ∀ s ∈ inB ss, s.size ≤ 8 := fun s hs => by
  unfold inB at hs
  rw [mem_ord] at hs
  unfold begsTo at hs
  obtain ⟨j, hj, hs⟩ := List.mem_flatMap.1 hs
  unfold begs at hs
  obtain ⟨i, hi, rfl⟩ := List.mem_map.1 hs
  rw [List.mem_range] at hi
  have := nth_size8 (short_le h) j
  rw [ByteArray.size_extract]
  omega
/-- the inner word that is put in -/
def shX (ss : List ByteArray) : ByteArray := lastTo (fullW ss) (inB ss) (inB ss).length
/-- the words that are kept -/
def keepW (ss : List ByteArray) (x : ByteArray) : List ByteArray := ss.filter fun s => !(bgs x s)
/-- what ShrinkPrefix tells -/
def shAsk (ss : List ByteArray) : Bool := W.isSet ss && pfxB ss
def shOk (ss : List ByteArray) : Bool := shAsk ss && decide (0 < (shX ss).size)
def shOf (ss : List ByteArray) : List ByteArray := if shOk ss then ordB (keepW ss (shX ss) ++ [shX ss]) else []
theorem shOf_no {ss : List ByteArray} (h : shOk ss = false) : shOf ss = [] := by unfold shOf; rw [h]; rfl
theorem shOf_yes {ss : List ByteArray} (h : shOk ss = true) : shOf ss = ordB (keepW ss (shX ss) ++ [shX ss]) := by unfold shOf; rw [h]; rfl
theorem keepW_len (ss : List ByteArray) (x : ByteArray) : (keepW ss x).length ≤ ss.length := List.length_filter_le ..
/-- where all letters lead to words, the words that begin so have one letter more -/
theorem kid_list (s : ByteArray) (x : Nat) (h : x < 3) : (kid s x).data.toList = s.data.toList ++ [UInt8.ofNat (97 + x)] := by
  unfold kid
  rw [ByteArray.data_append, Array.toList_append]
  have : x = 0 ∨ x = 1 ∨ x = 2 := by omega
  rcases this with rfl | rfl | rfl <;> rfl
theorem kid_size (s : ByteArray) (x : Nat) (h : x < 3) : (kid s x).size = s.size + 1 := by
  rw [Lib.size_eq, kid_list s x h, List.length_append, ← Lib.size_eq]
  rfl
theorem ltrs_letter3 {ss : List ByteArray} (hq : W.isSet ss = true) {s : ByteArray} (hs : s ∈ ss) (c : UInt8) (hc : c ∈ s.data.toList) : 97 ≤ c.toNat ∧ c.toNat ≤ 99 := by
  have h1 := set_mem hq s hs
  unfold W.short W.isWd at h1
  simp only [Bool.and_eq_true, List.all_eq_true] at h1
  have h2 := h1.2 c hc
  unfold W.isL at h2
  simp only [decide_eq_true_eq] at h2
  exact h2
theorem ltrs_letter {ss : List ByteArray} (hq : W.isSet ss = true) {s : ByteArray} (hs : s ∈ ss) (c : UInt8) (hc : c ∈ s.data.toList) : 97 ≤ c.toNat ∧ c.toNat < 97 + ltrs ss := by
  have h1 := set_mem hq s hs
  unfold W.short W.isWd at h1
  simp only [Bool.and_eq_true, List.all_eq_true] at h1
  have h2 := h1.2 c hc
  unfold W.isL at h2
  simp only [decide_eq_true_eq] at h2
  refine ⟨h2.1, ?_⟩
  unfold ltrs
  split
  · rename_i h3
    rw [List.all_eq_true] at h3
    have h4 := h3 s hs
    unfold W.krWd at h4
    rw [List.all_eq_true] at h4
    have h5 := h4 c hc
    simp only [decide_eq_true_eq] at h5
    omega
  · omega
theorem full_size {ss : List ByteArray} (hq : W.isSet ss = true) (hp : pfxB ss = true) {x : ByteArray} (hf : fullW ss x = true) {s : ByteArray} (hs : s ∈ ss) (hb : bgs x s = true) : s.size = x.size + 1 := by
  have hk : ∀ j, j < ltrs ss → kid x j ∈ ss := fun j hj => by
    unfold fullW fullTo at hf
    rw [List.all_eq_true] at hf
    exact hasB_mem.1 (hf j (by simpa using hj))
  have hl2 : 2 ≤ ltrs ss ∧ ltrs ss ≤ 3 := by rcases ltrs_two ss with h | h <;> omega
  have hpre : x.data.toList <+: s.data.toList := List.isPrefixOf_iff_prefix.1 hb
  obtain ⟨r, hr⟩ := hpre
  cases r with
  | nil =>
    exfalso
    rw [List.append_nil] at hr
    have e : x = s := data_inj hr
    have h0 := hk 0 (by omega)
    have h1 : bgs s (kid x 0) = true := by
      refine List.isPrefixOf_iff_prefix.2 ?_
      rw [kid_list x 0 (by omega), e]
      exact List.prefix_append ..
    have h2 := (pfxB_iff ss).1 hp s hs _ h0
    exact h2 ⟨h1, by rw [kid_size x 0 (by omega), e]; omega⟩
  | cons c r =>
    have hc : c ∈ s.data.toList := by rw [← hr]; simp
    have hcl := ltrs_letter hq hs c hc
    have hk0 := hk (c.toNat - 97) (by omega)
    have he : UInt8.ofNat (97 + (c.toNat - 97)) = c := by rw [show 97 + (c.toNat - 97) = c.toNat by omega]; exact UInt8.ofNat_toNat
    have hkl := kid_list x (c.toNat - 97) (by omega)
    rw [he] at hkl
    have h1 : bgs (kid x (c.toNat - 97)) s = true := by
      refine List.isPrefixOf_iff_prefix.2 ?_
      rw [hkl, ← hr]
      exact ⟨r, by simp⟩
    have h2 := (pfxB_iff ss).1 hp _ hk0 s hs
    have h3 := bgs_size h1
    have h4 := kid_size x (c.toNat - 97) (by omega)
    have h5 : ¬ (kid x (c.toNat - 97)).size < s.size := fun e => h2 ⟨h1, e⟩
    omega
/-- the specification's test is the same -/
theorem keep_same {ss : List ByteArray} (hq : W.isSet ss = true) (hp : pfxB ss = true) {x : ByteArray} (hf : fullW ss x = true) {s : ByteArray} (hs : s ∈ ss) : (decide (s.size ≠ x.size + 1) || !(bgs x s)) = !(bgs x s) := by
  cases hb : bgs x s with
  | false => simp
  | true =>
    rw [decide_eq_false (by rw [full_size hq hp hf hs hb]; simp)]
    rfl
theorem keep_take_succ (ss : List ByteArray) (x : ByteArray) (k : Nat) (h : k < ss.length) : keepW (ss.take (k + 1)) x = keepW (ss.take k) x ++ (if bgs x (W.nth ss k) then [] else [W.nth ss k]) := by
  unfold keepW
  rw [List.take_succ_eq_append_getElem h, List.filter_append, W.nth_lt ss k h]
  cases hb : bgs x ss[k] <;> simp [hb]
/-- at least one word is taken away -/
theorem keep_less {ss : List ByteArray} {x : ByteArray} (hf : fullW ss x = true) : (keepW ss x).length < ss.length := by
  unfold keepW
  have h0 : kid x 0 ∈ ss := by
    unfold fullW fullTo at hf
    rw [List.all_eq_true] at hf
    exact hasB_mem.1 (hf 0 (by rcases ltrs_two ss with h | h <;> simp <;> omega))
  have h1 : bgs x (kid x 0) = true := by
    refine List.isPrefixOf_iff_prefix.2 ?_
    rw [kid_list x 0 (by omega)]
    exact List.prefix_append ..
  rcases Nat.lt_or_ge (ss.filter fun s => !(bgs x s)).length ss.length with h | h
  · exact h
  · exfalso
    have h2 := List.length_filter_eq_length_iff.1 (Nat.le_antisymm (List.length_filter_le _ ss) h) _ h0
    rw [h1] at h2
    cases h2
theorem lastTo_full {p : ByteArray → Bool} {I : List ByteArray} : ∀ n, 0 < (lastTo p I n).size → p (lastTo p I n) = true ∧ ∃ k, k < n ∧ lastTo p I n = W.nth I k
  | 0, h => absurd h (Nat.lt_irrefl 0)
  | n + 1, h => by
    by_cases hp : p (W.nth I n) = true
    · have e : lastTo p I (n + 1) = W.nth I n := by
        show (if p (W.nth I n) then _ else _) = _
        rw [if_pos hp]
      rw [e]
      exact ⟨hp, n, by omega, rfl⟩
    · have e : lastTo p I (n + 1) = lastTo p I n := by
        show (if p (W.nth I n) then _ else _) = _
        rw [if_neg hp]
      rw [e] at h ⊢
      obtain ⟨h1, k, hk, h2⟩ := lastTo_full n h
      exact ⟨h1, k, by omega, h2⟩
theorem shX_full {ss : List ByteArray} (h : 0 < (shX ss).size) : fullW ss (shX ss) = true := (lastTo_full _ h).1
theorem sh_fit {ss : List ByteArray} (hq : W.isSet ss = true) (h : 0 < (shX ss).size) : fitOk (keepW ss (shX ss) ++ [shX ss]) = true := by
  have h1 := keep_less (shX_full h)
  have h2 := W.isSet_len ss hq
  have h3 := ord_length (keepW ss (shX ss) ++ [shX ss])
  rw [List.length_append, List.length_singleton] at h3
  unfold fitOk
  exact decide_eq_true (by omega)
theorem shOf_len (ss : List ByteArray) : (shOf ss).length ≤ 1048576 := by
  cases h : shOk ss
  · rw [shOf_no h]; simp
  · rw [shOf_yes h]
    unfold shOk shAsk at h
    simp only [Bool.and_eq_true, decide_eq_true_eq] at h
    have h1 := sh_fit h.1.1 h.2
    unfold fitOk at h1
    have := of_decide_eq_true h1
    omega
end Go.Proofs.YtlapmjligdjniaaGreatDoor
