/-
  WHAT THIS FILE PROVES: plain facts on generators of an ordered list of words: those that are taken one by one, where those before don't write them, are those with one reading by all; no program in sight.
-/
import Derived.Test.YtlmcemdbalhkiaaDoorLs
import Derived.Test.YtlmcemdbalhkiaaDoorLg
import Derived.Test.YtlmcemdbalhkiaaDoorWuS
import Derived.Test.YtlmcemdbalhkiaaDoorHb
namespace Go.Proofs.YtlmcemdbalhkiaaDoor

theorem wsum_pos (T : List Nat) (l : List UInt8) (ts : List ByteArray) : 0 < W.wsum T l ts ↔ ∃ t, t ∈ ts ∧ 0 < W.wadd T l t := by
  unfold W.wsum
  induction ts with
  | nil => simp
  | cons a r ih =>
    rw [List.map_cons, List.sum_cons]
    constructor
    · intro h
      by_cases ha : 0 < W.wadd T l a
      · exact ⟨a, List.mem_cons_self .., ha⟩
      · obtain ⟨t, h1, h2⟩ := ih.1 (by omega)
        exact ⟨t, List.mem_cons_of_mem _ h1, h2⟩
    · rintro ⟨t, h1, h2⟩
      rcases List.mem_cons.1 h1 with rfl | h1
      · omega
      · have := ih.2 ⟨t, h1, h2⟩
        omega
/-- a text has a reading just if it is made of words -/
theorem ways_pos {L : List ByteArray} (hpos : ∀ t ∈ L, 1 ≤ t.size) : ∀ (n : Nat) (x : List UInt8), x.length = n → (0 < W.ways L x ↔ ∃ ts : List ByteArray, (∀ t ∈ ts, t ∈ L) ∧ catL ts = x) := by
  intro n
  induction n using Nat.strongRecOn with
  | ind n ih =>
    intro x hx
    cases x with
    | nil => exact ⟨fun _ => ⟨[], by simp, rfl⟩, fun _ => by rw [W.ways_nil]; omega⟩
    | cons c r =>
      rw [W.ways_cons, wsum_pos]
      have hn : r.length + 1 = n := by simpa using hx
      constructor
      · rintro ⟨t, ht, h⟩
        have h1 := hpos t ht
        cases hp : Lib.hasPrefix (c :: r) t.data.toList
        · rw [W.wadd_no hp] at h
          omega
        · have hle := Lib.hasPrefix_le hp
          rw [← Lib.size_eq, List.length_cons] at hle
          rw [W.wadd_yes hp, W.tab_getD L r (t.size - 1) (by omega)] at h
          obtain ⟨ts, h2, h3⟩ := (ih (r.drop (t.size - 1)).length (by rw [List.length_drop]; omega) _ rfl).1 h
          refine ⟨t :: ts, fun y hy => ?_, ?_⟩
          · rcases List.mem_cons.1 hy with rfl | hy
            · exact ht
            · exact h2 y hy
          · have h4 := W.prefix_take hp
            have h5 : (c :: r).drop t.data.toList.length = r.drop (t.size - 1) := by
              rw [← Lib.size_eq]
              conv => lhs; rw [show t.size = (t.size - 1) + 1 by omega, List.drop_succ_cons]
            rw [catL_cons, h3, ← h5]
            conv => rhs; rw [← List.take_append_drop t.data.toList.length (c :: r)]
            rw [h4]
      · rintro ⟨ts, h1, h2⟩
        cases ts with
        | nil => simp [catL] at h2
        | cons t us =>
          have ht := h1 t (List.mem_cons_self ..)
          have hs := hpos t ht
          refine ⟨t, ht, ?_⟩
          rw [catL_cons] at h2
          have hp : Lib.hasPrefix (c :: r) t.data.toList = true := by
            rw [← h2]
            unfold Lib.hasPrefix
            rw [List.isPrefixOf_iff_prefix]
            exact List.prefix_append _ _
          have hle := Lib.hasPrefix_le hp
          rw [← Lib.size_eq, List.length_cons] at hle
          have h5 : r.drop (t.size - 1) = catL us := by
            have h6 : (c :: r).drop t.data.toList.length = catL us := by rw [← h2, List.drop_left]
            rw [← Lib.size_eq] at h6
            rw [show t.size = (t.size - 1) + 1 by omega, List.drop_succ_cons] at h6
            exact h6
          rw [W.wadd_yes hp, W.tab_getD L r (t.size - 1) (by omega), h5]
          exact (ih (catL us).length (by rw [← h5, List.length_drop]; omega) _ rfl).2 ⟨us, fun y hy => h1 y (List.mem_cons_of_mem _ hy), rfl⟩

section
variable {C : List ByteArray}
theorem lst_size (h : Ls.W.isLst C = true) {t : ByteArray} (ht : t ∈ C) : 1 ≤ t.size ∧ t.size ≤ 8 := by
  obtain ⟨i, hi, rfl⟩ := List.getElem_of_mem ht
  have := W.short_size _ (Ls.W.isLst_short C h i hi)
  rwa [W.nth_lt C i hi] at this
theorem lst_less (h : Ls.W.isLst C = true) {i j : Nat} (hij : i < j) (hj : j < C.length) : W.less (W.nth C i).data.toList (W.nth C j).data.toList = true := Ls.W.isLst_lt h i j hij hj
theorem wo_mem {k : Nat} (hk : k < C.length) {t : ByteArray} : t ∈ wo C k ↔ ∃ i, i < C.length ∧ i ≠ k ∧ W.nth C i = t := by
  unfold wo
  rw [List.mem_append]
  constructor
  · rintro (ht | ht)
    · obtain ⟨i, hi, rfl⟩ := List.getElem_of_mem ht
      rw [List.length_take] at hi
      exact ⟨i, by omega, by omega, by rw [W.nth_lt C i (by omega), List.getElem_take]⟩
    · obtain ⟨i, hi, rfl⟩ := List.getElem_of_mem ht
      rw [List.length_drop] at hi
      exact ⟨k + 1 + i, by omega, by omega, by rw [W.nth_lt C _ (by omega), List.getElem_drop]⟩
  · rintro ⟨i, hi, hne, rfl⟩
    rw [W.nth_lt C i hi]
    rcases Nat.lt_or_gt_of_ne hne with h1 | h1
    · left
      rw [List.mem_iff_getElem]
      exact ⟨i, by rw [List.length_take]; omega, by rw [List.getElem_take]⟩
    · right
      rw [List.mem_iff_getElem]
      refine ⟨i - (k + 1), by rw [List.length_drop]; omega, ?_⟩
      rw [List.getElem_drop]
      congr 1
      omega
theorem lst_ways (h : Ls.W.isLst C = true) {k : Nat} (hk : k < C.length) : W.ways C (W.nth C k).data.toList = W.ways (wo C k) (W.nth C k).data.toList + 1 := by
  conv => lhs; arg 1; rw [wo_split C k hk]
  exact ways_mid _ _ _ (lst_size h (by rw [W.nth_lt C k hk]; exact List.getElem_mem hk)).1
/-- words that write another one of the list are shorter -/
theorem parts_short (h : Ls.W.isLst C = true) {k : Nat} (hk : k < C.length) {ts : List ByteArray} (hts : ∀ t ∈ ts, t ∈ wo C k) (hc : catL ts = (W.nth C k).data.toList) : ∀ t ∈ ts, ∃ i, i < k ∧ W.nth C i = t := fun t ht => by
  obtain ⟨i, hi, hne, rfl⟩ := (wo_mem hk).1 (hts t ht)
  have hpos : ∀ y ∈ ts, 1 ≤ y.size := fun y hy => by
    obtain ⟨j, hj, _, rfl⟩ := (wo_mem hk).1 (hts y hy)
    exact (lst_size h (by rw [W.nth_lt C j hj]; exact List.getElem_mem hj)).1
  obtain ⟨a, b, rfl⟩ := List.append_of_mem ht
  rw [catL_append, catL_cons] at hc
  have hlen := congrArg List.length hc
  rw [List.length_append, List.length_append, ← Lib.size_eq, ← Lib.size_eq] at hlen
  have hz : ∀ us : List ByteArray, (∀ y ∈ us, 1 ≤ y.size) → catL us = [] → us = [] := fun us hu e => by
    cases us with
    | nil => rfl
    | cons y r =>
      have := hu y (List.mem_cons_self ..)
      rw [catL_cons, List.append_eq_nil_iff] at e
      rw [Lib.size_eq, e.1] at this
      simp at this
  refine ⟨i, ?_, rfl⟩
  rcases Nat.lt_or_gt_of_ne hne with h1 | h1
  · exact h1
  · exfalso
    have hl := lst_less h h1 hi
    have hle : (W.nth C k).size ≤ (W.nth C i).size := by
      rw [W.less_def] at hl
      simp only [Bool.or_eq_true, Bool.and_eq_true, decide_eq_true_eq] at hl
      rw [Lib.size_eq, Lib.size_eq]
      rcases hl with hl | hl
      · omega
      · omega
    have ha : catL a = [] := List.eq_nil_of_length_eq_zero (by omega)
    have hb : catL b = [] := List.eq_nil_of_length_eq_zero (by omega)
    rw [ha, hb, List.nil_append, List.append_nil] at hc
    rw [hc, W.less_irrefl] at hl
    cases hl
/-- the generators among the first k -/
theorem gens_write (h : Ls.W.isLst C = true) : ∀ k, k < C.length → ∃ ts : List ByteArray, (∀ t ∈ ts, t ∈ lgTo C (k + 1)) ∧ catL ts = (W.nth C k).data.toList := by
  intro k
  induction k using Nat.strongRecOn with
  | ind k ih =>
    intro hk
    have hpos : ∀ t ∈ wo C k, 1 ≤ t.size := fun t ht => by
      obtain ⟨i, hi, _, rfl⟩ := (wo_mem hk).1 ht
      exact (lst_size h (by rw [W.nth_lt C i hi]; exact List.getElem_mem hi)).1
    cases hg : lg C (W.nth C k)
    · have hw : 0 < W.ways (wo C k) (W.nth C k).data.toList := by
        unfold lg at hg
        have := of_decide_eq_false hg
        rw [lst_ways h hk] at this
        omega
      obtain ⟨ts, h1, h2⟩ := (ways_pos hpos _ _ rfl).1 hw
      have h3 := parts_short h hk h1 h2
      have mono : ∀ i, i < k → ∀ t ∈ lgTo C (i + 1), t ∈ lgTo C (k + 1) := fun i hi t ht => by
        unfold lgTo at ht ⊢
        rw [List.mem_filter] at ht ⊢
        exact ⟨List.take_subset_take_left C (by omega) ht.1, ht.2⟩
      have key : ∀ us : List ByteArray, (∀ t ∈ us, ∃ i, i < k ∧ W.nth C i = t) → ∃ vs : List ByteArray, (∀ t ∈ vs, t ∈ lgTo C (k + 1)) ∧ catL vs = catL us := by
        intro us
        induction us with
        | nil => intro _; exact ⟨[], by simp, rfl⟩
        | cons y r ih2 =>
          intro hu
          obtain ⟨i, hi, rfl⟩ := hu y (List.mem_cons_self ..)
          obtain ⟨v1, h4, h5⟩ := ih i hi (by omega)
          obtain ⟨v2, h6, h7⟩ := ih2 (fun t ht => hu t (List.mem_cons_of_mem _ ht))
          refine ⟨v1 ++ v2, fun t ht => ?_, by rw [catL_append, h5, h7, catL_cons]⟩
          rcases List.mem_append.1 ht with ht | ht
          · exact mono i hi t (h4 t ht)
          · exact h6 t ht
      obtain ⟨vs, h4, h5⟩ := key ts h3
      exact ⟨vs, h4, by rw [h5, h2]⟩
    · refine ⟨[W.nth C k], fun t ht => ?_, catL_one _⟩
      rw [List.mem_singleton] at ht
      subst ht
      rw [lgTo_succ C k hk, hg, if_pos rfl]
      exact List.mem_append_right _ (List.mem_singleton.2 rfl)
/-- a word is a generator just if the generators before it don't write it -/
theorem greedy (h : Ls.W.isLst C = true) {k : Nat} (hk : k < C.length) : lg C (W.nth C k) = decide (W.ways (lgTo C k) (W.nth C k).data.toList = 0) := by
  have hpos : ∀ t ∈ wo C k, 1 ≤ t.size := fun t ht => by
    obtain ⟨i, hi, _, rfl⟩ := (wo_mem hk).1 ht
    exact (lst_size h (by rw [W.nth_lt C i hi]; exact List.getElem_mem hi)).1
  have hsub : ∀ t ∈ lgTo C k, t ∈ wo C k := fun t ht => by
    unfold lgTo at ht
    unfold wo
    exact List.mem_append_left _ (List.mem_filter.1 ht).1
  have hpos2 : ∀ t ∈ lgTo C k, 1 ≤ t.size := fun t ht => hpos t (hsub t ht)
  have key : 0 < W.ways (wo C k) (W.nth C k).data.toList ↔ 0 < W.ways (lgTo C k) (W.nth C k).data.toList := by
    constructor
    · intro hw
      obtain ⟨ts, h1, h2⟩ := (ways_pos hpos _ _ rfl).1 hw
      have h3 := parts_short h hk h1 h2
      refine (ways_pos hpos2 _ _ rfl).2 ?_
      rw [← h2]
      have step : ∀ us : List ByteArray, (∀ t ∈ us, ∃ i, i < k ∧ W.nth C i = t) → ∃ vs : List ByteArray, (∀ t ∈ vs, t ∈ lgTo C k) ∧ catL vs = catL us := by
        intro us
        induction us with
        | nil => intro _; exact ⟨[], by simp, rfl⟩
        | cons y r ih2 =>
          intro hu
          obtain ⟨i, hi, rfl⟩ := hu y (List.mem_cons_self ..)
          obtain ⟨v1, h4, h5⟩ := gens_write h i (by omega)
          obtain ⟨v2, h6, h7⟩ := ih2 (fun t ht => hu t (List.mem_cons_of_mem _ ht))
          refine ⟨v1 ++ v2, fun t ht => ?_, by rw [catL_append, h5, h7, catL_cons]⟩
          rcases List.mem_append.1 ht with ht | ht
          · have := h4 t ht
            unfold lgTo at this ⊢
            rw [List.mem_filter] at this ⊢
            exact ⟨List.take_subset_take_left C (by omega) this.1, this.2⟩
          · exact h6 t ht
      exact step ts h3
    · intro hw
      obtain ⟨ts, h1, h2⟩ := (ways_pos hpos2 _ _ rfl).1 hw
      exact (ways_pos hpos _ _ rfl).2 ⟨ts, fun t ht => hsub t (h1 t ht), h2⟩
  unfold lg
  rw [lst_ways h hk]
  by_cases e : W.ways (wo C k) (W.nth C k).data.toList = 0
  · have e2 : W.ways (lgTo C k) (W.nth C k).data.toList = 0 := by
      rcases Nat.eq_zero_or_pos (W.ways (lgTo C k) (W.nth C k).data.toList) with h1 | h1
      · exact h1
      · have := key.2 h1; omega
    rw [e, e2]
    rfl
  · have e2 : ¬ W.ways (lgTo C k) (W.nth C k).data.toList = 0 := by
      have := key.1 (by omega)
      omega
    rw [decide_eq_false e2, decide_eq_false (by omega)]
end

/-- short words in strict order are a list if they are not too many -/
theorem isLst_inc {ss : List ByteArray} (h : ∀ x ∈ ss, W.short x = true) (hi : W.Inc (raw ss)) (hl : ss.length ≤ 200) : Ls.W.isLst ss = true := by
  have h1 : W.shortTo ss ss.length = true := by
    unfold W.shortTo
    rw [List.all_eq_true]
    intro i hi
    rw [List.mem_range] at hi
    exact h _ (by rw [W.nth_lt ss i hi]; exact List.getElem_mem hi)
  have h2 : W.chainTo ss ss.length = true := by
    unfold W.chainTo
    rw [List.all_eq_true]
    intro i hi2
    rw [List.mem_range] at hi2
    by_cases h0 : i = 0
    · rw [decide_eq_true h0]; rfl
    · rw [decide_eq_false h0, Bool.false_or]
      exact inc_less hi (show i - 1 < i by omega) hi2
  unfold Ls.W.isLst W.okTo
  rw [decide_eq_true hl, h1, h2]
  rfl
theorem lst_inc {ss : List ByteArray} (h : Ls.W.isLst ss = true) : W.Inc (raw ss) := by
  rw [inc_raw, List.pairwise_iff_getElem]
  intro i j hi hj hij
  have := lst_less h hij hj
  rwa [W.nth_lt ss i hi, W.nth_lt ss j hj] at this
theorem lst_sub {ss l : List ByteArray} (h : Ls.W.isLst ss = true) (hl : l.Sublist ss) : Ls.W.isLst l = true := by
  refine isLst_inc (fun x hx => ?_) ((lst_inc h).sublist (hl.map _)) (Nat.le_trans hl.length_le (Ls.W.isLst_len ss h))
  obtain ⟨i, hi, rfl⟩ := List.getElem_of_mem (hl.subset hx)
  have := Ls.W.isLst_short ss h i hi
  rwa [W.nth_lt ss i hi] at this
theorem ord_inc {l : List ByteArray} (h : W.Inc (raw l)) : ordB l = l := inc_eq (inc_ord l) h (fun x => mem_ord l x)
theorem wu_lst {ss : List ByteArray} (hset : W.isSet ss = true) {n : Nat} (hn : n ≤ 8) (hl : (wuL ss n).length ≤ 200) : Ls.W.isLst (wuL ss n) = true := by
  have hw := wu_ex hset n
  refine isLst_inc (fun x hx => ?_) hw.1 hl
  obtain ⟨h1, h2, _, ts, h3, h4⟩ := (hw.2 x).1 hx
  unfold W.short
  rw [decide_eq_true ⟨h1, by omega⟩, ← h4, catL_letters hset ts h3]
  rfl
/-- the words that both write -/
noncomputable def mgC (a b : List ByteArray) (n : Nat) : List ByteArray := (wuL a n).filter (hasB (wuL b n))
noncomputable def mgOk (a b : List ByteArray) (n : Int) : Bool := wuOk a n && (wuOk b n && fitOk (lgB (mgC a b n.toNat)))
/-- what MeetGenerators tells -/
noncomputable def mgOf (a b : List ByteArray) (n : Int) : List ByteArray := if mgOk a b n then fitOf (lgB (mgC a b n.toNat)) else []
theorem mg_no {a b : List ByteArray} {n : Int} (h : (wuOk a n && wuOk b n) = false) : mgOk a b n = false ∧ mgOf a b n = [] := by
  have e : mgOk a b n = false := by unfold mgOk; rw [← Bool.and_assoc, h]; rfl
  exact ⟨e, by unfold mgOf; rw [e]; rfl⟩
theorem mg_yes {a b : List ByteArray} {n : Int} (h1 : wuOk a n = true) (h2 : wuOk b n = true) : mgOk a b n = fitOk (lgB (mgC a b n.toNat)) ∧ mgOf a b n = fitOf (lgB (mgC a b n.toNat)) := by
  have e : mgOk a b n = fitOk (lgB (mgC a b n.toNat)) := by unfold mgOk; rw [h1, h2]; rfl
  refine ⟨e, ?_⟩
  unfold mgOf
  rw [e]
  cases hf : fitOk (lgB (mgC a b n.toNat))
  · unfold fitOf; rw [hf]; rfl
  · rfl
theorem mgOf_len (a b : List ByteArray) (n : Int) : (mgOf a b n).length ≤ 12 := by
  cases h : mgOk a b n
  · unfold mgOf; rw [h]; simp
  · unfold mgOf
    rw [h, if_pos rfl]
    unfold fitOf
    split
    · rename_i hf
      unfold fitOk at hf
      exact of_decide_eq_true hf
    · simp
/-- the words of the first k that the other list has, too, and of these the generators -/
def ckL (F S : List ByteArray) (k : Nat) : List ByteArray := (F.take k).filter (hasB S)
theorem ck_step {F S : List ByteArray} {k : Nat} (h : k < F.length) (hs : hasB S (W.nth F k) = true) : ckL F S (k + 1) = ckL F S k ++ [W.nth F k] := by
  unfold ckL
  rw [List.take_succ_eq_append_getElem h, List.filter_append, ← W.nth_lt F k h]
  simp [hs]
theorem ck_skip {F S : List ByteArray} {k : Nat} (h : k < F.length) (hs : hasB S (W.nth F k) = false) : ckL F S (k + 1) = ckL F S k := by
  unfold ckL
  rw [List.take_succ_eq_append_getElem h, List.filter_append, ← W.nth_lt F k h]
  simp [hs]
theorem ck_pre (F S : List ByteArray) (k : Nat) : F.filter (hasB S) = ckL F S k ++ (F.drop k).filter (hasB S) := by
  unfold ckL
  rw [← List.filter_append, List.take_append_drop]
theorem ck_lg {F S : List ByteArray} (k : Nat) : lgTo (F.filter (hasB S)) (ckL F S k).length = (ckL F S k).filter (lg (F.filter (hasB S))) := by
  unfold lgTo
  congr 1
  conv => lhs; rw [ck_pre F S k]
  exact List.take_left
theorem ck_at {F S : List ByteArray} {k : Nat} (h : k < F.length) (hs : hasB S (W.nth F k) = true) : (ckL F S k).length < (F.filter (hasB S)).length ∧ W.nth (F.filter (hasB S)) (ckL F S k).length = W.nth F k := by
  have h1 := ck_pre F S (k + 1)
  rw [ck_step h hs] at h1
  have h2 : (ckL F S k).length < (F.filter (hasB S)).length := by
    rw [h1, List.length_append, List.length_append, List.length_singleton]
    omega
  refine ⟨h2, ?_⟩
  rw [W.nth_lt _ _ h2]
  have h3 : (F.filter (hasB S))[(ckL F S k).length]? = some (W.nth F k) := by
    rw [h1, List.append_assoc, List.getElem?_append_right (Nat.le_refl _), Nat.sub_self]
    rfl
  rw [List.getElem?_eq_getElem h2] at h3
  exact Option.some.inj h3
/-- the generators among the words so far -/
def gkL (F S : List ByteArray) (k : Nat) : List ByteArray := lgTo (F.filter (hasB S)) (ckL F S k).length
theorem gk_zero (F S : List ByteArray) : gkL F S 0 = [] := by unfold gkL ckL; simp [lgTo]
theorem gk_skip {F S : List ByteArray} {k : Nat} (h : k < F.length) (hs : hasB S (W.nth F k) = false) : gkL F S (k + 1) = gkL F S k := by unfold gkL; rw [ck_skip h hs]
theorem gk_step {F S : List ByteArray} {k : Nat} (h : k < F.length) (hs : hasB S (W.nth F k) = true) : gkL F S (k + 1) = gkL F S k ++ if lg (F.filter (hasB S)) (W.nth F k) then [W.nth F k] else [] := by
  have h1 := ck_at h hs
  unfold gkL
  rw [ck_step h hs, List.length_append, List.length_singleton, lgTo_succ _ _ h1.1, h1.2]
theorem gk_greedy {F S : List ByteArray} (hC : Ls.W.isLst (F.filter (hasB S)) = true) {k : Nat} (h : k < F.length) (hs : hasB S (W.nth F k) = true) : lg (F.filter (hasB S)) (W.nth F k) = decide (W.ways (gkL F S k) (W.nth F k).data.toList = 0) := by
  have h1 := ck_at h hs
  have h2 := greedy hC h1.1
  rw [h1.2] at h2
  exact h2
theorem gk_all (F S : List ByteArray) : gkL F S F.length = lgB (F.filter (hasB S)) := by
  unfold gkL
  have : ckL F S F.length = F.filter (hasB S) := by unfold ckL; rw [List.take_length]
  rw [this, lgTo_all]
theorem gk_lst {F S : List ByteArray} (hC : Ls.W.isLst (F.filter (hasB S)) = true) (k : Nat) : Ls.W.isLst (gkL F S k) = true := lst_sub hC (by unfold gkL lgTo; exact List.filter_sublist.trans (List.take_sublist _ _))
theorem gk_len {F S : List ByteArray} (hC : Ls.W.isLst (F.filter (hasB S)) = true) (k : Nat) : (gkL F S k).length ≤ 200 := Ls.W.isLst_len _ (gk_lst hC k)
end Go.Proofs.YtlmcemdbalhkiaaDoor
