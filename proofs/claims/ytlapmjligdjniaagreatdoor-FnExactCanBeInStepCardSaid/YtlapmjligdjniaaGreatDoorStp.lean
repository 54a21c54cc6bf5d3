/-
  WHAT THIS FILE PROVES: plain facts on the states of reading of a complete prefix set, where letters and words lead from them, and groups of them told by bits; no program in sight.
-/
import Derived.Test.YtlapmjligdjniaaGreatDoorShk
import Derived.Lib.SlicesS
namespace Go.Proofs.YtlapmjligdjniaaGreatDoor

/-- a sum over two or three letters -/
def sumK (L : Nat) (f : Nat → Nat) : Nat := if L = 2 then f 0 + f 1 else f 0 + f 1 + f 2
theorem sumK_add (L : Nat) (f g : Nat → Nat) : sumK L (fun k => f k + g k) = sumK L f + sumK L g := by
  unfold sumK
  split <;> (dsimp only; omega)
theorem sumK_zero (L : Nat) : sumK L (fun _ => 0) = 0 := by
  unfold sumK
  split <;> rfl
/-- what the words that begin with u weigh -/
def muF (f : List UInt8 → Nat) : List (List UInt8) → List UInt8 → Nat
  | [], _ => 0
  | s :: R, u => (if u.isPrefixOf s then f s else 0) + muF f R u
/-- words over the first L letters -/
def letsL (L : Nat) (s : List UInt8) : Prop := ∀ c ∈ s, 97 ≤ c.toNat ∧ c.toNat < 97 + L
theorem pfx_snoc {u r : List UInt8} {c d : UInt8} : (u ++ [d]).isPrefixOf (u ++ c :: r) = decide (d = c) := by
  rw [Bool.eq_iff_iff, List.isPrefixOf_iff_prefix, decide_eq_true_eq]
  constructor
  · intro h
    rw [List.prefix_append_right_inj, List.cons_prefix_cons] at h
    exact h.1
  · rintro rfl
    rw [List.prefix_append_right_inj, List.cons_prefix_cons]
    exact ⟨rfl, List.nil_prefix⟩
theorem pfx_down {u s : List UInt8} {d : UInt8} (h : u.isPrefixOf s = false) : (u ++ [d]).isPrefixOf s = false := by
  cases hq : (u ++ [d]).isPrefixOf s with
  | false => rfl
  | true =>
    have h1 := List.isPrefixOf_iff_prefix.1 hq
    have h2 : u.isPrefixOf s = true := List.isPrefixOf_iff_prefix.2 ((List.prefix_append u [d]).trans h1)
    rw [h] at h2
    cases h2
theorem let_of {c : UInt8} {k : Nat} (h : c.toNat = 97 + k) (hk : k < 3) : c = lt k := by
  refine UInt8.toNat_inj.1 ?_
  match k, hk with
  | 0, _ => exact h
  | 1, _ => exact h
  | 2, _ => exact h
theorem mu_one {L : Nat} (hL : L = 2 ∨ L = 3) {u s : List UInt8} (hs : letsL L s) (x : Nat) :
    (if u.isPrefixOf s then x else 0) = (if s = u then x else 0) + sumK L (fun k => if (u ++ [lt k]).isPrefixOf s then x else 0) := by
  cases hq : u.isPrefixOf s with
  | false =>
    have hne : s ≠ u := fun e => by
      subst e
      rw [List.isPrefixOf_iff_prefix.2 (List.prefix_refl s)] at hq
      cases hq
    rw [if_neg hne, if_neg (by simp)]
    have : (fun k => if (u ++ [lt k]).isPrefixOf s then x else 0) = fun _ => 0 := funext fun k => by rw [pfx_down hq]; rfl
    rw [this, sumK_zero]
  | true =>
    rw [if_pos rfl]
    obtain ⟨r, rfl⟩ := List.isPrefixOf_iff_prefix.1 hq
    cases r with
    | nil =>
      rw [List.append_nil, if_pos rfl]
      have : (fun k => if (u ++ [lt k]).isPrefixOf u then x else 0) = fun _ => 0 := funext fun k => by
        have : (u ++ [lt k]).isPrefixOf u = false := by
          cases hq : (u ++ [lt k]).isPrefixOf u with
          | false => rfl
          | true =>
            have := (List.isPrefixOf_iff_prefix.1 hq).length_le
            simp at this
            omega
        rw [this]
        rfl
      rw [this, sumK_zero, Nat.add_zero]
    | cons c r =>
      rw [if_neg (fun e => by have := congrArg List.length e; simp at this)]
      have hc := hs c (by simp)
      have key : ∀ k, (if (u ++ [lt k]).isPrefixOf (u ++ c :: r) then x else 0) = if lt k = c then x else 0 := fun k => by
        rw [pfx_snoc]
        by_cases e : lt k = c <;> simp [e]
      have : (fun k => if (u ++ [lt k]).isPrefixOf (u ++ c :: r) then x else 0) = fun k => if lt k = c then x else 0 := funext key
      rw [this]
      have h01 : lt 0 ≠ lt 1 := by decide
      have h02 : lt 0 ≠ lt 2 := by decide
      have h12 : lt 1 ≠ lt 2 := by decide
      rcases hL with rfl | rfl
      · have hk : c.toNat = 97 + 0 ∨ c.toNat = 97 + 1 := by omega
        rcases hk with hk | hk
        · rw [let_of hk (by omega)]
          simp [sumK, h01.symm]
        · rw [let_of hk (by omega)]
          simp [sumK, h01]
      · have hk : c.toNat = 97 + 0 ∨ c.toNat = 97 + 1 ∨ c.toNat = 97 + 2 := by omega
        rcases hk with hk | hk | hk
        · rw [let_of hk (by omega)]
          simp [sumK, h01.symm, h02.symm]
        · rw [let_of hk (by omega)]
          simp [sumK, h01, h12.symm]
        · rw [let_of hk (by omega)]
          simp [sumK, h02, h12]
theorem mu_split {L : Nat} (hL : L = 2 ∨ L = 3) (f : List UInt8 → Nat) (u : List UInt8) : ∀ R : List (List UInt8), (∀ s ∈ R, letsL L s) →
    muF f R u = f u * R.count u + sumK L (fun k => muF f R (u ++ [lt k]))
  | [], _ => by
    show 0 = f u * 0 + sumK L (fun _ => 0)
    rw [sumK_zero, Nat.mul_zero]
  | s :: R, h => by
    have ih := mu_split hL f u R (fun t ht => h t (List.mem_cons_of_mem _ ht))
    show (if u.isPrefixOf s then f s else 0) + muF f R u = f u * (s :: R).count u + sumK L (fun k => (if (u ++ [lt k]).isPrefixOf s then f s else 0) + muF f R (u ++ [lt k]))
    rw [sumK_add, ih, mu_one hL (h s List.mem_cons_self), List.count_cons, Nat.mul_add]
    by_cases e : s = u
    · subst e
      simp
      omega
    · have : (s == u) = false := beq_eq_false_iff_ne.2 e
      rw [this, if_neg e]
      simp
      omega
theorem mu_none (f : List UInt8 → Nat) (u : List UInt8) : ∀ R : List (List UInt8), (∀ s ∈ R, ¬ u <+: s) → muF f R u = 0
  | [], _ => rfl
  | s :: R, h => by
    show (if u.isPrefixOf s then f s else 0) + muF f R u = 0
    rw [mu_none f u R (fun t ht => h t (List.mem_cons_of_mem _ ht))]
    have : u.isPrefixOf s = false := by
      cases hq : u.isPrefixOf s with
      | false => rfl
      | true => exact absurd (List.isPrefixOf_iff_prefix.1 hq) (h s List.mem_cons_self)
    rw [this]
    rfl
theorem count_one {u : List UInt8} : ∀ {R : List (List UInt8)}, R.Nodup → u ∈ R → R.count u = 1
  | [], _, h => by cases h
  | a :: R, hn, h => by
    rw [List.nodup_cons] at hn
    rw [List.count_cons]
    by_cases e : a = u
    · subst e
      rw [List.count_eq_zero_of_not_mem hn.1]
      simp
    · have : (a == u) = false := beq_eq_false_iff_ne.2 e
      rw [this, count_one hn.2 ((List.mem_cons.1 h).resolve_left (fun x => e x.symm))]
      rfl
theorem count_none {u : List UInt8} {R : List (List UInt8)} (h : u ∉ R) : R.count u = 0 := List.count_eq_zero_of_not_mem h
/-- a prefix set over L letters, as lists -/
structure Pset (L : Nat) (R : List (List UInt8)) : Prop where
  two : L = 2 ∨ L = 3
  nodup : R.Nodup
  size : ∀ s ∈ R, s.length ≤ 8
  lets : ∀ s ∈ R, letsL L s
  free : ∀ s ∈ R, ∀ t ∈ R, s <+: t → s = t
section
variable {L : Nat} {R : List (List UInt8)}
theorem Pset.leaf (h : Pset L R) (f : List UInt8 → Nat) {u : List UInt8} (hu : u ∈ R) : muF f R u = f u := by
  rw [mu_split h.two f u R h.lets, count_one h.nodup hu, Nat.mul_one]
  have : (fun k => muF f R (u ++ [lt k])) = fun _ => 0 := funext fun k => mu_none f _ R (fun s hs hp => by
    have h1 := h.free u hu s hs ((List.prefix_append u [lt k]).trans hp)
    subst h1
    have := hp.length_le
    simp at this
    omega)
  rw [this, sumK_zero, Nat.add_zero]
theorem Pset.split (h : Pset L R) (f : List UInt8 → Nat) {u : List UInt8} (hu : u ∉ R) : muF f R u = sumK L (fun k => muF f R (u ++ [lt k])) := by
  rw [mu_split h.two f u R h.lets, List.count_eq_zero_of_not_mem hu]
  omega
/-- all ways on from u lead to words, within so many letters -/
def cm (L : Nat) (R : List (List UInt8)) : Nat → List UInt8 → Prop
  | 0, u => u ∈ R
  | d + 1, u => u ∈ R ∨ ∀ k, k < L → cm L R d (u ++ [lt k])
theorem cm_in {d : Nat} {u : List UInt8} (h : u ∈ R) : cm L R d u := by
  cases d with
  | zero => exact h
  | succ d => exact .inl h
theorem Pset.kraft (h : Pset L R) : ∀ d u, u.length + d = 8 → muF (fun s => L ^ (8 - s.length)) R u ≤ L ^ d ∧ (muF (fun s => L ^ (8 - s.length)) R u = L ^ d ↔ cm L R d u)
  | 0, u, hd => by
    by_cases hu : u ∈ R
    · rw [h.leaf _ hu]
      have : 8 - u.length = 0 := by omega
      rw [this]
      exact ⟨Nat.le_refl _, fun _ => hu, fun _ => rfl⟩
    · rw [mu_none _ u R (fun s hs hp => by
        have h1 := hp.length_le
        have h2 := h.size s hs
        have := hp.eq_of_length (by omega)
        subst this
        exact hu hs)]
      refine ⟨Nat.zero_le _, fun e => ?_, fun e => absurd e hu⟩
      rw [Nat.pow_zero] at e
      cases e
  | d + 1, u, hd => by
    by_cases hu : u ∈ R
    · rw [h.leaf _ hu]
      have : 8 - u.length = d + 1 := by omega
      rw [this]
      exact ⟨Nat.le_refl _, fun _ => .inl hu, fun _ => rfl⟩
    · rw [h.split _ hu]
      have ih := fun k => Pset.kraft h d (u ++ [lt k]) (by simp; omega)
      have hc : cm L R (d + 1) u ↔ ∀ k, k < L → cm L R d (u ++ [lt k]) := ⟨fun e => e.resolve_left hu, .inr⟩
      rw [hc, Nat.pow_succ]
      have h0 := ih 0
      have h1 := ih 1
      have h2 := ih 2
      have hall : (∀ k, k < L → cm L R d (u ++ [lt k])) ↔ ∀ k, k < L → muF (fun s => L ^ (8 - s.length)) R (u ++ [lt k]) = L ^ d := ⟨fun e k hk => (ih k).2.2 (e k hk), fun e k hk => (ih k).2.1 (e k hk)⟩
      rw [hall]
      generalize hm : (fun k => muF (fun s => L ^ (8 - s.length)) R (u ++ [lt k])) = m
      have e0 := congrFun hm 0
      have e1 := congrFun hm 1
      have e2 := congrFun hm 2
      have eA : ∀ k, muF (fun s => L ^ (8 - s.length)) R (u ++ [lt k]) = m k := fun k => congrFun hm k
      rw [eA] at h0 h1 h2
      simp only [eA]
      have b0 := h0.1
      have b1 := h1.1
      have b2 := h2.1
      clear h0 h1 h2 e0 e1 e2 eA hm hall hc ih
      rcases h.two with rfl | rfl
      · generalize 2 ^ d = X at *
        refine ⟨by simp [sumK]; omega, fun e k hk => ?_, fun e => ?_⟩
        · simp [sumK] at e
          rcases (by omega : k = 0 ∨ k = 1) with rfl | rfl <;> omega
        · have g0 := e 0 (by omega)
          have g1 := e 1 (by omega)
          simp [sumK]
          omega
      · generalize 3 ^ d = X at *
        refine ⟨by simp [sumK]; omega, fun e k hk => ?_, fun e => ?_⟩
        · simp [sumK] at e
          rcases (by omega : k = 0 ∨ k = 1 ∨ k = 2) with rfl | rfl | rfl <;> omega
        · have g0 := e 0 (by omega)
          have g1 := e 1 (by omega)
          have g2 := e 2 (by omega)
          simp [sumK]
          omega
/-- a beginning of a word that is shorter -/
def inner (R : List (List UInt8)) (u : List UInt8) : Prop := ∃ t ∈ R, u <+: t ∧ u ≠ t
/-- each inner word with each letter is an inner word or a word -/
def fullP (L : Nat) (R : List (List UInt8)) : Prop := ∀ s, inner R s → ∀ k, k < L → inner R (s ++ [lt k]) ∨ s ++ [lt k] ∈ R
theorem cm_has (h : Pset L R) : ∀ d u, cm L R d u → ∃ t ∈ R, u <+: t
  | 0, u, hc => ⟨u, hc, List.prefix_refl u⟩
  | d + 1, u, hc => by
    rcases hc with hu | hk
    · exact ⟨u, hu, List.prefix_refl u⟩
    · obtain ⟨t, ht, hp⟩ := cm_has h d _ (hk 0 (by rcases h.two with e | e <;> omega))
      exact ⟨t, ht, (List.prefix_append u [lt 0]).trans hp⟩
theorem full_cm (h : Pset L R) (hf : fullP L R) : ∀ d u, u.length + d = 8 → (inner R u ∨ u ∈ R) → cm L R d u
  | 0, u, hd, hu => by
    rcases hu with ⟨t, ht, hp, hne⟩ | hu
    · exfalso
      have h1 := hp.length_le
      have h2 := h.size t ht
      exact hne (hp.eq_of_length (by omega))
    · exact hu
  | d + 1, u, hd, hu => by
    rcases hu with hi | hu
    · exact .inr fun k hk => full_cm h hf d _ (by simp; omega) (hf u hi k hk)
    · exact .inl hu
theorem cm_full (h : Pset L R) : ∀ d u, u.length + d = 8 → cm L R d u → ∀ s, u <+: s → inner R s → ∀ k, k < L → inner R (s ++ [lt k]) ∨ s ++ [lt k] ∈ R
  | 0, u, hd, hc, s, hus, ⟨t, ht, hp, hne⟩, k, hk => by
    exfalso
    have := h.free u hc t ht (hus.trans hp)
    subst this
    have h1 := hus.length_le
    have h2 := hp.length_le
    exact hne (hp.eq_of_length (by omega))
  | d + 1, u, hd, hc, s, hus, ⟨t, ht, hp, hne⟩, k, hk => by
    rcases hc with hu | hkk
    · exfalso
      have := h.free u hu t ht (hus.trans hp)
      subst this
      have h1 := hus.length_le
      have h2 := hp.length_le
      exact hne (hp.eq_of_length (by omega))
    · obtain ⟨r, rfl⟩ := hus
      cases r with
      | nil =>
        rw [List.append_nil]
        obtain ⟨t2, ht2, hp2⟩ := cm_has h d _ (hkk k hk)
        by_cases e : u ++ [lt k] = t2
        · exact .inr (e ▸ ht2)
        · exact .inl ⟨t2, ht2, hp2, e⟩
      | cons c r =>
        have hct := h.lets t ht c (hp.subset (by simp))
        have hc3 : c.toNat - 97 < 3 := by rcases h.two with e | e <;> omega
        have hce : c = lt (c.toNat - 97) := let_of (by omega) hc3
        refine cm_full h d (u ++ [lt (c.toNat - 97)]) (by simp; omega) (hkk _ (by omega)) (u ++ c :: r) ?_ ⟨t, ht, hp, hne⟩ k hk
        rw [← hce, List.prefix_append_right_inj, List.cons_prefix_cons]
        exact ⟨rfl, List.nil_prefix⟩
theorem Pset.complete (h : Pset L R) (h0 : R ≠ []) (h1 : ∀ s ∈ R, s ≠ []) : fullP L R ↔ muF (fun s => L ^ (8 - s.length)) R [] = L ^ 8 := by
  rw [(h.kraft 8 [] rfl).2]
  constructor
  · intro hf
    refine full_cm h hf 8 [] rfl (.inl ?_)
    cases R with
    | nil => exact absurd rfl h0
    | cons t R => exact ⟨t, List.mem_cons_self, List.nil_prefix, fun e => h1 t List.mem_cons_self e.symm⟩
  · exact fun hc s hs k hk => cm_full h 8 [] rfl hc s List.nil_prefix hs k hk
/-- the inner words and the words that begin with u are told by each other -/
theorem Pset.few (h : Pset L R) (hf : fullP L R) {I : List (List UInt8)} (hI : I.Nodup) (hm : ∀ s, s ∈ I ↔ inner R s) : ∀ d u, u.length + d = 8 → (inner R u ∨ u ∈ R) →
    muF (fun _ => 1) I u * (L - 1) + 1 = muF (fun _ => 1) R u
  | d, u, hd, hu => by
    have hIl : ∀ s ∈ I, letsL L s := fun s hs c hc => by
      obtain ⟨t, ht, hp, _⟩ := (hm s).1 hs
      exact h.lets t ht c (hp.subset hc)
    by_cases hin : u ∈ R
    · rw [h.leaf _ hin, mu_none _ u I (fun s hs hp => by
        obtain ⟨t, ht, hp2, hne⟩ := (hm s).1 hs
        have := h.free u hin t ht (hp.trans hp2)
        subst this
        have h1 := hp.length_le
        have h2 := hp2.length_le
        exact hne (hp2.eq_of_length (by omega)))]
      omega
    · have hi := hu.resolve_right hin
      rw [h.split _ hin, mu_split h.two _ u I hIl, count_one hI ((hm u).2 hi)]
      match d, hd with
      | 0, hd =>
        exfalso
        obtain ⟨t, ht, hp, hne⟩ := hi
        have h1 := hp.length_le
        have h2 := h.size t ht
        exact hne (hp.eq_of_length (by omega))
      | d + 1, hd =>
        have ih := fun k hk => Pset.few h hf hI hm d (u ++ [lt k]) (by simp; omega) (hf u hi k hk)
        rcases h.two with rfl | rfl
        · have i0 := ih 0 (by omega)
          have i1 := ih 1 (by omega)
          simp only [sumK, if_true]
          omega
        · have i0 := ih 0 (by omega)
          have i1 := ih 1 (by omega)
          have i2 := ih 2 (by omega)
          simp only [sumK, if_neg (show ¬ (3 : Nat) = 2 by omega)]
          omega
theorem muF_all : ∀ R : List (List UInt8), muF (fun _ => 1) R [] = R.length
  | [] => rfl
  | s :: R => by
    show (if ([] : List UInt8).isPrefixOf s then 1 else 0) + muF (fun _ => 1) R [] = _
    rw [muF_all R, List.length_cons]
    have : ([] : List UInt8).isPrefixOf s = true := by cases s <;> rfl
    rw [this, if_pos rfl]
    omega
end

theorem raw_nodup {ss : List ByteArray} (h : W.isSet ss = true) : (raw ss).Nodup := by
  refine List.pairwise_iff_getElem.2 fun i j hi hj hij => ?_
  rw [raw_length] at hi hj
  have h1 := set_less h hij hj
  intro e
  have e2 : ss[i].data.toList = ss[j].data.toList := by simpa [raw] using e
  unfold W.lessB at h1
  rw [W.nth_lt ss i hi, W.nth_lt ss j hj, e2, W.less_irrefl] at h1
  cases h1
theorem psetOf {ss : List ByteArray} (h : W.isSet ss = true) (hp : pfxB ss = true) : Pset (ltrs ss) (raw ss) where
  two := ltrs_two ss
  nodup := raw_nodup h
  size := fun s hs => by
    obtain ⟨t, ht, rfl⟩ := List.mem_map.1 hs
    have := short_le h t ht
    rw [← Lib.size_eq]
    exact this
  lets := fun s hs c hc => by
    obtain ⟨t, ht, rfl⟩ := List.mem_map.1 hs
    exact ltrs_letter h ht c hc
  free := fun s hs t ht hst => by
    obtain ⟨a, ha, rfl⟩ := List.mem_map.1 hs
    obtain ⟨b, hb, rfl⟩ := List.mem_map.1 ht
    have h1 := (pfxB_iff ss).1 hp a ha b hb
    have h2 : bgs a b = true := List.isPrefixOf_iff_prefix.2 hst
    have h3 : ¬ a.size < b.size := fun e => h1 ⟨h2, e⟩
    exact congrArg (fun x : ByteArray => x.data.toList) (bgs_same h2 (by omega))
theorem mu_lens (L : Nat) : ∀ ss : List ByteArray, muF (fun s => L ^ (8 - s.length)) (raw ss) [] = W.shares L (W.lens ss)
  | [] => rfl
  | s :: ss => by
    have ih := mu_lens L ss
    show (if ([] : List UInt8).isPrefixOf s.data.toList then L ^ (8 - s.data.toList.length) else 0) + muF _ (raw ss) [] = W.shares L (W.lens [s] ++ W.lens ss)
    rw [W.shares_append, ih]
    have : ([] : List UInt8).isPrefixOf s.data.toList = true := by cases s.data.toList <;> rfl
    rw [this, if_pos rfl, ← Lib.size_eq]
    simp [W.shares, W.lens, W.part]
theorem mem_inB {ss : List ByteArray} {x : ByteArray} : x ∈ inB ss ↔ inner (raw ss) x.data.toList := by
  unfold inB
  rw [mem_ord]
  unfold begsTo
  rw [List.mem_flatMap]
  constructor
  · rintro ⟨j, hj, hx⟩
    rw [List.mem_range] at hj
    unfold begs at hx
    obtain ⟨i, hi, rfl⟩ := List.mem_map.1 hx
    rw [List.mem_range] at hi
    refine ⟨(W.nth ss j).data.toList, List.mem_map.2 ⟨W.nth ss j, by rw [W.nth_lt ss j hj]; exact List.getElem_mem hj, rfl⟩, ?_, ?_⟩
    · rw [Lib.extract_eq]
      simp only [List.drop_zero]
      exact List.take_prefix _ _
    · intro e
      have h1 := congrArg List.length e
      rw [← Lib.size_eq, ← Lib.size_eq, ByteArray.size_extract] at h1
      omega
  · rintro ⟨t, ht, hp, hne⟩
    obtain ⟨b, hb, rfl⟩ := List.mem_map.1 ht
    obtain ⟨j, hj, rfl⟩ := List.getElem_of_mem hb
    refine ⟨j, by simpa using hj, ?_⟩
    rw [W.nth_lt ss j hj]
    unfold begs
    have hl := hp.length_le
    have hlt : x.data.toList.length < ss[j].data.toList.length := by
      rcases Nat.lt_or_ge x.data.toList.length ss[j].data.toList.length with h | h
      · exact h
      · exact absurd (hp.eq_of_length (by omega)) hne
    refine List.mem_map.2 ⟨x.size, ?_, data_inj ?_⟩
    · rw [List.mem_range, Lib.size_eq, Lib.size_eq]
      exact hlt
    · rw [Lib.extract_eq, Lib.size_eq]
      simp only [List.drop_zero, Nat.sub_zero]
      exact (List.prefix_iff_eq_take.1 hp).symm
/-- the first k letters behind s lead to inner words or words -/
def fkTo (ss : List ByteArray) (s : ByteArray) (k : Nat) : Bool := (List.range k).all fun j => hasB (inB ss) (kid s j) || hasB ss (kid s j)
/-- so do all letters behind the first i inner words -/
def fiTo (ss : List ByteArray) (i : Nat) : Bool := (List.range i).all fun j => fkTo ss (W.nth (inB ss) j) (ltrs ss)
def fullC (ss : List ByteArray) : Bool := fiTo ss (inB ss).length
theorem fkTo_succ (ss : List ByteArray) (s : ByteArray) (k : Nat) : fkTo ss s (k + 1) = (fkTo ss s k && (hasB (inB ss) (kid s k) || hasB ss (kid s k))) := by
  unfold fkTo
  rw [List.range_succ, List.all_append]
  simp
theorem fiTo_succ (ss : List ByteArray) (i : Nat) : fiTo ss (i + 1) = (fiTo ss i && fkTo ss (W.nth (inB ss) i) (ltrs ss)) := by
  unfold fiTo
  rw [List.range_succ, List.all_append]
  simp
theorem fkTo_no (ss : List ByteArray) (s : ByteArray) (k n : Nat) (h : k ≤ n) (hf : fkTo ss s k = false) : fkTo ss s n = false := W.all_mono _ k n h hf
theorem fiTo_no (ss : List ByteArray) (k n : Nat) (h : k ≤ n) (hf : fiTo ss k = false) : fiTo ss n = false := W.all_mono _ k n h hf
theorem kid_raw (s : ByteArray) (k : Nat) (h : k < 3) : (kid s k).data.toList = s.data.toList ++ [lt k] := kid_list s k h
theorem mem_raw2 {ss : List ByteArray} {x : ByteArray} : x.data.toList ∈ raw ss ↔ x ∈ ss := mem_raw
theorem full_iff (ss : List ByteArray) : fullC ss = true ↔ fullP (ltrs ss) (raw ss) := by
  have h3 : ltrs ss ≤ 3 := by rcases ltrs_two ss with h | h <;> omega
  unfold fullC fiTo
  rw [List.all_eq_true]
  constructor
  · intro h u hu k hk
    obtain ⟨x, rfl⟩ : ∃ x : ByteArray, u = x.data.toList := ⟨⟨u.toArray⟩, rfl⟩
    obtain ⟨i, hi, e⟩ := List.getElem_of_mem (mem_inB.2 hu)
    have h1 := h i (by simpa using hi)
    rw [W.nth_lt _ i hi, e] at h1
    unfold fkTo at h1
    rw [List.all_eq_true] at h1
    have h2 := h1 k (by simpa using hk)
    rw [← kid_raw x k (by omega), ← mem_inB, mem_raw2]
    simp only [Bool.or_eq_true] at h2
    exact h2.imp hasB_mem.1 hasB_mem.1
  · intro h i hi
    rw [List.mem_range] at hi
    unfold fkTo
    rw [List.all_eq_true]
    intro k hk
    rw [List.mem_range] at hk
    have h1 := h (W.nth (inB ss) i).data.toList (mem_inB.1 (by rw [W.nth_lt _ i hi]; exact List.getElem_mem hi)) k hk
    rw [← kid_raw _ k (by omega), ← mem_inB, mem_raw2] at h1
    simp only [Bool.or_eq_true]
    exact h1.imp hasB_mem.2 hasB_mem.2
/-- whether a list is a complete prefix set -/
def stOk (ss : List ByteArray) : Bool := W.isSet ss && (decide (0 < ss.length) && (pfxB ss && fullC ss))
theorem stOk_parts {ss : List ByteArray} (h : stOk ss = true) : W.isSet ss = true ∧ 0 < ss.length ∧ pfxB ss = true ∧ fullC ss = true := by
  unfold stOk at h
  simp only [Bool.and_eq_true, decide_eq_true_eq] at h
  exact h
/-- Kraft's sum tells the same -/
theorem st_sum {ss : List ByteArray} (h : W.isSet ss = true) : (decide (0 < ss.length) && (pfxB ss && fullC ss)) = (pfxB ss && decide (W.shares (ltrs ss) (W.lens ss) = ltrs ss ^ 8)) := by
  cases hp : pfxB ss
  · simp
  · by_cases h0 : 0 < ss.length
    · rw [decide_eq_true h0, Bool.true_and, Bool.true_and, Bool.true_and, Bool.eq_iff_iff, full_iff, decide_eq_true_eq, ← mu_lens]
      refine (psetOf h hp).complete (fun e => ?_) (fun s hs e => ?_)
      · have := congrArg List.length e
        rw [raw_length] at this
        have h5 : ss.length = 0 := this
        omega
      · obtain ⟨t, ht, rfl⟩ := List.mem_map.1 hs
        have h1 := (W.short_size t (set_mem h t ht)).1
        rw [Lib.size_eq, e] at h1
        exact absurd h1 (by decide)
    · obtain rfl : ss = [] := List.eq_nil_of_length_eq_zero (by omega)
      rfl
theorem krSet_ltrs {ss : List ByteArray} (h : W.isSet ss = true) : W.krSet ss (ltrs ss : Nat) = true := by
  unfold W.krSet
  have h1 : W.krLet (ltrs ss : Nat) = true := by
    unfold W.krLet
    exact decide_eq_true (by rcases ltrs_two ss with h | h <;> rw [h] <;> decide)
  rw [h1, h, Bool.true_and, Bool.true_and, List.all_eq_true]
  intro s hs
  unfold W.krWd
  rw [List.all_eq_true]
  intro c hc
  have := ltrs_letter h hs c hc
  exact decide_eq_true (by omega)
theorem inB_nodup (ss : List ByteArray) : (raw (inB ss)).Nodup := (inc_ord (begsTo ss ss.length)).imp (fun h e => by subst e; rw [W.less_irrefl] at h; cases h)
/-- there are fewer inner words than words -/
theorem inB_few {ss : List ByteArray} (h : stOk ss = true) : 0 < (inB ss).length ∧ (inB ss).length < ss.length := by
  obtain ⟨hq, h0, hp, hf⟩ := stOk_parts h
  have hP := psetOf hq hp
  have hin : inner (raw ss) [] := by
    refine ⟨(W.nth ss 0).data.toList, List.mem_map.2 ⟨W.nth ss 0, by rw [W.nth_lt ss 0 h0]; exact List.getElem_mem h0, rfl⟩, List.nil_prefix, fun e => ?_⟩
    have h1 := (W.short_size _ (W.isSet_short ss hq 0 h0)).1
    rw [Lib.size_eq, ← e] at h1
    exact absurd h1 (by decide)
  have h1 := hP.few ((full_iff ss).1 hf) (inB_nodup ss) (fun s => by
    obtain ⟨x, rfl⟩ : ∃ x : ByteArray, s = x.data.toList := ⟨⟨s.toArray⟩, rfl⟩
    rw [mem_raw2, mem_inB]) 8 [] rfl (.inl hin)
  rw [muF_all, muF_all, raw_length, raw_length] at h1
  refine ⟨List.length_pos_iff.2 (fun e => ?_), ?_⟩
  · have := mem_inB.2 (show inner (raw ss) (⟨#[]⟩ : ByteArray).data.toList from hin)
    rw [e] at this
    cases this
  · rcases ltrs_two ss with e | e <;> rw [e] at h1 <;> omega
/-- the place of a word in a list, 0 if it is not there -/
def fdx (l : List ByteArray) (x : ByteArray) : Nat := (Lib.idxOfS l x).toNat
theorem fdx_hit {l : List ByteArray} {x : ByteArray} {k : Nat} (hk : k < l.length) (e : W.nth l k = x) (hn : ∀ j, j < k → W.nth l j ≠ x) : fdx l x = k := by
  unfold fdx Lib.idxOfS
  rw [Lib.idxFromS_hit x l k 0 hk e hn]
  omega
theorem fdx_none {l : List ByteArray} {x : ByteArray} (hn : ∀ j, j < l.length → W.nth l j ≠ x) : fdx l x = 0 := by
  unfold fdx Lib.idxOfS
  rw [Lib.idxFromS_miss x l 0 hn]
  rfl
theorem fdx_lt {l : List ByteArray} (x : ByteArray) (h : 0 < l.length) : fdx l x < l.length := by
  by_cases hx : ∃ k, k < l.length ∧ W.nth l k = x
  · have h2 : ∀ n, (∃ k, k < n ∧ k < l.length ∧ W.nth l k = x) → ∃ k, k < l.length ∧ W.nth l k = x ∧ ∀ j, j < k → W.nth l j ≠ x := by
      intro n
      induction n with
      | zero => rintro ⟨k, hk, _⟩; omega
      | succ n ih =>
        rintro ⟨k, hk, hl, e⟩
        by_cases h3 : ∃ k, k < n ∧ k < l.length ∧ W.nth l k = x
        · exact ih h3
        · have : k = n := by
            rcases Nat.lt_or_ge k n with h4 | h4
            · exact absurd ⟨k, h4, hl, e⟩ h3
            · omega
          subst this
          exact ⟨k, hl, e, fun j hj hje => h3 ⟨j, hj, by omega, hje⟩⟩
    obtain ⟨k, hk, e⟩ := hx
    obtain ⟨m, hm, e2, hn⟩ := h2 (k + 1) ⟨k, by omega, hk, e⟩
    rw [fdx_hit hm e2 hn]
    exact hm
  · rw [fdx_none (fun j hj e => hx ⟨j, hj, e⟩)]
    exact h
/-- where the letter k leads from the state i -/
def tr (ss : List ByteArray) (i k : Nat) : Nat := fdx (inB ss) (kid (W.nth (inB ss) i) k)
/-- what the first k letters lead to -/
def rowT (ss : List ByteArray) (i k : Nat) : List Int := (List.range k).map fun j => ((tr ss i j : Nat) : Int)
theorem rowT_succ (ss : List ByteArray) (i k : Nat) : rowT ss i (k + 1) = rowT ss i k ++ [((tr ss i k : Nat) : Int)] := by
  unfold rowT
  rw [List.range_succ, List.map_append]
  rfl
theorem rowT_len (ss : List ByteArray) (i k : Nat) : (rowT ss i k).length = k := by simp [rowT]
/-- the rows of the first i states -/
def tab (ss : List ByteArray) (i : Nat) : List (List Int) := (List.range i).map fun j => rowT ss j (ltrs ss)
theorem tab_succ (ss : List ByteArray) (i : Nat) : tab ss (i + 1) = tab ss i ++ [rowT ss i (ltrs ss)] := by
  unfold tab
  rw [List.range_succ, List.map_append]
  rfl
theorem tab_len (ss : List ByteArray) (i : Nat) : (tab ss i).length = i := by simp [tab]
theorem tab_at (ss : List ByteArray) (i n : Nat) (h : i < n) : (tab ss n)[i]? = some (rowT ss i (ltrs ss)) := by
  unfold tab
  rw [List.getElem?_map, List.getElem?_range h]
  rfl
theorem rowT_at (ss : List ByteArray) (i k n : Nat) (h : k < n) : (rowT ss i n)[k]? = some ((tr ss i k : Nat) : Int) := by
  unfold rowT
  rw [List.getElem?_map, List.getElem?_range h]
  rfl
theorem tr_lt {ss : List ByteArray} (h : 0 < (inB ss).length) (i k : Nat) : tr ss i k < (inB ss).length := fdx_lt _ h
/-- the state to which letters lead -/
def stAt (T : Nat → Nat → Nat) (q : Nat) (l : List UInt8) : Nat := l.foldl (fun q c => T q (c.toNat - 97)) q
theorem stAt_take (T : Nat → Nat → Nat) (q : Nat) (l : List UInt8) (i : Nat) (h : i < l.length) : stAt T q (l.take (i + 1)) = T (stAt T q (l.take i)) (l[i].toNat - 97) := by
  unfold stAt
  rw [List.take_succ_eq_append_getElem h, List.foldl_append]
  rfl
theorem stAt_lt {T : Nat → Nat → Nat} {n : Nat} (hT : ∀ i k, T i k < n) : ∀ (l : List UInt8) (q : Nat), q < n → stAt T q l < n
  | [], _, h => h
  | c :: l, q, _ => stAt_lt hT l _ (hT q (c.toNat - 97))
/-- a group: the bits of the states that f gives -/
def orG (l : List Nat) (f : Nat → Nat) : Nat := l.foldl (fun a j => a ||| 2 ^ f j) 0
theorem orG_snoc (l : List Nat) (j : Nat) (f : Nat → Nat) : orG (l ++ [j]) f = orG l f ||| 2 ^ f j := by
  unfold orG
  rw [List.foldl_append]
  rfl
theorem orG_bit (f : Nat → Nat) (x : Nat) : ∀ (l : List Nat) (a : Nat), (l.foldl (fun a j => a ||| 2 ^ f j) a).testBit x = (a.testBit x || l.any fun j => decide (f j = x))
  | [], a => by simp
  | j :: l, a => by
    show (l.foldl (fun a j => a ||| 2 ^ f j) (a ||| 2 ^ f j)).testBit x = _
    rw [orG_bit f x l, Nat.testBit_or, Nat.testBit_two_pow, List.any_cons, Bool.or_assoc]
theorem orG_mem (l : List Nat) (f : Nat → Nat) (x : Nat) : (orG l f).testBit x = true ↔ ∃ j ∈ l, f j = x := by
  unfold orG
  rw [orG_bit]
  simp
theorem orG_lt (f : Nat → Nat) (n : Nat) : ∀ (l : List Nat) (a : Nat), a < 2 ^ n → (∀ j ∈ l, f j < n) → l.foldl (fun a j => a ||| 2 ^ f j) a < 2 ^ n
  | [], _, ha, _ => ha
  | j :: l, a, ha, h => orG_lt f n l _ (Nat.or_lt_two_pow ha (Nat.pow_lt_pow_right (by omega) (h j List.mem_cons_self))) (fun i hi => h i (List.mem_cons_of_mem _ hi))
/-- the states of a group, of n -/
def mems (n g : Nat) : List Nat := (List.range n).filter fun j => g.testBit j
theorem mems_succ (n g : Nat) : mems (n + 1) g = mems n g ++ if g.testBit n then [n] else [] := by
  unfold mems
  rw [List.range_succ, List.filter_append]
  cases h : g.testBit n <;> simp [h]
theorem mems_len (n g : Nat) : (mems n g).length ≤ n := by
  have := List.length_filter_le (fun j => g.testBit j) (List.range n)
  rw [List.length_range] at this
  exact this
theorem mems_mem {n g j : Nat} : j ∈ mems n g ↔ j < n ∧ g.testBit j = true := by
  unfold mems
  rw [List.mem_filter, List.mem_range]
theorem mems_more {n g : Nat} (hg : g < 2 ^ n) : ∀ d, mems (n + d) g = mems n g
  | 0 => rfl
  | d + 1 => by
    rw [show n + (d + 1) = n + d + 1 by omega, mems_succ, mems_more hg d]
    have : g.testBit (n + d) = false := Nat.testBit_lt_two_pow (Nat.lt_of_lt_of_le hg (Nat.pow_le_pow_right (by omega) (by omega)))
    rw [this]
    simp
/-- where the letter k leads a group -/
def nxt (T : Nat → Nat → Nat) (n k g : Nat) : Nat := orG (mems n g) (fun j => T j k)
theorem nxt_lt {T : Nat → Nat → Nat} {n : Nat} (hT : ∀ i k, T i k < n) (k g : Nat) : nxt T n k g < 2 ^ n := orG_lt _ n _ 0 (Nat.two_pow_pos n) (fun j _ => hT j k)
/-- where letters lead a group -/
def grp (T : Nat → Nat → Nat) (n g : Nat) (l : List UInt8) : Nat := l.foldl (fun g c => nxt T n (c.toNat - 97) g) g
theorem grp_take (T : Nat → Nat → Nat) (n g : Nat) (l : List UInt8) (i : Nat) (h : i < l.length) : grp T n g (l.take (i + 1)) = nxt T n (l[i].toNat - 97) (grp T n g (l.take i)) := by
  unfold grp
  rw [List.take_succ_eq_append_getElem h, List.foldl_append]
  rfl
theorem grp_lt {T : Nat → Nat → Nat} {n : Nat} (hT : ∀ i k, T i k < n) : ∀ (l : List UInt8) (g : Nat), g < 2 ^ n → grp T n g l < 2 ^ n
  | [], _, h => h
  | c :: l, g, _ => grp_lt hT l _ (nxt_lt hT (c.toNat - 97) g)
theorem grp_mem {T : Nat → Nat → Nat} {n : Nat} (hT : ∀ i k, T i k < n) (x : Nat) : ∀ (l : List UInt8) (g : Nat), g < 2 ^ n → ((grp T n g l).testBit x = true ↔ ∃ j, g.testBit j = true ∧ stAt T j l = x)
  | [], g, _ => by
    show g.testBit x = true ↔ ∃ j, g.testBit j = true ∧ j = x
    exact ⟨fun h => ⟨x, h, rfl⟩, fun ⟨j, h, e⟩ => e ▸ h⟩
  | c :: l, g, hg => by
    show (grp T n (nxt T n (c.toNat - 97) g) l).testBit x = true ↔ ∃ j, g.testBit j = true ∧ stAt T (T j (c.toNat - 97)) l = x
    rw [grp_mem hT x l _ (nxt_lt hT _ g)]
    constructor
    · rintro ⟨j, hj, e⟩
      obtain ⟨i, hi, rfl⟩ := (orG_mem _ _ _).1 hj
      exact ⟨i, (mems_mem.1 hi).2, e⟩
    · rintro ⟨i, hi, e⟩
      refine ⟨_, (orG_mem _ _ _).2 ⟨i, mems_mem.2 ⟨?_, hi⟩, rfl⟩, e⟩
      rcases Nat.lt_or_ge i n with h | h
      · exact h
      · rw [Nat.testBit_lt_two_pow (Nat.lt_of_lt_of_le hg (Nat.pow_le_pow_right (by omega) h))] at hi
        cases hi
/-- all states to which a word leads -/
def beh (T : Nat → Nat → Nat) (n : Nat) (l : List UInt8) : Nat := orG (List.range n) (fun j => stAt T j l)
theorem grp_all {T : Nat → Nat → Nat} {n : Nat} (hT : ∀ i k, T i k < n) (l : List UInt8) : grp T n (2 ^ n - 1) l = beh T n l := by
  have h0 := Nat.two_pow_pos n
  refine Nat.eq_of_testBit_eq fun x => ?_
  rw [Bool.eq_iff_iff, grp_mem hT x l _ (by omega)]
  unfold beh
  rw [orG_mem]
  constructor
  · rintro ⟨j, hj, e⟩
    rw [Nat.testBit_two_pow_sub_one, decide_eq_true_eq] at hj
    exact ⟨j, List.mem_range.2 hj, e⟩
  · rintro ⟨j, hj, e⟩
    exact ⟨j, by rw [Nat.testBit_two_pow_sub_one, decide_eq_true_eq]; exact List.mem_range.1 hj, e⟩
theorem grp_one {T : Nat → Nat → Nat} {n : Nat} (hT : ∀ i k, T i k < n) (q : Nat) (hq : q < n) (l : List UInt8) : grp T n (2 ^ q) l = 2 ^ stAt T q l := by
  refine Nat.eq_of_testBit_eq fun x => ?_
  rw [Bool.eq_iff_iff, grp_mem hT x l _ (Nat.pow_lt_pow_right (by omega) hq), Nat.testBit_two_pow, decide_eq_true_eq]
  constructor
  · rintro ⟨j, hj, e⟩
    rw [Nat.testBit_two_pow, decide_eq_true_eq] at hj
    rw [hj]
    exact e
  · intro e
    exact ⟨q, by rw [Nat.testBit_two_pow]; simp, e⟩
set_option maxRecDepth 100000 in
theorem mems_pow : ∀ x, x < 12 → mems 12 (2 ^ x) = [x] := by decide +kernel
/-- whether a group is of one state -/
def oneB (g : Nat) : Bool := decide (0 < g) && decide (g &&& (g - 1) = 0)
set_option maxRecDepth 1000000 in
theorem one_mems : ∀ g, g < 4096 → decide ((mems 12 g).length = 1) = oneB g := by decide +kernel
theorem beh_lt {T : Nat → Nat → Nat} {n : Nat} (hT : ∀ i k, T i k < n) (l : List UInt8) : beh T n l < 2 ^ n := orG_lt _ n _ 0 (Nat.two_pow_pos n) (fun j hj => stAt_lt hT l j (List.mem_range.1 hj))
end Go.Proofs.YtlapmjligdjniaaGreatDoor
