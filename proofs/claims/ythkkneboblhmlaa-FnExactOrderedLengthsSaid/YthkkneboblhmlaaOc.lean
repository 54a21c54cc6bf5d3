/-
  WHAT THIS FILE PROVES: plain facts on words in order: no lengths of words that stand in order in a tree of two branches cost less than the least tree, level by level; no program in sight.
-/
import Derived.Test.YthkkneboblhmlaaOl
import Derived.Test.YthkkneboblhmlaaTc
namespace Go.Proofs.Ythkkneboblhmlaa.W

/-- where the words from i on end, the first one behind e -/
def en (l : Nat → Nat) : Nat → Nat → Nat → Nat
  | e, _, 0 => e
  | e, i, m + 1 => en l (upP e (2 ^ (11 - l i)) + 2 ^ (11 - l i)) (i + 1) m
/-- what they cost below the depth d -/
def cs (w : Nat → Int) (l : Nat → Nat) (d : Nat) : Nat → Nat → Int
  | _, 0 => 0
  | i, m + 1 => w i * ((l i : Int) - (d : Int)) + cs w l d (i + 1) m
/-- what they weigh -/
def sw (w : Nat → Int) : Nat → Nat → Int
  | _, 0 => 0
  | i, m + 1 => w i + sw w (i + 1) m
theorem en_count (l : Nat → Nat) : ∀ m e i, e + m ≤ en l e i m
  | 0, _, _ => Nat.le_refl _
  | m + 1, e, i => by
    have h1 := en_count l m (upP e (2 ^ (11 - l i)) + 2 ^ (11 - l i)) (i + 1)
    have h2 : 0 < 2 ^ (11 - l i) := Nat.two_pow_pos _
    have h3 := upP_ge e (2 ^ (11 - l i)) h2
    show e + (m + 1) ≤ en l (upP e (2 ^ (11 - l i)) + 2 ^ (11 - l i)) (i + 1) m
    omega
theorem en_add (l : Nat → Nat) : ∀ k n e i, en l e i (k + n) = en l (en l e i k) (i + k) n
  | 0, n, e, i => by rw [Nat.zero_add]; rfl
  | k + 1, n, e, i => by
    rw [show k + 1 + n = (k + n) + 1 by omega]
    show en l (upP e (2 ^ (11 - l i)) + 2 ^ (11 - l i)) (i + 1) (k + n) = en l (en l (upP e (2 ^ (11 - l i)) + 2 ^ (11 - l i)) (i + 1) k) (i + (k + 1)) n
    rw [en_add l k n, show i + 1 + k = i + (k + 1) by omega]
theorem cs_add (w : Nat → Int) (l : Nat → Nat) (d : Nat) : ∀ k n i, cs w l d i (k + n) = cs w l d i k + cs w l d (i + k) n
  | 0, n, i => by rw [Nat.zero_add]; show _ = 0 + cs w l d i n; omega
  | k + 1, n, i => by
    rw [show k + 1 + n = (k + n) + 1 by omega]
    show w i * ((l i : Int) - (d : Int)) + cs w l d (i + 1) (k + n) = w i * ((l i : Int) - (d : Int)) + cs w l d (i + 1) k + cs w l d (i + (k + 1)) n
    rw [cs_add w l d k n, show i + 1 + k = i + (k + 1) by omega, Int.add_assoc]
theorem cs_up (w : Nat → Int) (l : Nat → Nat) (d : Nat) : ∀ m i, cs w l d i m = sw w i m + cs w l (d + 1) i m
  | 0, _ => rfl
  | m + 1, i => by
    show w i * ((l i : Int) - (d : Int)) + cs w l d (i + 1) m = w i + sw w (i + 1) m + (w i * ((l i : Int) - ((d + 1 : Nat) : Int)) + cs w l (d + 1) (i + 1) m)
    rw [cs_up w l d m (i + 1), show ((d + 1 : Nat) : Int) = (d : Int) + 1 from rfl, show ((l i : Int) - (d : Int)) = ((l i : Int) - ((d : Int) + 1)) + 1 by omega, Int.mul_add, Int.mul_one]
    omega
theorem sw_nonneg {w : Nat → Int} (hw : ∀ j, 0 ≤ w j) : ∀ m i, 0 ≤ sw w i m
  | 0, _ => Int.le_refl _
  | m + 1, i => Int.add_nonneg (hw i) (sw_nonneg hw m (i + 1))
/-- words inside a block are no longer than it: what they cost below it is not negative -/
theorem cs_in {w : Nat → Int} (hw : ∀ j, 0 ≤ w j) {l : Nat → Nat} (s A : Nat) : ∀ m e i, A ≤ e → en l e i m ≤ A + 2 ^ s → 0 ≤ cs w l (11 - s) i m
  | 0, _, _, _, _ => Int.le_refl _
  | m + 1, e, i, ha, he => by
    have h2 : 0 < 2 ^ (11 - l i) := Nat.two_pow_pos _
    have h3 := upP_ge e (2 ^ (11 - l i)) h2
    have he' : en l (upP e (2 ^ (11 - l i)) + 2 ^ (11 - l i)) (i + 1) m ≤ A + 2 ^ s := he
    have h4 := en_count l m (upP e (2 ^ (11 - l i)) + 2 ^ (11 - l i)) (i + 1)
    have h5 : 2 ^ (11 - l i) ≤ 2 ^ s := by omega
    have h6 : 11 - l i ≤ s := (Nat.pow_le_pow_iff_right (by omega)).1 h5
    have h7 := cs_in hw s A m _ (i + 1) (by omega) he'
    refine Int.add_nonneg (Int.mul_nonneg (hw i) ?_) h7
    omega
theorem upP_mono {e f : Nat} (p : Nat) (h : e ≤ f) : upP e p ≤ upP f p := Nat.mul_le_mul_right _ (Nat.div_le_div_right (by omega))
/-- the word that comes over a place that its size parts begins there -/
theorem upP_over {e p y : Nat} (hp : 0 < p) (h1 : e ≤ y * p) (h2 : y * p < upP e p + p) : upP e p = y * p := by
  have h3 : upP e p ≤ y * p := by
    have := upP_mono p h1
    rw [upP_mul y p hp] at this
    exact this
  unfold upP at h2 h3 ⊢
  generalize (e + p - 1) / p = x at h2 h3 ⊢
  have h4 : y * p < (x + 1) * p := by rw [Nat.succ_mul]; exact h2
  have h5 : y < x + 1 := Nat.lt_of_mul_lt_mul_right h4
  have h6 : x ≤ y := Nat.le_of_mul_le_mul_right h3 hp
  rw [show x = y by omega]
theorem en_cross (l : Nat → Nat) (M : Nat) : ∀ m e i, e ≤ M → M < en l e i m → ∃ k, k < m ∧ en l e i k ≤ M ∧ M < en l e i (k + 1)
  | 0, e, i, h1, h2 => by
    have h2 : M < e := h2
    omega
  | m + 1, e, i, h1, h2 => by
    by_cases h : en l e i m ≤ M
    · exact ⟨m, by omega, h, h2⟩
    · obtain ⟨k, hk, h3⟩ := en_cross l M m e i h1 (by omega)
      exact ⟨k, by omega, h3⟩
/-- no lengths of words in order inside a block cost less below it than the least tree -/
theorem lb {w : Nat → Int} (hw : ∀ j, 0 ≤ w j) (l : Nat → Nat) {T : Nat → Nat → Int} (h0 : ∀ i m, m < 2 → T i m = 0) (h1 : ∀ i m k, 1 ≤ k → k < m → T i m ≤ sw w i m + (T i k + T (i + k) (m - k))) :
    ∀ s, s ≤ 11 → ∀ i m a e, a * 2 ^ s ≤ e → en l e i m ≤ a * 2 ^ s + 2 ^ s → T i m ≤ cs w l (11 - s) i m
  | 0, _, i, m, a, e, ha, he => by
    have h3 := cs_in hw 0 _ m e i ha he
    have h2 := en_count l m e i
    rw [Nat.pow_zero] at ha he
    rw [h0 i m (by omega)]
    exact h3
  | s + 1, hs, i, m, a, e, ha, he => by
    have hin := cs_in hw (s + 1) _ m e i ha he
    have hpow : 2 ^ (s + 1) = 2 * 2 ^ s := by rw [Nat.pow_succ, Nat.mul_comm]
    have hA : a * 2 ^ (s + 1) = (2 * a) * 2 ^ s := by rw [hpow, ← Nat.mul_assoc, Nat.mul_comm a 2]
    have hM : (2 * a + 1) * 2 ^ s = (2 * a) * 2 ^ s + 2 ^ s := Nat.succ_mul _ _
    have hd : 11 - s = (11 - (s + 1)) + 1 := by omega
    have hup := cs_up w l (11 - (s + 1)) m i
    rw [← hd] at hup
    have hsw := sw_nonneg hw m i
    have ih := lb hw l h0 h1 s (by omega)
    by_cases hl : en l e i m ≤ (2 * a + 1) * 2 ^ s
    · have := ih i m (2 * a) e (by omega) (by omega)
      omega
    by_cases hr : (2 * a + 1) * 2 ^ s ≤ e
    · have := ih i m (2 * a + 1) e hr (by omega)
      omega
    obtain ⟨k, hk, hk1, hk2⟩ := en_cross l ((2 * a + 1) * 2 ^ s) m e i (by omega) (by omega)
    have hke := en_count l k e i
    have hsplit : en l e i m = en l (en l e i k) (i + k) (m - k) := by
      rw [← en_add, show k + (m - k) = m by omega]
    have hone : en l e i (k + 1) = upP (en l e i k) (2 ^ (11 - l (i + k))) + 2 ^ (11 - l (i + k)) := by
      rw [en_add l k 1 e i]
      rfl
    have hlast : en l e i m = en l (en l e i (k + 1)) (i + (k + 1)) (m - (k + 1)) := by
      rw [← en_add, show k + 1 + (m - (k + 1)) = m by omega]
    have hcount := en_count l (m - (k + 1)) (en l e i (k + 1)) (i + (k + 1))
    have hp0 : 0 < 2 ^ (11 - l (i + k)) := Nat.two_pow_pos _
    have hge := upP_ge (en l e i k) _ hp0
    by_cases hp : 11 - l (i + k) ≤ s
    · obtain ⟨c, hc⟩ := Nat.pow_dvd_pow 2 hp
      have hMp : (2 * a + 1) * 2 ^ s = ((2 * a + 1) * c) * 2 ^ (11 - l (i + k)) := by
        rw [hc, Nat.mul_assoc, Nat.mul_comm c]
      have hpl : upP (en l e i k) (2 ^ (11 - l (i + k))) = (2 * a + 1) * 2 ^ s := by
        rw [hMp]
        exact upP_over hp0 (by rw [← hMp]; exact hk1) (by rw [← hMp, ← hone]; exact hk2)
      have hpl2 : upP ((2 * a + 1) * 2 ^ s) (2 ^ (11 - l (i + k))) = (2 * a + 1) * 2 ^ s := by
        rw [hMp]
        exact upP_mul _ _ hp0
      have hright : en l ((2 * a + 1) * 2 ^ s) (i + k) (m - k) = en l e i m := by
        rw [hsplit]
        obtain ⟨n, hn⟩ : ∃ n, m - k = n + 1 := ⟨m - k - 1, by omega⟩
        rw [hn]
        show en l (upP ((2 * a + 1) * 2 ^ s) (2 ^ (11 - l (i + k))) + 2 ^ (11 - l (i + k))) (i + k + 1) n = en l (upP (en l e i k) (2 ^ (11 - l (i + k))) + 2 ^ (11 - l (i + k))) (i + k + 1) n
        rw [hpl, hpl2]
      have r2 := ih (i + k) (m - k) (2 * a + 1) _ (Nat.le_refl _) (by rw [hright]; omega)
      by_cases hk0 : k = 0
      · subst hk0
        rw [Nat.add_zero, Nat.sub_zero] at r2
        omega
      · have r1 := ih i k (2 * a) e (by omega) (by omega)
        have r3 := h1 i m k (by omega) hk
        have r4 := cs_add w l (11 - s) k (m - k) i
        rw [show k + (m - k) = m by omega] at r4
        omega
    · have hbig : 2 ^ (s + 1) ≤ 2 ^ (11 - l (i + k)) := Nat.pow_le_pow_right (by omega) (by omega)
      rw [h0 i m (by omega)]
      exact hin
theorem cs_one {w : Nat → Int} (hw : ∀ j, 0 ≤ w j) {l : Nat → Nat} : ∀ m i, (∀ j, j < i + m → 1 ≤ l j) → 0 ≤ cs w l (0 + 1) i m
  | 0, _, _ => Int.le_refl _
  | m + 1, i, h => by
    refine Int.add_nonneg (Int.mul_nonneg (hw i) ?_) (cs_one hw m (i + 1) fun j hj => h j (by omega))
    have := h i (by omega)
    omega
/-- the words of a list of lengths -/
def lnF (ls : List Int) (j : Nat) : Nat := (ls.getD j 0).toNat
def wtF (z : List Int) (j : Nat) : Int := z.getD j 0
theorem en_fold (ls : List Int) : ∀ m e i, i + m ≤ ls.length → en (lnF ls) e i m = ((ls.drop i).take m).foldl (fun e l => upP e (partD 2 l) + partD 2 l) e
  | 0, _, _, _ => by rw [List.take_zero]; rfl
  | m + 1, e, i, h => by
    rw [List.drop_eq_getElem_cons (by omega), List.take_succ_cons, List.foldl_cons, ← en_fold ls m _ (i + 1) (by omega)]
    show en (lnF ls) (upP e (2 ^ (11 - lnF ls i)) + 2 ^ (11 - lnF ls i)) (i + 1) m = _
    unfold lnF partD
    rw [getD_lt ls i (by omega)]
theorem en_all (ls : List Int) : en (lnF ls) 0 0 ls.length = olE ls := by
  rw [en_fold ls ls.length 0 0 (by omega), List.drop_zero, List.take_length]
  rfl
theorem sw_st (z : List Int) : ∀ m i, sw (wtF z) i m = stS z i m
  | 0, i => by unfold stS; rw [List.take_zero]; rfl
  | m + 1, i => by
    show wtF z i + sw (wtF z) (i + 1) m = _
    rw [sw_st z m (i + 1)]
    unfold stS wtF
    by_cases h : i < z.length
    · rw [List.drop_eq_getElem_cons h, List.take_succ_cons, List.sum_cons, getD_lt z i h]
    · rw [List.drop_of_length_le (by omega), List.drop_of_length_le (by omega), List.getD_eq_getElem?_getD, List.getElem?_eq_none (by omega)]
      simp
theorem cs_cost {z ls : List Int} (hl : ls.length ≤ z.length) (h : ls.all (fun x => decide (1 ≤ x ∧ x ≤ 11)) = true) : ∀ m, m ≤ ls.length → cs (wtF z) (lnF ls) 0 0 m = costI z (ls.take m)
  | 0, _ => by rw [List.take_zero, costI_nil]; rfl
  | m + 1, hm => by
    have h1 := all_at h m (by omega)
    rw [cs_add _ _ 0 m 1 0, cs_cost hl h m (by omega), costI_take_succ z ls m (by omega) (by omega), Nat.zero_add]
    congr 1
    show wtF z m * ((lnF ls m : Int) - ((0 : Nat) : Int)) + 0 = _
    unfold wtF lnF
    rw [getD_lt ls m (by omega), getD_lt z m (by omega), Int.toNat_of_nonneg (by omega), Int.add_zero]
    congr 1
    omega
/-- ordered lengths cost no less than the least tree -/
theorem ol_least {z ls : List Int} (hz : beN 100 z = true) (hb : beN 11 ls = true) (hl : ls.length = z.length) (ho : isOl ls = true) : ocI z ≤ costI z ls := by
  have hb2 := hb
  unfold beN at hb
  have ha := (Bool.and_eq_true _ _ ▸ hb).2
  have hw : ∀ j, 0 ≤ wtF z j := fun j => by
    unfold wtF
    by_cases h : j < z.length
    · rw [getD_lt z j h]
      have := beN_mem hz (List.getElem_mem h)
      omega
    · rw [List.getD_eq_getElem?_getD, List.getElem?_eq_none (by omega)]
      exact Int.le_refl _
  have he : olE ls ≤ 2048 := of_decide_eq_true ho
  have key := lb hw (lnF ls) (T := tc z) (fun i m h => tc_small z i m h) (fun i m k h1 h2 => by
    rw [tc_step z i m (by omega), sw_st]
    have := mnB_le (f := tcP z i m) (m - 1) (k - 1) (by omega)
    unfold tcP at this
    rw [show k - 1 + 1 = k by omega, show i + (k - 1) + 1 = i + k by omega, show m - (k - 1) - 1 = m - k by omega] at this
    unfold tcP
    omega) 11 (Nat.le_refl _) 0 ls.length 0 0 (Nat.zero_le _) (by rw [en_all]; simpa using he)
  rw [show 11 - 11 = 0 from rfl, cs_cost (by omega) ha ls.length (Nat.le_refl _), List.take_length] at key
  have hsum : z.sum ≤ costI z ls := by
    have h1 := cs_cost (z := z) (by omega) ha ls.length (Nat.le_refl _)
    rw [List.take_length] at h1
    have h2 := cs_up (wtF z) (lnF ls) 0 ls.length 0
    have h3 := cs_one hw (l := lnF ls) ls.length 0 (fun j hj => by
      have := all_at ha j (by omega)
      unfold lnF
      rw [getD_lt ls j (by omega)]
      omega)
    rw [sw_st, hl, stS_all] at h2
    rw [hl] at h1 h3
    omega
  unfold ocI tcA
  rw [hl] at key
  omega
end Go.Proofs.Ythkkneboblhmlaa.W
