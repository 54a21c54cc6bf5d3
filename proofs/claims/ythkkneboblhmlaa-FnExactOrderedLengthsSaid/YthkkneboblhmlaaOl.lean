/-
  WHAT THIS FILE PROVES: plain facts on ordered lengths: where words in order begin, each as early as it can, and the numbers of these words; no program in sight.
-/
import Derived.Test.YthkkneboblhmlaaBe
import Derived.Test.YthkkneboblhmlaaKrT
namespace Go.Proofs.Ythkkneboblhmlaa.W

/-- rounded up to a multiple -/
def upP (e p : Nat) : Nat := (e + p - 1) / p * p
theorem upP_ge (e p : Nat) (hp : 0 < p) : e ≤ upP e p := by
  have := Nat.lt_div_mul_add (a := e + p - 1) hp
  unfold upP
  omega
theorem upP_le (e p : Nat) : upP e p ≤ e + p - 1 := Nat.div_mul_le_self _ _
theorem upP_div (e p : Nat) (hp : 0 < p) : upP e p / p = (e + p - 1) / p := Nat.mul_div_cancel _ hp
theorem upP_mul (x p : Nat) (hp : 0 < p) : upP (x * p) p = x * p := by
  unfold upP
  have h1 : (x * p + p - 1) / p = x := by
    apply Nat.div_eq_of_lt_le
    · omega
    · rw [Nat.succ_mul]; omega
  rw [h1]
theorem upP_scale (n s p : Nat) (hs : 0 < s) (hp : 0 < p) : upP (n * p) (s * p) = (n + s - 1) / s * (s * p) := by
  unfold upP
  congr 1
  have e : n * p + s * p - 1 = p * (n + s - 1) + (p - 1) := by
    have h1 : (n + s) * p = n * p + s * p := Nat.add_mul _ _ _
    have h2 : n + s = (n + s - 1) + 1 := by omega
    have h3 : p * (n + s - 1) + p = (n + s) * p := by
      conv => rhs; rw [h2, Nat.mul_comm]
      rw [Nat.mul_add, Nat.mul_one]
    omega
  rw [e, Nat.mul_comm s p, ← Nat.div_div_eq_div_mul, Nat.mul_add_div hp, Nat.div_eq_of_lt (by omega : p - 1 < p), Nat.add_zero]

/-- where the words behind some may begin at the earliest -/
def olE (ls : List Int) : Nat := ls.foldl (fun e l => upP e (partD 2 l) + partD 2 l) 0
/-- where the word with the index k begins -/
def olP (ls : List Int) (k : Nat) : Nat := upP (olE (ls.take k)) (partD 2 (ls.getD k 0))
theorem olE_nil : olE [] = 0 := rfl
theorem olE_snoc (ls : List Int) (l : Int) : olE (ls ++ [l]) = upP (olE ls) (partD 2 l) + partD 2 l := by
  unfold olE
  rw [List.foldl_append]
  rfl
theorem getD_lt (z : List Int) (i : Nat) (h : i < z.length) : z.getD i 0 = z[i] := by rw [List.getD_eq_getElem?_getD, List.getElem?_eq_getElem h]; rfl
theorem olE_succ (ls : List Int) (k : Nat) (h : k < ls.length) : olE (ls.take (k + 1)) = olP ls k + partD 2 ls[k] := by
  rw [List.take_succ_eq_append_getElem h, olE_snoc]
  unfold olP
  rw [getD_lt ls k h]
theorem olP_at (ls : List Int) (k : Nat) (h : k < ls.length) : olP ls k = (olE (ls.take k) + partD 2 ls[k] - 1) / partD 2 ls[k] * partD 2 ls[k] := by
  unfold olP upP
  rw [getD_lt ls k h]
theorem partD2_le (l : Int) (h : 1 ≤ l) : partD 2 l ≤ 1024 := by
  unfold partD
  exact Nat.le_trans (Nat.pow_le_pow_right (by omega) (show 11 - l.toNat ≤ 10 by omega)) (by decide)
theorem olE_le {ls : List Int} (h : ls.all (fun x => decide (1 ≤ x ∧ x ≤ 11)) = true) : ∀ k, k ≤ ls.length → olE (ls.take k) ≤ k * 2048
  | 0, _ => by rw [List.take_zero]; exact Nat.zero_le _
  | k + 1, hk => by
    have ih := olE_le h k (by omega)
    have hl := all_at h k (by omega)
    have h1 := upP_le (olE (ls.take k)) (partD 2 ls[k])
    have h2 := partD2_le ls[k] hl.1
    rw [List.take_succ_eq_append_getElem (by omega), olE_snoc]
    omega
theorem olE_up (ls : List Int) (k : Nat) (h : k < ls.length) : olE (ls.take k) ≤ olE (ls.take (k + 1)) := by
  rw [List.take_succ_eq_append_getElem h, olE_snoc]
  have := upP_ge (olE (ls.take k)) (partD 2 ls[k]) (partD_pos 2 (by omega) _)
  omega
theorem olE_mono (ls : List Int) (k : Nat) : ∀ d, k + d ≤ ls.length → olE (ls.take k) ≤ olE (ls.take (k + d))
  | 0, _ => Nat.le_refl _
  | d + 1, h => Nat.le_trans (olE_mono ls k d (by omega)) (olE_up ls (k + d) (by omega))
/-- what a step of the program meets -/
theorem olP_step {ls : List Int} (h : ls.all (fun x => decide (1 ≤ x ∧ x ≤ 11)) = true) (h12 : ls.length ≤ 12) (k : Nat) (hk : k < ls.length) (E p P : Nat) (hE : E = olE (ls.take k)) (hp : partD 2 ls[k] = p) (hP : olP ls k = P) :
    ∃ q, (E + p - 1) / p = q ∧ q * p = P ∧ q ≤ 100000 ∧ P ≤ 100000 ∧ 1 ≤ p ∧ p ≤ 1024 ∧ E ≤ 100000 := by
  have h1 := olE_le h k (by omega)
  have h2 := partD_pos 2 (by omega) ls[k]
  have h3 := partD2_le ls[k] (all_at h k hk).1
  have h4 := olP_at ls k hk
  have h5 : (E + p - 1) / p * p ≤ E + p - 1 := Nat.div_mul_le_self _ _
  have h6 : (E + p - 1) / p ≤ E + p - 1 := Nat.div_le_self _ _
  rw [hP, hp, ← hE] at h4
  rw [hp] at h2 h3
  rw [← hE] at h1
  refine ⟨_, rfl, h4.symm, ?_, ?_, h2, h3, ?_⟩
  · clear h4 h5; omega
  · rw [h4]; clear h4 h6; omega
  · clear h4 h5 h6; omega
/-- lengths are ordered -/
def isOl (ls : List Int) : Bool := decide (olE ls ≤ 2048)
theorem isOl_no (ls : List Int) (k : Nat) (h : k ≤ ls.length) (hk : 2048 < olE (ls.take k)) : isOl ls = false := by
  have := olE_mono ls k (ls.length - k) (by omega)
  rw [show k + (ls.length - k) = ls.length by omega, List.take_length] at this
  exact decide_eq_false (by omega)
/-- where the first k words begin -/
def olPl (ls : List Int) (k : Nat) : List Int := (List.range k).map fun i => ((olP ls i : Nat) : Int)
theorem olPl_succ (ls : List Int) (k : Nat) : olPl ls (k + 1) = olPl ls k ++ [((olP ls k : Nat) : Int)] := by
  unfold olPl
  rw [List.range_succ, List.map_append]
  rfl
theorem olPl_length (ls : List Int) (k : Nat) : (olPl ls k).length = k := by simp [olPl]
theorem olPl_at (ls : List Int) (n k : Nat) (h : k < n) : (olPl ls n)[k]'(by rw [olPl_length]; exact h) = ((olP ls k : Nat) : Int) := by simp [olPl]
/-- the word with the index k -/
def olW (ls : List Int) (k : Nat) : ByteArray := txtB 2 (olP ls k / partD 2 (ls.getD k 0)) (ls.getD k 0).toNat
def olT (ls : List Int) (k : Nat) : List ByteArray := (List.range k).map (olW ls)
theorem olT_succ (ls : List Int) (k : Nat) : olT ls (k + 1) = olT ls k ++ [olW ls k] := by
  unfold olT
  rw [List.range_succ, List.map_append]
  rfl
theorem olT_length (ls : List Int) (k : Nat) : (olT ls k).length = k := by simp [olT]
/-- what CanBeOrdered and OrderedWords tell -/
def olB (ls : List Int) : Bool := beN 11 ls && isOl ls
def olO (ls : List Int) : List ByteArray := if olB ls then olT ls ls.length else []
theorem olO_no {ls : List Int} (h : olB ls = false) : olO ls = [] := by unfold olO; rw [h]; rfl
theorem olO_yes {ls : List Int} (h : olB ls = true) : olO ls = olT ls ls.length := by unfold olO; rw [h]; rfl
theorem olO_len (ls : List Int) : (olO ls).length ≤ 12 := by
  cases h : olB ls
  · rw [olO_no h]; exact Nat.zero_le _
  · rw [olO_yes h, olT_length]
    unfold olB at h
    rw [Bool.and_eq_true] at h
    exact (beN_parts h.1).1.2

/-- the number of a word of another length that begins where one may end -/
def olN (n : Nat) (b l : Int) : Nat := if b ≤ l then n * 2 ^ (l - b).toNat else (n + 2 ^ (b - l).toNat - 1) / 2 ^ (b - l).toNat
theorem olN_part (n : Nat) (b l : Int) (hb0 : 0 ≤ b) (hb : b ≤ 11) (hl0 : 0 ≤ l) (hl : l ≤ 11) : olN n b l * partD 2 l = upP (n * partD 2 b) (partD 2 l) := by
  unfold olN
  split
  · rename_i h
    have e : partD 2 b = 2 ^ (l - b).toNat * partD 2 l := by
      unfold partD
      rw [← Nat.pow_add]
      congr 1
      omega
    rw [e, ← Nat.mul_assoc, upP_mul _ _ (partD_pos 2 (by omega) l)]
  · rename_i h
    have e : partD 2 l = 2 ^ (b - l).toNat * partD 2 b := by
      unfold partD
      rw [← Nat.pow_add]
      congr 1
      omega
    rw [e, upP_scale _ _ _ (Nat.pow_pos (by omega)) (partD_pos 2 (by omega) b)]
theorem whole2 (l : Int) (h0 : 0 ≤ l) (h : l ≤ 11) : 2 ^ l.toNat * partD 2 l = 2048 := by
  unfold partD
  rw [← Nat.pow_add, show l.toNat + (11 - l.toNat) = 11 by omega]
/-- a number is that of a word just if the word ends in time -/
theorem olN_fits (N : Nat) (l : Int) (h0 : 0 ≤ l) (h : l ≤ 11) : N < 2 ^ l.toNat ↔ N * partD 2 l + partD 2 l ≤ 2048 := by
  have e := whole2 l h0 h
  have hp := partD_pos 2 (by omega) l
  rw [← e]
  generalize partD 2 l = p at hp
  generalize 2 ^ l.toNat = q
  constructor
  · intro hN
    have := Nat.mul_le_mul_right p (show N + 1 ≤ q by omega)
    rwa [Nat.add_mul, Nat.one_mul] at this
  · intro hN
    apply Classical.byContradiction
    intro hc
    have := Nat.mul_le_mul_right p (show q ≤ N by omega)
    omega
/-- what a step of the specification meets -/
theorem olN_step {ls : List Int} (h : ls.all (fun x => decide (1 ≤ x ∧ x ≤ 11)) = true) (k : Nat) (hk : k < ls.length) (n : Nat) (b : Int) (hb0 : 0 ≤ b) (hb : b ≤ 11) (he : n * partD 2 b = olE (ls.take k)) (hE : olE (ls.take k) ≤ 2048) :
    olW ls k = txtB 2 (olN n b ls[k]) (ls[k]).toNat ∧ olN n b ls[k] ≤ 4096 ∧ (olN n b ls[k] < 2 ^ (ls[k]).toNat → (olN n b ls[k] + 1) * partD 2 ls[k] = olE (ls.take (k + 1)) ∧ olE (ls.take (k + 1)) ≤ 2048) ∧ (¬ olN n b ls[k] < 2 ^ (ls[k]).toNat → isOl ls = false) := by
  have hl := all_at h k hk
  have h1 : olN n b ls[k] * partD 2 ls[k] = olP ls k := by
    rw [olN_part n b ls[k] hb0 hb (by omega) hl.2, he]
    unfold olP
    rw [getD_lt ls k hk]
  have hp := partD_pos 2 (by omega) ls[k]
  have hp2 := partD2_le ls[k] hl.1
  have hf := olN_fits (olN n b ls[k]) ls[k] (by omega) hl.2
  have hs := olE_succ ls k hk
  have hu : olP ls k ≤ olE (ls.take k) + partD 2 ls[k] - 1 := by rw [olP_at ls k hk]; exact Nat.div_mul_le_self _ _
  refine ⟨?_, ?_, fun hN => ?_, fun hN => ?_⟩
  · unfold olW
    rw [getD_lt ls k hk, ← h1, Nat.mul_div_cancel _ hp]
  · have := Nat.le_mul_of_pos_right (olN n b ls[k]) hp
    omega
  · rw [Nat.add_mul, Nat.one_mul, h1]
    have := hf.1 hN
    rw [h1] at this
    exact ⟨hs.symm, by omega⟩
  · refine isOl_no ls (k + 1) hk ?_
    rw [hs]
    have : ¬ (olN n b ls[k] * partD 2 ls[k] + partD 2 ls[k] ≤ 2048) := fun hc => hN (hf.2 hc)
    rw [h1] at this
    omega
/-- the words, if lengths are ordered -/
def olX (ls : List Int) : List ByteArray := if isOl ls then olT ls ls.length else []
theorem olX_no {ls : List Int} (h : isOl ls = false) : olX ls = [] := by unfold olX; rw [h]; rfl
theorem olX_yes {ls : List Int} (h : isOl ls = true) : olX ls = olT ls ls.length := by unfold olX; rw [h]; rfl
theorem olX_all (ls : List Int) (h : olE (ls.take ls.length) ≤ 2048) : olX ls = olT ls ls.length := olX_yes (by rw [List.take_length] at h; exact decide_eq_true h)
theorem olX_len (ls : List Int) (h : 1 ≤ ls.length) : decide ((olX ls).length = ls.length) = isOl ls := by
  cases hq : isOl ls
  · rw [olX_no hq]
    exact decide_eq_false (by simp; omega)
  · rw [olX_yes hq, olT_length]
    exact decide_eq_true rfl
end Go.Proofs.Ythkkneboblhmlaa.W
