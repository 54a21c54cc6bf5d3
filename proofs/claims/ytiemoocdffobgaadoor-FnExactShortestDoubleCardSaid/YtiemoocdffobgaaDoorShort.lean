/-
  WHAT THIS FILE PROVES: plain facts on the search for the first word with two readings over a list of pairs: what is open, what has been followed, the best word found; no program in sight.
-/
import Derived.Test.YtiemoocdffobgaaDoorDbl
namespace Go.Proofs.YtiemoocdffobgaaDoor
open W (le)

/-- what is open, as a list of words with their ends -/
def opl (os : List (ByteArray × ByteArray)) (x : ByteArray) (w : List UInt8) : Prop := ∃ p, p ∈ os ∧ p.2 = x ∧ p.1.data.toList = w
/-- the best word, if there is one -/
def bst (b : ByteArray) : Option (List UInt8) := if b.size = 0 then none else some b.data.toList
theorem bst_none {b : ByteArray} (h : b.size = 0) : bst b = none := by unfold bst; rw [if_pos h]
theorem bst_some {b : ByteArray} (h : 1 ≤ b.size) : bst b = some b.data.toList := by unfold bst; rw [if_neg (by omega)]
/-- the pairs that two words of the set give -/
def pair0 (s t : ByteArray) : List (ByteArray × ByteArray) := (restOf s t).map fun x => (t, x)
def pairs0 (s : ByteArray) (ts : List ByteArray) : List (ByteArray × ByteArray) := ts.flatMap (pair0 s)
def open0 (ss ts : List ByteArray) : List (ByteArray × ByteArray) := ss.flatMap fun s => pairs0 s ts
/-- the pairs that follow one -/
def suc (w u t : ByteArray) : List (ByteArray × ByteArray) := ((restOf t u).map fun x => (w, x)) ++ (restOf u t).map fun x => (w ++ x, x)
def sucs (w u : ByteArray) (ts : List ByteArray) : List (ByteArray × ByteArray) := ts.flatMap (suc w u)
/-- the best word behind that -/
def better (b w : ByteArray) : ByteArray := if b.size = 0 ∨ W.less w.data.toList b.data.toList = true then w else b
def betters (b w u : ByteArray) (ts : List ByteArray) : ByteArray := if hasB ts u then better b w else b

theorem mem_open0 {ss ts : List ByteArray} {p : ByteArray × ByteArray} : p ∈ open0 ss ts ↔ ∃ s, s ∈ ss ∧ p.1 ∈ ts ∧ p.2 ∈ restOf s p.1 := by
  unfold open0 pairs0 pair0
  simp only [List.mem_flatMap, List.mem_map]
  constructor
  · rintro ⟨s, hs, t, ht, x, hx, rfl⟩
    exact ⟨s, hs, ht, hx⟩
  · rintro ⟨s, hs, ht, hx⟩
    exact ⟨s, hs, p.1, ht, p.2, hx, rfl⟩
theorem mem_sucs {w u : ByteArray} {ts : List ByteArray} {p : ByteArray × ByteArray} : p ∈ sucs w u ts ↔ ∃ t, t ∈ ts ∧ ((p.2 ∈ restOf t u ∧ p.1 = w) ∨ (p.2 ∈ restOf u t ∧ p.1 = w ++ p.2)) := by
  unfold sucs suc
  simp only [List.mem_flatMap, List.mem_append, List.mem_map]
  constructor
  · rintro ⟨t, ht, ⟨x, hx, rfl⟩ | ⟨x, hx, rfl⟩⟩
    · exact ⟨t, ht, .inl ⟨hx, rfl⟩⟩
    · exact ⟨t, ht, .inr ⟨hx, rfl⟩⟩
  · rintro ⟨t, ht, ⟨hx, e⟩ | ⟨hx, e⟩⟩
    · exact ⟨t, ht, .inl ⟨p.2, hx, by rw [← e]⟩⟩
    · exact ⟨t, ht, .inr ⟨p.2, hx, by rw [← e]⟩⟩
theorem suc_len (w u t : ByteArray) : (suc w u t).length ≤ 1 := by
  unfold suc restOf
  rw [List.length_append, List.length_map, List.length_map]
  split
  · rename_i h1
    simp only [Bool.and_eq_true, decide_eq_true_eq] at h1
    rw [if_neg (by simp only [Bool.and_eq_true, decide_eq_true_eq]; omega)]
    simp
  · split <;> simp
theorem sucs_len (w u : ByteArray) (ts : List ByteArray) : (sucs w u ts).length ≤ ts.length := by
  induction ts with
  | nil => simp [sucs]
  | cons a r ih =>
    have := suc_len w u a
    unfold sucs at ih ⊢
    rw [List.flatMap_cons, List.length_append, List.length_cons]
    omega
theorem sucs_succ (w u : ByteArray) (ts : List ByteArray) (k : Nat) (h : k < ts.length) : sucs w u (ts.take (k + 1)) = sucs w u (ts.take k) ++ suc w u (W.nth ts k) := by
  unfold sucs
  rw [List.take_succ_eq_append_getElem h, List.flatMap_append, W.nth_lt ts k h]
  simp
theorem pairs0_succ (s : ByteArray) (ts : List ByteArray) (k : Nat) (h : k < ts.length) : pairs0 s (ts.take (k + 1)) = pairs0 s (ts.take k) ++ pair0 s (W.nth ts k) := by
  unfold pairs0
  rw [List.take_succ_eq_append_getElem h, List.flatMap_append, W.nth_lt ts k h]
  simp
theorem open0_succ (ss ts : List ByteArray) (k : Nat) (h : k < ss.length) : open0 (ss.take (k + 1)) ts = open0 (ss.take k) ts ++ pairs0 (W.nth ss k) ts := by
  unfold open0
  rw [List.take_succ_eq_append_getElem h, List.flatMap_append, W.nth_lt ss k h]
  simp
theorem pair0_len (s t : ByteArray) : (pair0 s t).length ≤ 1 := by unfold pair0; rw [List.length_map]; exact restOf_len s t
theorem pairs0_len (s : ByteArray) (ts : List ByteArray) : (pairs0 s ts).length ≤ ts.length := by
  induction ts with
  | nil => simp [pairs0]
  | cons a r ih =>
    have := pair0_len s a
    unfold pairs0 at ih ⊢
    rw [List.flatMap_cons, List.length_append, List.length_cons]
    omega
theorem open0_len (ss ts : List ByteArray) : (open0 ss ts).length ≤ ss.length * ts.length := by
  induction ss with
  | nil => simp [open0]
  | cons a r ih =>
    have := pairs0_len a ts
    unfold open0 at ih ⊢
    rw [List.flatMap_cons, List.length_append, List.length_cons, Nat.succ_mul]
    omega
theorem hasB_succ (ts : List ByteArray) (u : ByteArray) (k : Nat) (h : k < ts.length) : hasB (ts.take (k + 1)) u = (hasB (ts.take k) u || decide (W.nth ts k = u)) := by
  unfold hasB
  rw [List.take_succ_eq_append_getElem h, List.any_append, W.nth_lt ts k h]
  simp
theorem better_idem (b w : ByteArray) : better (better b w) w = better b w := by
  unfold better
  by_cases h : b.size = 0 ∨ W.less w.data.toList b.data.toList = true
  · rw [if_pos h]
    split <;> rfl
  · rw [if_neg h, if_neg h]
theorem betters_no {b w u : ByteArray} {ts : List ByteArray} {k : Nat} (h : k < ts.length) (hu : W.nth ts k ≠ u) : betters b w u (ts.take (k + 1)) = betters b w u (ts.take k) := by
  unfold betters
  rw [hasB_succ ts u k h, decide_eq_false hu, Bool.or_false]
theorem betters_yes {b w u : ByteArray} {ts : List ByteArray} {k : Nat} (h : k < ts.length) (hu : W.nth ts k = u) : betters b w u (ts.take (k + 1)) = better (betters b w u (ts.take k)) w := by
  unfold betters
  rw [hasB_succ ts u k h, decide_eq_true hu, Bool.or_true, if_pos rfl]
  split
  · exact (better_idem b w).symm
  · rfl
theorem better_le_w {b w : ByteArray} (hw : 1 ≤ w.size) : ∃ v, bst (better b w) = some v ∧ le v w.data.toList := by
  unfold better
  split
  · exact ⟨_, bst_some hw, W.le_refl _⟩
  · rename_i h
    rw [not_or] at h
    refine ⟨_, bst_some (by omega), ?_⟩
    cases h2 : W.less w.data.toList b.data.toList
    · exact h2
    · exact absurd h2 h.2
theorem better_le_b {b w : ByteArray} (hw : 1 ≤ w.size) {v : List UInt8} (hv : bst b = some v) : ∃ v', bst (better b w) = some v' ∧ le v' v := by
  unfold better
  split
  · rename_i h
    refine ⟨_, bst_some hw, ?_⟩
    unfold bst at hv
    split at hv
    · cases hv
    · injection hv with hv
      subst hv
      rcases h with h | h
      · omega
      · exact W.le_of_less h
  · exact ⟨v, hv, W.le_refl _⟩
theorem better_or (b w : ByteArray) : better b w = w ∨ better b w = b := by
  unfold better
  split
  · exact .inl rfl
  · exact .inr rfl

/-- the state of the search -/
structure LSt (ss : List ByteArray) (os : List (ByteArray × ByteArray)) (ds : List ByteArray) (f : ByteArray → Option (List UInt8)) (b : ByteArray) : Prop where
  nodup : ds.Nodup
  mem : ∀ x, x ∈ ds ↔ f x ≠ none
  inv : DInv ss f (opl os) (bst b)
  size : ∀ p, p ∈ os → p.1.size ≤ 8 + 7 * ds.length
  bsize : b.size ≤ 8 + 7 * ds.length
  len : os.length + ds.length ≤ 144 + 12 * ds.length
theorem LSt.few {ss : List ByteArray} {os : List (ByteArray × ByteArray)} {ds : List ByteArray} {f : ByteArray → Option (List UInt8)} {b : ByteArray} (h : LSt ss os ds f b) (hset : W.isSet ss = true) : ds.length ≤ 84 :=
  Nat.le_trans (G.nodup_le _ _ h.nodup (fun x hx => by
    obtain ⟨w, hw⟩ := Option.ne_none_iff_exists'.1 ((h.mem x).1 hx)
    exact db_mem hset (h.inv.fR _ _ hw))) (dS_length hset)
theorem LSt.first {ss : List ByteArray} (hset : W.isSet ss = true) : LSt ss (open0 ss ss) [] (fun _ => none) ⟨#[]⟩ := by
  have h12 := W.isSet_len ss hset
  have hb : bst ⟨#[]⟩ = none := bst_none rfl
  refine ⟨List.nodup_nil, fun x => by simp, ?_, fun p hp => ?_, by decide, ?_⟩
  · rw [hb]
    refine ⟨fun s t x hs ht hx => ?_, fun _ _ _ _ h => by (cases h), fun _ _ _ _ h => by (cases h), fun _ _ h => by (cases h), fun u w ⟨p, hp, e1, e2⟩ => ?_, fun _ h => by (cases h), fun _ _ h => by (cases h), fun _ _ _ _ h => by (cases h)⟩
    · exact .inr (.inl ⟨_, ⟨(t, x), mem_open0.2 ⟨s, hs, ht, hx⟩, rfl, rfl⟩, W.le_refl _⟩)
    · obtain ⟨s, hs, ht, hx⟩ := mem_open0.1 hp
      subst e1
      subst e2
      exact .start hs ht hx
  · obtain ⟨s, hs, ht, hx⟩ := mem_open0.1 hp
    have := set_size hset ht
    omega
  · have h1 := open0_len ss ss
    have h2 : ss.length * ss.length ≤ 12 * 12 := Nat.mul_le_mul h12 h12
    simp
    omega
/-- the others, if one is taken out -/
def rid (os : List (ByteArray × ByteArray)) (k : Nat) : List (ByteArray × ByteArray) := os.take k ++ os.drop (k + 1)
theorem rid_len {os : List (ByteArray × ByteArray)} {k : Nat} (h : k < os.length) : (rid os k).length + 1 = os.length := by
  unfold rid
  rw [List.length_append, List.length_take, List.length_drop]
  omega
theorem mem_rid {os : List (ByteArray × ByteArray)} {k : Nat} {p : ByteArray × ByteArray} (h : p ∈ rid os k) : p ∈ os := by
  unfold rid at h
  rcases List.mem_append.1 h with h | h
  · exact List.mem_of_mem_take h
  · exact List.mem_of_mem_drop h
theorem rid_or {os : List (ByteArray × ByteArray)} {k : Nat} (hk : k < os.length) {p : ByteArray × ByteArray} (h : p ∈ os) : p ∈ rid os k ∨ p = os[k] := by
  have e : os = os.take k ++ os[k] :: os.drop (k + 1) := by simp
  rw [e] at h
  rcases List.mem_append.1 h with h | h
  · exact .inl (List.mem_append_left _ h)
  · rcases List.mem_cons.1 h with h | h
    · exact .inr h
    · exact .inl (List.mem_append_right _ h)
section
variable {ss ds : List ByteArray} {os : List (ByteArray × ByteArray)} {f : ByteArray → Option (List UInt8)} {b : ByteArray}
theorem LSt.drop (h : LSt ss os ds f b) {k : Nat} (hk : k < os.length) (hf : os[k].2 ∈ ds ∨ (1 ≤ b.size ∧ W.less os[k].1.data.toList b.data.toList = false)) : LSt ss (rid os k) ds f b := by
  refine ⟨h.nodup, h.mem, ?_, fun p hp => h.size p (mem_rid hp), h.bsize, ?_⟩
  · refine h.inv.drop (u := os[k].2) (w := os[k].1.data.toList) ⟨os[k], List.getElem_mem hk, rfl, rfl⟩ ?_ (fun x v ⟨p, hp, e1, e2⟩ => ?_) (fun x v ⟨p, hp, e1, e2⟩ => ⟨p, mem_rid hp, e1, e2⟩)
    · rcases hf with hf | ⟨h1, h2⟩
      · exact .inl ((h.mem _).1 hf)
      · exact .inr ⟨_, bst_some h1, h2⟩
    · rcases rid_or hk hp with h1 | rfl
      · exact .inl ⟨p, h1, e1, e2⟩
      · exact .inr ⟨e1.symm, e2.symm⟩
  · have h1 := rid_len hk
    have h2 := h.len
    omega
theorem LSt.next (h : LSt ss os ds f b) (hset : W.isSet ss = true) {k : Nat} (hk : k < os.length) (hmin : ∀ p, p ∈ os → le os[k].1.data.toList p.1.data.toList) (hf : os[k].2 ∉ ds) :
    LSt ss (rid os k ++ sucs os[k].1 os[k].2 ss) (ds ++ [os[k].2]) (upd f os[k].2 os[k].1.data.toList) (betters b os[k].1 os[k].2 ss) := by
  have hmem : os[k] ∈ os := List.getElem_mem hk
  have h12 := W.isSet_len ss hset
  have hrl := rid_len hk
  have hsl := sucs_len os[k].1 os[k].2 ss
  have hlen := h.len
  have hsz := h.size os[k] hmem
  generalize hpk : os[k] = p0 at *
  obtain ⟨w, u⟩ := p0
  simp only at *
  have ho : opl os u w.data.toList := ⟨(w, u), hmem, rfl, rfl⟩
  have hfn : f u = none := by
    cases hq : f u with
    | none => rfl
    | some z => exact absurd ((h.mem u).2 (by rw [hq]; simp)) hf
  have hdb := h.inv.oR _ _ ho
  have hw1 : 1 ≤ w.size := by
    have := db_pos hset hdb
    rwa [← Lib.size_eq] at this
  have hbs : betters b w u ss = better b w ∧ u ∈ ss ∨ betters b w u ss = b ∧ u ∉ ss := by
    unfold betters
    cases hq : hasB ss u
    · exact .inr ⟨by rw [if_neg (by simp)], fun hm => by rw [hasB_mem.2 hm] at hq; cases hq⟩
    · exact .inl ⟨by rw [if_pos rfl], hasB_mem.1 hq⟩
  refine ⟨?_, fun x => ?_, ?_, fun p hp => ?_, ?_, ?_⟩
  · rw [List.nodup_append]
    exact ⟨h.nodup, by simp, fun a ha c hc e => by
      rw [List.mem_singleton] at hc
      subst hc
      subst e
      exact hf ha⟩
  · rw [List.mem_append, List.mem_singleton]
    by_cases e : x = u
    · subst e
      rw [upd_same]
      simp
    · rw [upd_other f _ e, ← h.mem]
      simp [e]
  · refine h.inv.step ho (fun y v ⟨p, hp, _, e2⟩ => by rw [← e2]; exact hmin p hp) hfn (fun x v ⟨p, hp, e1, e2⟩ hne => ?_) (fun t x ht hx => ?_) (fun t x ht hx => ?_) (fun x v ⟨p, hp, e1, e2⟩ => ?_) (fun v hv => ?_) (fun v hv => ?_) (fun hu => ?_)
    · rcases rid_or hk hp with h1 | h1
      · exact .inl ⟨v, ⟨p, List.mem_append_left _ h1, e1, e2⟩, W.le_refl _⟩
      · rw [hpk] at h1
        subst h1
        exact absurd e1.symm hne
    · exact .inr (.inl ⟨_, ⟨(w, x), List.mem_append_right _ (mem_sucs.2 ⟨t, ht, .inl ⟨hx, rfl⟩⟩), rfl, rfl⟩, W.le_refl _⟩)
    · refine .inr (.inl ⟨_, ⟨(w ++ x, x), List.mem_append_right _ (mem_sucs.2 ⟨t, ht, .inr ⟨hx, rfl⟩⟩), rfl, rfl⟩, ?_⟩)
      show le (w ++ x).data.toList _
      rw [ByteArray.data_append, Array.toList_append]
      exact W.le_refl _
    · rcases List.mem_append.1 hp with h1 | h1
      · exact .inl ⟨p, mem_rid h1, e1, e2⟩
      · obtain ⟨t, ht, ⟨h2, h3⟩ | ⟨h2, h3⟩⟩ := mem_sucs.1 h1
        · rw [e1] at h2
          exact .inr (.inl ⟨t, ht, h2, by rw [← e2, h3]⟩)
        · rw [e1] at h2 h3
          exact .inr (.inr ⟨t, ht, h2, by rw [← e2, h3, ByteArray.data_append, Array.toList_append]⟩)
    · rcases hbs with ⟨e, _⟩ | ⟨e, _⟩
      · rw [e]
        exact better_le_b hw1 hv
      · rw [e]
        exact ⟨v, hv, W.le_refl _⟩
    · rcases hbs with ⟨e, hu⟩ | ⟨e, _⟩
      · rw [e] at hv
        rcases better_or b w with e2 | e2
        · rw [e2, bst_some hw1] at hv
          injection hv with hv
          subst hv
          exact ⟨u, hu, hdb⟩
        · rw [e2] at hv
          exact h.inv.bR v hv
      · rw [e] at hv
        exact h.inv.bR v hv
    · rcases hbs with ⟨e, _⟩ | ⟨_, e⟩
      · rw [e]
        exact better_le_w hw1
      · exact absurd hu e
  · rw [List.length_append, List.length_singleton]
    rcases List.mem_append.1 hp with h1 | h1
    · have := h.size p (mem_rid h1)
      omega
    · obtain ⟨t, ht, ⟨h2, h3⟩ | ⟨h2, h3⟩⟩ := mem_sucs.1 h1
      · rw [h3]
        omega
      · have h7 := db_size hset (hdb.on ht h2)
        rw [h3, ByteArray.size_append]
        omega
  · rw [List.length_append, List.length_singleton]
    have := h.bsize
    rcases hbs with ⟨e, _⟩ | ⟨e, _⟩
    · rw [e]
      rcases better_or b w with e2 | e2 <;> rw [e2] <;> omega
    · rw [e]
      omega
  · rw [List.length_append, List.length_append, List.length_singleton]
    omega
theorem LSt.ended (h : LSt ss [] ds f b) : FD ss (bst b) := h.inv.ended (fun y v ⟨p, hp, _⟩ => by simp at hp)
end

end Go.Proofs.YtiemoocdffobgaaDoor
