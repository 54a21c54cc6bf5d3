/-
  WHAT THIS FILE PROVES: plain facts on words with two readings: one reading ahead of another one by an end, the least word with each end, and that a search that follows the least end first finds the least word with two readings; no program in sight.
-/
import Derived.Test.YtjopbmhldpcpdaaGreatDoorDang
import Derived.Test.YtjopbmhldpcpdaaGreatDoorLess
namespace Go.Proofs.YtjopbmhldpcpdaaGreatDoor

namespace W
def le (a b : List UInt8) : Prop := less b a = false
theorem le_refl (a : List UInt8) : le a a := less_irrefl a
theorem le_cases {a b : List UInt8} (h : le a b) : less a b = true ∨ a = b := by
  cases h1 : less a b
  · exact .inr (less_total h1 h)
  · exact .inl rfl
theorem le_trans {a b c : List UInt8} (h1 : le a b) (h2 : le b c) : le a c := by
  unfold le
  cases h : less c a
  · rfl
  · rcases le_cases h1 with h3 | rfl
    · have := less_trans h h3
      rw [h2] at this
      cases this
    · rw [h2] at h
      cases h
theorem le_of_less {a b : List UInt8} (h : less a b = true) : le a b := less_asymm h
theorem le_antisymm {a b : List UInt8} (h1 : le a b) (h2 : le b a) : a = b := less_total h2 h1
theorem le_append (a x : List UInt8) : le a (a ++ x) := by
  unfold le
  rw [less_def, List.length_append]
  by_cases h : x = []
  · subst h
    simp [List.lt_irrefl]
  · have : 0 < x.length := List.length_pos_iff.2 h
    have h1 : ¬ a.length + x.length < a.length := by omega
    have h2 : ¬ a.length + x.length = a.length := by omega
    simp [h]
theorem lt_of_append : ∀ (a b x : List UInt8), a.length = b.length → a ++ x < b ++ x → a < b
  | [], [], x, _, h => absurd h (List.lt_irrefl x)
  | [], _ :: _, _, h, _ => by simp at h
  | _ :: _, [], _, h, _ => by simp at h
  | c :: a, d :: b, x, h, h2 => by
    rw [List.cons_append, List.cons_append, List.cons_lt_cons_iff] at h2
    rw [List.cons_lt_cons_iff]
    rcases h2 with h2 | ⟨h3, h2⟩
    · exact .inl h2
    · exact .inr ⟨h3, lt_of_append a b x (by simpa using h) h2⟩
theorem le_append_right {a b : List UInt8} (h : le a b) (x : List UInt8) : le (a ++ x) (b ++ x) := by
  unfold le at *
  rw [less_def] at *
  simp only [Bool.or_eq_false_iff, Bool.and_eq_false_iff, decide_eq_false_iff_not, List.length_append] at *
  refine ⟨by omega, ?_⟩
  by_cases e : b.length = a.length
  · right
    intro hlt
    rcases h.2 with h2 | h2
    · exact h2 e
    · exact h2 (lt_of_append b a x e hlt)
  · left
    omega
end W
open W (le)

/-- a word is written so far in one reading, and the same but for an end in another one -/
inductive Db (ss : List ByteArray) : List UInt8 → ByteArray → Prop
  | start {s t x : ByteArray} : s ∈ ss → t ∈ ss → x ∈ restOf s t → Db ss t.data.toList x
  | off {w : List UInt8} {u t x : ByteArray} : Db ss w u → t ∈ ss → x ∈ restOf t u → Db ss w x
  | on {w : List UInt8} {u t x : ByteArray} : Db ss w u → t ∈ ss → x ∈ restOf u t → Db ss (w ++ x.data.toList) x

theorem db_of_dl {ss : List ByteArray} : ∀ n x, x ∈ dl ss n → ∃ w, Db ss w x
  | 0, x, h => by
    obtain ⟨s, hs, t, ht, hx⟩ := mem_rests.1 ((mem_dl ss 0 x).1 h)
    exact ⟨_, .start hs ht hx⟩
  | n + 1, x, h => by
    obtain ⟨u, hu, t, ht, hx | hx⟩ := (mem_dl ss (n + 1) x).1 h
    · obtain ⟨w, hw⟩ := db_of_dl n u ((mem_dl ss n u).2 hu)
      exact ⟨_, hw.off ht hx⟩
    · obtain ⟨w, hw⟩ := db_of_dl n u ((mem_dl ss n u).2 hu)
      exact ⟨_, hw.on ht hx⟩
theorem dl_of_db {ss : List ByteArray} {w : List UInt8} {x : ByteArray} (h : Db ss w x) : ∃ n, x ∈ dl ss n := by
  induction h with
  | start hs ht hx => exact ⟨0, (mem_dl ss 0 _).2 (mem_rests.2 ⟨_, hs, _, ht, hx⟩)⟩
  | off _ ht hx ih =>
    obtain ⟨n, hn⟩ := ih
    exact ⟨n + 1, (mem_dl ss (n + 1) _).2 ⟨_, (mem_dl ss n _).1 hn, _, ht, .inl hx⟩⟩
  | on _ ht hx ih =>
    obtain ⟨n, hn⟩ := ih
    exact ⟨n + 1, (mem_dl ss (n + 1) _).2 ⟨_, (mem_dl ss n _).1 hn, _, ht, .inr hx⟩⟩
theorem db_mem {ss : List ByteArray} (h : W.isSet ss = true) {w : List UInt8} {x : ByteArray} (hd : Db ss w x) : x ∈ dS ss := by
  obtain ⟨n, hn⟩ := dl_of_db hd
  exact dl_in h n x hn
theorem db_size {ss : List ByteArray} (h : W.isSet ss = true) {w : List UInt8} {x : ByteArray} (hd : Db ss w x) : 1 ≤ x.size ∧ x.size ≤ 7 := by
  obtain ⟨n, hn⟩ := dl_of_db hd
  have := dl_word h n x hn
  exact ⟨this.1, this.2.1⟩
theorem db_pos {ss : List ByteArray} (h : W.isSet ss = true) {w : List UInt8} {x : ByteArray} (hd : Db ss w x) : 1 ≤ w.length := by
  induction hd with
  | start hs ht hx => have := set_size h ht; rw [← Lib.size_eq]; omega
  | off _ _ _ ih => exact ih
  | on _ _ _ ih => rw [List.length_append]; omega

/-- a search: what has been followed, with its word; what is open; the best word found -/
def Cov (f : ByteArray → Option (List UInt8)) (o : ByteArray → List UInt8 → Prop) (b : Option (List UInt8)) (x : ByteArray) (v : List UInt8) : Prop :=
  (∃ w, f x = some w ∧ le w v) ∨ (∃ w, o x w ∧ le w v) ∨ ∃ w, b = some w ∧ le w v
structure DInv (ss : List ByteArray) (f : ByteArray → Option (List UInt8)) (o : ByteArray → List UInt8 → Prop) (b : Option (List UInt8)) : Prop where
  start : ∀ s t x, s ∈ ss → t ∈ ss → x ∈ restOf s t → Cov f o b x t.data.toList
  off : ∀ u w t x, f u = some w → t ∈ ss → x ∈ restOf t u → Cov f o b x w
  on : ∀ u w t x, f u = some w → t ∈ ss → x ∈ restOf u t → Cov f o b x (w ++ x.data.toList)
  fR : ∀ u w, f u = some w → Db ss w u
  oR : ∀ u w, o u w → Db ss w u
  bR : ∀ w, b = some w → ∃ u, u ∈ ss ∧ Db ss w u
  hit : ∀ u w, f u = some w → u ∈ ss → ∃ v, b = some v ∧ le v w
  mono : ∀ u w x v, f u = some w → o x v → le w v
theorem Cov.up {f : ByteArray → Option (List UInt8)} {o : ByteArray → List UInt8 → Prop} {b : Option (List UInt8)} {x : ByteArray} {v v' : List UInt8} (h : Cov f o b x v) (hv : le v v') : Cov f o b x v' := by
  rcases h with ⟨w, h1, h2⟩ | ⟨w, h1, h2⟩ | ⟨w, h1, h2⟩
  · exact .inl ⟨w, h1, W.le_trans h2 hv⟩
  · exact .inr (.inl ⟨w, h1, W.le_trans h2 hv⟩)
  · exact .inr (.inr ⟨w, h1, W.le_trans h2 hv⟩)
section
variable {ss : List ByteArray} {f : ByteArray → Option (List UInt8)} {o o' : ByteArray → List UInt8 → Prop} {b b' : Option (List UInt8)}
theorem DInv.cover (h : DInv ss f o b) {w : List UInt8} {x : ByteArray} (hd : Db ss w x) : (∃ v, f x = some v ∧ le v w) ∨ (∃ y v, o y v ∧ le v w) ∨ ∃ v, b = some v ∧ le v w := by
  have of : ∀ {x : ByteArray} {w : List UInt8}, Cov f o b x w → (∃ v, f x = some v ∧ le v w) ∨ (∃ y v, o y v ∧ le v w) ∨ ∃ v, b = some v ∧ le v w := fun hc => by
    rcases hc with ⟨w, h1, h2⟩ | ⟨w, h1, h2⟩ | ⟨w, h1, h2⟩
    · exact .inl ⟨w, h1, h2⟩
    · exact .inr (.inl ⟨_, w, h1, h2⟩)
    · exact .inr (.inr ⟨w, h1, h2⟩)
  induction hd with
  | start hs ht hx => exact of (h.start _ _ _ hs ht hx)
  | off _ ht hx ih =>
    rcases ih with ⟨v, h1, h2⟩ | ih
    · exact of ((h.off _ _ _ _ h1 ht hx).up h2)
    · exact .inr ih
  | on _ ht hx ih =>
    rcases ih with ⟨v, h1, h2⟩ | ⟨y, v, h1, h2⟩ | ⟨v, h1, h2⟩
    · exact of ((h.on _ _ _ _ h1 ht hx).up (W.le_append_right h2 _))
    · exact .inr (.inl ⟨y, v, h1, W.le_trans h2 (W.le_append _ _)⟩)
    · exact .inr (.inr ⟨v, h1, W.le_trans h2 (W.le_append _ _)⟩)
/-- what a search for the least word with two readings tells -/
def FD (ss : List ByteArray) (r : Option (List UInt8)) : Prop :=
  (∀ w, r = some w → (∃ u, u ∈ ss ∧ Db ss w u) ∧ ∀ v u, Db ss v u → u ∈ ss → le w v) ∧ (r = none → ∀ v u, Db ss v u → u ∉ ss)
theorem FD.unique {r r' : Option (List UInt8)} (h : FD ss r) (h' : FD ss r') : r = r' := by
  cases r with
  | none =>
    cases r' with
    | none => rfl
    | some w => obtain ⟨⟨u, hu, hd⟩, _⟩ := h'.1 w rfl; exact absurd hu (h.2 rfl _ _ hd)
  | some w =>
    obtain ⟨⟨u, hu, hd⟩, h1⟩ := h.1 w rfl
    cases r' with
    | none => exact absurd hu (h'.2 rfl _ _ hd)
    | some w' =>
      obtain ⟨⟨u', hu', hd'⟩, h1'⟩ := h'.1 w' rfl
      rw [W.le_antisymm (h1 _ _ hd' hu') (h1' _ _ hd hu)]
theorem DInv.found (h : DInv ss f o none) {u : ByteArray} {w : List UInt8} (ho : o u w) (hmin : ∀ y v, o y v → le w v) (hu : u ∈ ss) : FD ss (some w) := by
  refine ⟨fun w' e => ?_, fun e => by cases e⟩
  injection e with e
  subst e
  refine ⟨⟨u, hu, h.oR _ _ ho⟩, fun v x hd hx => ?_⟩
  rcases h.cover hd with ⟨v', h1, _⟩ | ⟨y, v', h1, h2⟩ | ⟨v', h1, _⟩
  · obtain ⟨_, h3, _⟩ := h.hit _ _ h1 hx
    cases h3
  · exact W.le_trans (hmin _ _ h1) h2
  · cases h1
theorem DInv.ended (h : DInv ss f o b) (he : ∀ y v, ¬ o y v) : FD ss b := by
  refine ⟨fun w e => ⟨h.bR w e, fun v x hd hx => ?_⟩, fun e v x hd hx => ?_⟩
  · rcases h.cover hd with ⟨v', h1, h2⟩ | ⟨y, v', h1, _⟩ | ⟨v', h1, h2⟩
    · obtain ⟨v2, h3, h4⟩ := h.hit _ _ h1 hx
      rw [e] at h3
      injection h3 with h3
      subst h3
      exact W.le_trans h4 h2
    · exact absurd h1 (he _ _)
    · rw [e] at h1
      injection h1 with h1
      subst h1
      exact h2
  · rcases h.cover hd with ⟨v', h1, _⟩ | ⟨y, v', h1, _⟩ | ⟨v', h1, _⟩
    · obtain ⟨v2, h3, _⟩ := h.hit _ _ h1 hx
      rw [e] at h3
      cases h3
    · exact he _ _ h1
    · rw [e] at h1
      cases h1
/-- an end is followed -/
def upd (f : ByteArray → Option (List UInt8)) (u : ByteArray) (w : List UInt8) : ByteArray → Option (List UInt8) := fun x => if x = u then some w else f x
theorem upd_same (f : ByteArray → Option (List UInt8)) (u : ByteArray) (w : List UInt8) : upd f u w u = some w := by unfold upd; rw [if_pos rfl]
theorem upd_other (f : ByteArray → Option (List UInt8)) {u x : ByteArray} (w : List UInt8) (h : x ≠ u) : upd f u w x = f x := by unfold upd; rw [if_neg h]
theorem DInv.step (h : DInv ss f o b) {u : ByteArray} {w : List UInt8} (ho : o u w) (hmin : ∀ y v, o y v → le w v) (hf : f u = none)
    (keep : ∀ x v, o x v → x ≠ u → (∃ v', o' x v' ∧ le v' v) ∨ ∃ v', b' = some v' ∧ le v' v)
    (off : ∀ t x, t ∈ ss → x ∈ restOf t u → Cov (upd f u w) o' b' x w)
    (on : ∀ t x, t ∈ ss → x ∈ restOf u t → Cov (upd f u w) o' b' x (w ++ x.data.toList))
    (sound : ∀ x v, o' x v → o x v ∨ (∃ t, t ∈ ss ∧ x ∈ restOf t u ∧ v = w) ∨ ∃ t, t ∈ ss ∧ x ∈ restOf u t ∧ v = w ++ x.data.toList)
    (hb : ∀ v, b = some v → ∃ v', b' = some v' ∧ le v' v) (bR : ∀ v, b' = some v → ∃ u, u ∈ ss ∧ Db ss v u) (hit : u ∈ ss → ∃ v, b' = some v ∧ le v w) : DInv ss (upd f u w) o' b' := by
  have cov : ∀ x v, Cov f o b x v → Cov (upd f u w) o' b' x v := fun x v hc => by
    rcases hc with ⟨v1, h1, h2⟩ | ⟨v1, h1, h2⟩ | ⟨v1, h1, h2⟩
    · have e : x ≠ u := fun e => by rw [e, hf] at h1; cases h1
      exact .inl ⟨v1, by rw [upd_other f w e]; exact h1, h2⟩
    · by_cases e : x = u
      · subst e
        exact .inl ⟨w, upd_same _ _ _, W.le_trans (hmin _ _ h1) h2⟩
      · rcases keep x v1 h1 e with ⟨v', h3, h4⟩ | ⟨v', h3, h4⟩
        · exact .inr (.inl ⟨v', h3, W.le_trans h4 h2⟩)
        · exact .inr (.inr ⟨v', h3, W.le_trans h4 h2⟩)
    · obtain ⟨v', h3, h4⟩ := hb v1 h1
      exact .inr (.inr ⟨v', h3, W.le_trans h4 h2⟩)
  have old : ∀ {x v}, upd f u w x = some v → (x = u ∧ v = w) ∨ f x = some v := fun {x v} he => by
    by_cases e : x = u
    · subst e
      rw [upd_same] at he
      injection he with he
      exact .inl ⟨rfl, he.symm⟩
    · rw [upd_other f w e] at he
      exact .inr he
  have oR' : ∀ x v, o' x v → Db ss v x := fun x v hx => by
    rcases sound x v hx with h1 | ⟨t, ht, h1, rfl⟩ | ⟨t, ht, h1, rfl⟩
    · exact h.oR _ _ h1
    · exact (h.oR _ _ ho).off ht h1
    · exact (h.oR _ _ ho).on ht h1
  have low : ∀ x v, o' x v → le w v := fun x v hx => by
    rcases sound x v hx with h1 | ⟨t, ht, h1, rfl⟩ | ⟨t, ht, h1, rfl⟩
    · exact hmin _ _ h1
    · exact W.le_refl _
    · exact W.le_append _ _
  refine ⟨fun s t x hs ht hx => cov _ _ (h.start s t x hs ht hx), fun u' w' t x hu ht hx => ?_, fun u' w' t x hu ht hx => ?_, fun u' w' hu => ?_, oR', bR, fun u' w' hu hs => ?_, fun u' w' x v hu hx => ?_⟩
  · rcases old hu with ⟨rfl, rfl⟩ | hu
    · exact off t x ht hx
    · exact cov _ _ (h.off u' w' t x hu ht hx)
  · rcases old hu with ⟨rfl, rfl⟩ | hu
    · exact on t x ht hx
    · exact cov _ _ (h.on u' w' t x hu ht hx)
  · rcases old hu with ⟨rfl, rfl⟩ | hu
    · exact h.oR _ _ ho
    · exact h.fR _ _ hu
  · rcases old hu with ⟨rfl, rfl⟩ | hu
    · exact hit hs
    · obtain ⟨v, h1, h2⟩ := h.hit _ _ hu hs
      obtain ⟨v', h3, h4⟩ := hb v h1
      exact ⟨v', h3, W.le_trans h4 h2⟩
  · rcases old hu with ⟨rfl, rfl⟩ | hu
    · exact low x v hx
    · exact W.le_trans (h.mono _ _ _ _ hu ho) (low x v hx)
/-- what is open may be dropped if its end has been followed, or if a word that is no greater has been found -/
theorem DInv.drop (h : DInv ss f o b) {u : ByteArray} {w : List UInt8} (ho : o u w) (hf : f u ≠ none ∨ ∃ v, b = some v ∧ le v w)
    (keep : ∀ x v, o x v → o' x v ∨ (x = u ∧ v = w)) (sound : ∀ x v, o' x v → o x v) : DInv ss f o' b := by
  have cov : ∀ x v, Cov f o b x v → Cov f o' b x v := fun x v hc => by
    rcases hc with h1 | ⟨v1, h1, h2⟩ | h1
    · exact .inl h1
    · rcases keep x v1 h1 with h3 | ⟨rfl, rfl⟩
      · exact .inr (.inl ⟨v1, h3, h2⟩)
      · rcases hf with hf | ⟨v', h3, h4⟩
        · obtain ⟨v', h3⟩ := Option.ne_none_iff_exists'.1 hf
          exact .inl ⟨v', h3, W.le_trans (h.mono _ _ _ _ h3 h1) h2⟩
        · exact .inr (.inr ⟨v', h3, W.le_trans h4 h2⟩)
    · exact .inr (.inr h1)
  exact ⟨fun s t x hs ht hx => cov _ _ (h.start s t x hs ht hx), fun u' w' t x hu ht hx => cov _ _ (h.off u' w' t x hu ht hx), fun u' w' t x hu ht hx => cov _ _ (h.on u' w' t x hu ht hx), h.fR,
    fun x v hx => h.oR _ _ (sound x v hx), h.bR, h.hit, fun u' w' x v hu hx => h.mono _ _ _ _ hu (sound x v hx)⟩

end

theorem dLast_few (ss : List ByteArray) : dLast ss ≤ 400000000000 := by
  have key : ∀ f k, dFind ss f k ≤ k + f := by
    intro f
    induction f with
    | zero => intro k; exact Nat.le_refl _
    | succ f ih =>
      intro k
      unfold dFind
      split
      · omega
      · have := ih (k + 1)
        omega
  have := key 400000000000 0
  unfold dLast
  omega
/-- whether the set is a code -/
def isCd (ss : List ByteArray) : Bool := !dHit ss (dl ss (dLast ss))
theorem dHit_mem {ss l : List ByteArray} : dHit ss l = true ↔ ∃ x, x ∈ l ∧ x ∈ ss := by
  unfold dHit
  rw [List.any_eq_true]
  constructor
  · rintro ⟨x, h1, h2⟩
    exact ⟨x, h1, hasB_mem.1 h2⟩
  · rintro ⟨x, h1, h2⟩
    exact ⟨x, h1, hasB_mem.2 h2⟩
theorem dl_nil {ss : List ByteArray} {n : Nat} (h : dl ss n = []) : ∀ k, dl ss (n + k) = []
  | 0 => h
  | k + 1 => by
    have ih := dl_nil h k
    show ordB (rests ss (dl ss (n + k)) ++ rests (dl ss (n + k)) ss) = []
    rw [ih]
    have e : rests ss [] = [] := by
      unfold rests restsOf
      simp
    rw [e]
    rfl
theorem dl_shift {ss : List ByteArray} {m n : Nat} (h : dl ss m = dl ss n) : ∀ k, dl ss (m + k) = dl ss (n + k)
  | 0 => h
  | k + 1 => by
    have ih := dl_shift h k
    show ordB (rests ss (dl ss (m + k)) ++ rests (dl ss (m + k)) ss) = ordB (rests ss (dl ss (n + k)) ++ rests (dl ss (n + k)) ss)
    rw [ih]
theorem isCd_iff {ss : List ByteArray} (h : W.isSet ss = true) : isCd ss = true ↔ ∀ n, dHit ss (dl ss n) = false := by
  have hex : ∃ n, dStop ss n = true := by
    apply Classical.byContradiction
    intro hno
    have hall : ∀ n, dStop ss n = false := fun n => by
      cases hc : dStop ss n
      · rfl
      · exact absurd ⟨n, hc⟩ hno
    have := dStop_few h 400000000001 (fun m _ => hall m)
    omega
  have hleast : ∃ n, (∀ m, m < n → dStop ss m = false) ∧ dStop ss n = true := by
    obtain ⟨n, hn⟩ := hex
    induction n using Nat.strongRecOn with
    | ind n ih =>
      by_cases hb : ∃ m, m < n ∧ dStop ss m = true
      · obtain ⟨m, h1, h2⟩ := hb
        exact ih m h1 h2
      · exact ⟨n, fun m hm => by
          cases hc : dStop ss m
          · rfl
          · exact absurd ⟨m, hm, hc⟩ hb, hn⟩
  obtain ⟨n, h1, h2⟩ := hleast
  unfold isCd
  rw [dLast_eq h n h1 h2]
  constructor
  · intro hc k
    have hc : dHit ss (dl ss n) = false := by
      cases hx : dHit ss (dl ss n)
      · rfl
      · rw [hx] at hc; cases hc
    have hbefore : ∀ m, m < n → dHit ss (dl ss m) = false := fun m hm => by
      have := h1 m hm
      unfold dStop at this
      simp only [Bool.or_eq_false_iff] at this
      exact this.1.2
    unfold dStop at h2
    rw [hc, Bool.or_false] at h2
    cases ho : dOld ss n
    · rw [ho, Bool.false_or] at h2
      have e : dl ss n = [] := by simpa using h2
      by_cases hk : k < n
      · exact hbefore k hk
      · have := dl_nil e (k - n)
        rw [show n + (k - n) = k by omega] at this
        rw [this]
        rfl
    · unfold dOld at ho
      rw [List.any_eq_true] at ho
      obtain ⟨m, hm, e⟩ := ho
      rw [List.mem_range] at hm
      rw [decide_eq_true_eq] at e
      have key : ∀ k, ∃ j, j < n ∧ dl ss k = dl ss j := by
        intro k
        induction k using Nat.strongRecOn with
        | ind k ih =>
          by_cases hk : k < n
          · exact ⟨k, hk, rfl⟩
          · have e2 := dl_shift e (k - n)
            rw [show n + (k - n) = k by omega] at e2
            obtain ⟨j, h3, h4⟩ := ih (m + (k - n)) (by omega)
            exact ⟨j, h3, by rw [← e2]; exact h4⟩
      obtain ⟨j, h3, h4⟩ := key k
      rw [h4]
      exact hbefore j h3
  · intro hall
    rw [hall n]
    rfl
theorem isCd_FD {ss : List ByteArray} (h : W.isSet ss = true) {r : Option (List UInt8)} (hf : FD ss r) : isCd ss = r.isNone := by
  cases r with
  | none =>
    refine (isCd_iff h).2 fun n => ?_
    cases hc : dHit ss (dl ss n)
    · rfl
    · obtain ⟨x, h1, h2⟩ := dHit_mem.1 hc
      obtain ⟨w, hw⟩ := db_of_dl n x h1
      exact absurd h2 (hf.2 rfl _ _ hw)
  | some w =>
    cases hc : isCd ss
    · rfl
    · obtain ⟨⟨u, hu, hd⟩, _⟩ := hf.1 w rfl
      obtain ⟨n, hn⟩ := dl_of_db hd
      have := (isCd_iff h).1 hc n
      rw [dHit_mem.2 ⟨u, hn, hu⟩] at this
      cases this

end Go.Proofs.YtjopbmhldpcpdaaGreatDoor
