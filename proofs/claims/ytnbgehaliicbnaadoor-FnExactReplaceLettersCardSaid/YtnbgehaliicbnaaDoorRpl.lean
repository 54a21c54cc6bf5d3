/-
  WHAT THIS FILE PROVES: plain facts on words in place of letters; no program in sight.
-/
import Derived.Test.YtnbgehaliicbnaaDoorWdIf
import Derived.Test.YtnbgehaliicbnaaDoorKrT
import Derived.Test.YtnbgehaliicbnaaDoorHas
namespace Go.Proofs.YtnbgehaliicbnaaDoor

/-- what stands for a letter -/
def rp1 (bs : List ByteArray) (c : UInt8) : ByteArray := W.nth bs (c.toNat - 97)
def rpL (bs : List ByteArray) (l : List UInt8) : List UInt8 := l.flatMap fun c => (rp1 bs c).data.toList
/-- what stands for the first k letters -/
def rpTo (bs : List ByteArray) (s : ByteArray) (k : Nat) : ByteArray := ⟨(rpL bs (s.data.toList.take k)).toArray⟩
/-- what stands for a word -/
def rpB (bs : List ByteArray) (s : ByteArray) : ByteArray := ⟨(rpL bs s.data.toList).toArray⟩
theorem rpTo_zero (bs : List ByteArray) (s : ByteArray) : rpTo bs s 0 = ⟨#[]⟩ := rfl
theorem rpTo_all (bs : List ByteArray) (s : ByteArray) : rpTo bs s s.size = rpB bs s := by
  unfold rpTo rpB
  rw [List.take_of_length_le (by rw [← Lib.size_eq]; omega)]
theorem rpTo_succ (bs : List ByteArray) (s : ByteArray) (k : Nat) (h : k < s.size) : rpTo bs s (k + 1) = rpTo bs s k ++ rp1 bs s[k] := by
  refine data_inj ?_
  have hk : k < s.data.toList.length := by rw [← Lib.size_eq]; exact h
  have e : s.data.toList[k] = s[k] := rfl
  rw [ByteArray.data_append, Array.toList_append]
  unfold rpTo rpL
  rw [List.take_succ_eq_append_getElem hk, List.flatMap_append, e]
  simp
theorem nth_le8 {bs : List ByteArray} (h : W.isSet bs = true) (i : Nat) : (W.nth bs i).size ≤ 8 := by
  by_cases hi : i < bs.length
  · rw [W.nth_lt bs i hi]; exact (W.short_size _ (set_mem h _ (List.getElem_mem hi))).2
  · unfold W.nth
    rw [List.getD_eq_getElem?_getD, List.getElem?_eq_none (by omega)]
    show (0 : Nat) ≤ 8
    omega
theorem rpTo_size {bs : List ByteArray} (h : W.isSet bs = true) (s : ByteArray) : ∀ k, k ≤ s.size → (rpTo bs s k).size ≤ 8 * k
  | 0, _ => by rw [rpTo_zero]; exact Nat.le_refl _
  | k + 1, hk => by
    have h1 := rpTo_size h s k (by omega)
    have h2 := nth_le8 h (s[k].toNat - 97)
    rw [rpTo_succ bs s k (by omega), ByteArray.size_append]
    unfold rp1
    omega
/-- all words with their letters replaced -/
def rpAll (ss bs : List ByteArray) : List ByteArray := ss.map (rpB bs)
theorem rpAll_len (ss bs : List ByteArray) : (rpAll ss bs).length = ss.length := by simp [rpAll]
theorem rpAll_size {ss bs : List ByteArray} (hs : W.isSet ss = true) (hb : W.isSet bs = true) : ∀ x ∈ rpAll ss bs, x.size ≤ 64 := fun x hx => by
  unfold rpAll at hx
  obtain ⟨s, hs1, rfl⟩ := List.mem_map.1 hx
  have h1 := (W.short_size s (set_mem hs s hs1)).2
  have h2 := rpTo_size hb s s.size (Nat.le_refl _)
  rw [rpTo_all] at h2
  omega
theorem rpAll_succ (ss bs : List ByteArray) (k : Nat) (h : k < ss.length) : (rpAll ss bs).take (k + 1) = (rpAll ss bs).take k ++ [rpB bs (W.nth ss k)] := by
  unfold rpAll
  rw [List.take_succ_eq_append_getElem (by simpa using h), List.getElem_map, W.nth_lt ss k h]
/-- what ReplaceLetters asks for -/
def rpAsk (ss bs : List ByteArray) : Bool := W.isSet bs && W.krSet ss (bs.length : Int)
def rpOk (ss bs : List ByteArray) : Bool := rpAsk ss bs && (anOk (rpAll ss bs) && !decide ((ordB (rpAll ss bs)).length < ss.length))
def rpOf (ss bs : List ByteArray) : List ByteArray := if rpOk ss bs then ordB (rpAll ss bs) else []
theorem rpOf_no {ss bs : List ByteArray} (h : rpOk ss bs = false) : rpOf ss bs = [] := by unfold rpOf; rw [h]; rfl
theorem rpOf_yes {ss bs : List ByteArray} (h : rpOk ss bs = true) : rpOf ss bs = ordB (rpAll ss bs) := by unfold rpOf; rw [h]; rfl
theorem rpOf_len (ss bs : List ByteArray) : (rpOf ss bs).length ≤ 1048576 := by
  cases h : rpOk ss bs
  · rw [rpOf_no h]; simp
  · rw [rpOf_yes h]
    have h1 := ord_length (rpAll ss bs)
    rw [rpAll_len] at h1
    unfold rpOk rpAsk at h
    simp only [Bool.and_eq_true] at h
    have h2 := W.isSet_len ss (W.krSet_set h.1.2)
    omega
/-- each word more makes an ordered list longer by one at most -/
theorem ord_more (a b : List ByteArray) : (ordB (a ++ b)).length ≤ (ordB a).length + b.length := by
  have h := W.puts_length (raw b) (W.puts [] (raw a))
  rw [← W.puts_append] at h
  rw [show (ordB (a ++ b)).length = (raw (ordB (a ++ b))).length from (raw_length _).symm, raw_ord]
  rw [show (ordB a).length = (raw (ordB a)).length from (raw_length _).symm, raw_ord]
  have e : raw (a ++ b) = raw a ++ raw b := by simp [raw]
  rw [e, ← raw_length b]
  exact h
/-- a word that comes again -/
theorem ord_again {l : List ByteArray} {x : ByteArray} (h : x ∈ ordB l) : ordB (l ++ [x]) = ordB l := ord_mem fun y => by
  rw [List.mem_append, List.mem_singleton]
  constructor
  · rintro (h1 | rfl)
    · exact h1
    · exact (mem_ord l _).1 h
  · exact .inl
theorem putB_len {os : List ByteArray} {x : ByteArray} (h : x ∉ os) : (putB os x).length = os.length + 1 := by
  have h2 : ¬ os[aheadB os x]? = some x := fun e => h (List.mem_of_getElem? e)
  rw [putB_no h2, List.length_append, List.length_cons, List.length_take, List.length_drop]
  have := aheadB_le os x
  omega
theorem rp_dup {ss bs : List ByteArray} {k : Nat} (hk : k < ss.length) (h : rpB bs (W.nth ss k) ∈ ordB ((rpAll ss bs).take k)) : (ordB (rpAll ss bs)).length < ss.length := by
  have h1 := ord_more ((rpAll ss bs).take (k + 1)) ((rpAll ss bs).drop (k + 1))
  rw [List.take_append_drop, rpAll_succ ss bs k hk, ord_again h, List.length_drop, rpAll_len] at h1
  have h2 := ord_length ((rpAll ss bs).take k)
  rw [List.length_take, rpAll_len] at h2
  omega
end Go.Proofs.YtnbgehaliicbnaaDoor
