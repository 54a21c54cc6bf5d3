/-
  WHAT THIS FILE PROVES: taking away the end with the least word out of a map of ends, whatever the order in which the map is ranged over; asked: a map that is not empty and whose words are not empty.
-/
import Derived.Test.YtjopbmhldpcpdaaGreatDoorOpens
namespace Go.Proofs.YtjopbmhldpcpdaaGreatDoor
open Go.RowKit Go.ChangeMaps Go.Maps
open W (le)

/-- the range's step at keys and elements that are texts -/
theorem next_ranges_ss (w : World) {ops : Array Oper} {rest : List Oper} {o : Oper} {a : Act} {Q : Exit → Act → World → Prop}
    (hg : o.guard = none) (it : Operand) (hop : o.op = Op.next it false) (b r n : Nat) (D : DataW Unit) (left : Lit → Bool) (cnt : Nat) (hit : a.eval it = .pointer (some ⟨r, 0, none⟩)) (h : w.ranges Tryz.prog 9 (plainElem Tryz.prog 9) b r n D left cnt)
    (hDone : cnt = 0 → (∀ kl, left kl = false) → wpList Tryz.prog ops Q rest (a.put o.dst (.tuple #[.bool false])) w)
    (hMore : ∀ (x c : ByteArray) (w' : World) (cnt' : Nat), x.size ≤ maxLen → c.size ≤ maxLen → left (.string x.data.toList) = true → (∀ zd, D.atKey (.string x.data.toList) zd = .lit (.string c.data.toList)) → w'.ranges Tryz.prog 9 (plainElem Tryz.prog 9) b r n D (fun z => left z && !z.sameKey (.string x.data.toList)) cnt' → cnt' < cnt →
      w.grownBy w' (some r) → w'.heap.size = w.heap.size → (Instr.entry (.pointer (some ⟨r, 0, none⟩))).run Tryz.prog w' = .ok (.tuple #[.string x, .string c]) w' → wpList Tryz.prog ops Q rest (a.put o.dst (.tuple #[.bool true, .string x, .string c])) w') :
    wpList Tryz.prog ops Q (o :: rest) a w :=
  wpList_next_ranges w hg it hop 9 (Maps.string_keyed Tryz.underlying9) (plainElem Tryz.prog 9) Value.string Value.string (fun key kl hkey => by obtain ⟨x, rfl, _⟩ := key_str_inv hkey; exact ⟨x, rfl⟩) (fun v y hv => by obtain ⟨c, rfl, _⟩ := plain_str_inv hv; exact ⟨c, rfl⟩)
    b r n D left cnt hit h hDone (fun x c kl y w' cnt' hkey hlk hv hat hrg hlt hgr hsz hen => by
      obtain ⟨x', ex, rfl, hwx⟩ := key_str_inv hkey
      cases ex
      obtain ⟨c', ec, rfl, hwc⟩ := plain_str_inv hv
      cases ec
      exact hMore x c w' cnt' hwx hwc hlk hat hrg hlt hgr hsz hen)

/-- the least of the entries that have come -/
def TakeR (g : ByteArray → Option ByteArray) (left : Lit → Bool) (x v : ByteArray) : Prop :=
  (v.size = 0 ∧ ∀ y u, g y = some u → left (.string y.data.toList) = true) ∨
  (1 ≤ v.size ∧ g x = some v ∧ ∀ y u, g y = some u → left (.string y.data.toList) = false → le v.data.toList u.data.toList)
theorem same_str {x y : ByteArray} (h : (Lit.string y.data.toList).sameKey (.string x.data.toList) = true) : y = x := by
  by_cases e : y = x
  · exact e
  · have := Maps.sameKey_ne (a := .string y.data.toList) (b := .string x.data.toList) (fun e2 => e (data_inj (by injection e2)))
    rw [this] at h
    cases h
theorem TakeR.left {left : Lit → Bool} {y x : ByteArray} (h : (left (.string y.data.toList) && !(Lit.string y.data.toList).sameKey (.string x.data.toList)) = false) : left (.string y.data.toList) = false ∨ y = x := by
  cases h1 : left (.string y.data.toList)
  · exact .inl rfl
  · rw [h1, Bool.true_and] at h
    exact .inr (same_str (by simpa using h))
theorem TakeR.take {g : ByteArray → Option ByteArray} {left : Lit → Bool} {x v x' c : ByteArray} (h : TakeR g left x v) (hg : g x' = some c) (hc : 1 ≤ c.size) (hle : v.size = 0 ∨ le c.data.toList v.data.toList) :
    TakeR g (fun z => left z && !z.sameKey (.string x'.data.toList)) x' c := by
  refine .inr ⟨hc, hg, fun y u hy hl => ?_⟩
  rcases TakeR.left hl with h1 | rfl
  · rcases h with ⟨_, h2⟩ | ⟨h3, _, h2⟩
    · rw [h2 y u hy] at h1
      cases h1
    · rcases hle with h4 | h4
      · omega
      · exact W.le_trans h4 (h2 y u hy h1)
  · rw [hg] at hy
    injection hy with hy
    subst hy
    exact W.le_refl _
theorem TakeR.stay {g : ByteArray → Option ByteArray} {left : Lit → Bool} {x v x' c : ByteArray} (h : TakeR g left x v) (hg : g x' = some c) (hv : 1 ≤ v.size) (hle : le v.data.toList c.data.toList) :
    TakeR g (fun z => left z && !z.sameKey (.string x'.data.toList)) x v := by
  rcases h with ⟨h1, _⟩ | ⟨h1, h2, h3⟩
  · omega
  · refine .inr ⟨h1, h2, fun y u hy hl => ?_⟩
    rcases TakeR.left hl with h4 | rfl
    · exact h3 y u hy h4
    · rw [hg] at hy
      injection hy with hy
      subst hy
      exact hle
theorem le_cw {l m : List UInt8} (h : ¬ W.cw m l < 0) : le l m := by
  unfold le
  rw [← W.cw_neg]
  exact decide_eq_false h
theorem compare_zero : ∀ {l m : List UInt8}, Lib.compareBytes l m = 0 → l = m
  | [], [], _ => rfl
  | [], _ :: _, h => by simp [Lib.compareBytes] at h
  | _ :: _, [], h => by simp [Lib.compareBytes] at h
  | a :: l, b :: m, h => by
    unfold Lib.compareBytes at h
    split at h
    · simp at h
    · rename_i h1
      split at h
      · simp at h
      · rename_i h2
        have e : a = b := by
          have h3 := UInt8.not_lt.1 h1
          have h4 := UInt8.not_lt.1 h2
          exact UInt8.le_antisymm h4 h3
        rw [e, compare_zero h]
theorem cw_zero {l m : List UInt8} (h : W.cw l m = 0) : le l m ∧ le m l := by
  have h1 : W.less l m = false := by rw [← W.cw_neg, h]; rfl
  refine ⟨?_, h1⟩
  unfold le
  unfold W.cw at h
  split at h
  · rename_i h0
    have hl : l.length = m.length := by
      unfold Lib.compareInt at h0
      split at h0
      · omega
      · split at h0
        · omega
        · omega
    have e : l = m := compare_zero h
    rw [e]
    exact W.less_irrefl m
  · rename_i h0
    exact absurd h h0
theorem empty_size (v : ByteArray) : (v.toList == []) = decide (v.size = 0) := by
  rw [Lib.toList_data, Lib.size_eq]
  cases v.data.toList <;> rfl

set_option maxHeartbeats 3200000 in
theorem impl_takeFirst (b n : Nat) (g : ByteArray → Option ByteArray) (w : World) (h : OpenAt w b n g) (hpos : ∀ x v, g x = some v → 1 ≤ v.size) (hsz : ∀ x v, g x = some v → x.size ≤ maxLen) (hne : ∃ x v, g x = some v) :
    Calls Tryz.prog 49 #[.map (some b)] w fun e w' => ∃ x v, e = .returned (.tuple #[.string x, .string v]) ∧ g x = some v ∧ (∀ y u, g y = some u → le v.data.toList u.data.toList) ∧ OpenAt w' b n (fun y => if y = x then none else g y) ∧ w.grownBy w' (some b) := by
  obtain ⟨D, h1, h2⟩ := h
  have H2 := Lib.hid h2
  have Hpos := Lib.hid hpos
  have Hne := Lib.hid hne
  have Hsz := Lib.hid hsz
  have hlt := h1.lt
  have hcw := Lib.hid (fun s t W => impl_compareWords s t W)
  clear h2 hpos hne hsz
  go_enter Tryz.func49, Tryz.ntmps49
  go_wp2_with (at_range; refine wpList_range_own _ rfl _ 61 rfl 9 9 (Maps.string_keyed Tryz.underlying9) Tryz.underlying61 _ b n D rfl h1 ?_; intro w0 hrg0 hg0 hs0)
  go_frame
  go_loopw [4, 5] (fun f l wr => ∃ (x v : ByteArray) (left : Lit → Bool) (cnt : Nat), f = .string x ∧ l = .string v ∧ wr.ranges Tryz.prog 9 (plainElem Tryz.prog 9) b w.heap.size n D left cnt ∧ w.grownBy wr none ∧ TakeR g left x v)
    (fun _ _ wr => wr.rangeLeft b w.heap.size)
  case atStart => exact ⟨_, _, _, _, rfl, rfl, hrg0, hg0, .inl ⟨rfl, fun y u hy => by rw [OpenAt.has H2.out y, hy]; rfl⟩⟩
  case round =>
    obtain ⟨x, v, left, cnt, rfl, rfl, hrg, hgw, hT⟩ := hrel
    replace hT := Lib.hid hT
    clear hrg0 hg0 hs0
    go_wp2_with (at_next; refine next_ranges_ss _ rfl _ rfl b w.heap.size n D left cnt rfl hrg ?_ ?_)
    · intro _ hl0
      have hfin : Hid (g x = some v ∧ ∀ y u, g y = some u → le v.data.toList u.data.toList) := by
        rcases hT.out with ⟨_, h3⟩ | ⟨_, h3, h4⟩
        · obtain ⟨y, u, hy⟩ := Hne.out
          have := h3 y u hy
          rw [hl0] at this
          cases this
        · exact ⟨h3, fun y u hy => h4 y u hy (hl0 _)⟩
      have hx : x.size ≤ maxLen := Hsz.out _ _ hfin.out.1
      go_wp2_with (at_delete; refine wpList_delete_own _ rfl _ _ 61 9 rfl 9 (Maps.string_keyed Tryz.underlying9) Tryz.underlying61 _ b n D rfl hrg.owns _ _ rfl (WideMaps.keyOf_string_mk Tryz.underlying9 hx) ?_; intro w1 hown1 hturn1)
      go_wp2
      go_ret2
      exact ⟨x, v, rfl, hfin.out.1, hfin.out.2, OpenAt.struck H2.out x hown1, (hgw.but (some b)).andThen hturn1.grown (fun j hj => .inr hj)⟩
    · intro x' c w1 cnt1 hwx hwc hlx hat hrg1 hlt1 hg1 hs1 hen
      have hgx : g x' = some c := glW_some (fun z => by rw [← H2.out]; exact hat z)
      have hcp := Hpos.out _ _ hgx
      have hgw1 := hgw.andThen hg1 (fun j hj => by cases hj; exact Or.inl (Nat.le_refl _))
      have hcA := fun W => hcw.out c v W
      have hcB := fun W => hcw.out x' x W
      have ho1 : Hid (¬ W.cw c.data.toList v.data.toList < 0 → le v.data.toList c.data.toList) := fun h => le_cw h
      have ho2 : Hid (W.cw c.data.toList v.data.toList ≤ 0 → le c.data.toList v.data.toList) := fun h => by
        by_cases h0 : W.cw c.data.toList v.data.toList = 0
        · exact (cw_zero h0).1
        · refine W.le_of_less ?_
          rw [← W.cw_neg]
          exact decide_eq_true (by omega)
      have H1 := Lib.hid (And.intro hgx (And.intro hcp (And.intro hgw1 (And.intro hrg1 (And.intro hlt1 hrg)))))
      have hes := empty_size v
      generalize W.cw c.data.toList v.data.toList = o at hcA ho1 ho2
      generalize W.cw x'.data.toList x.data.toList = o2 at hcB
      replace hcA := Lib.hid hcA
      replace hcB := Lib.hid hcB
      clear hcw hgx hcp hgw1 hrg1 hlt1 hrg hat hlx hgw
      by_cases hv0 : v.size = 0
      · have HT := Lib.hid (hT.out.take H1.out.1 H1.out.2.1 (.inl hv0))
        rw [decide_eq_true hv0] at hes
        clear hv0
        go_wp2_with (go_at_call 59; refine (hcA.out _).mono ?_; rintro e w' ⟨rfl, rfl⟩)
        go_roundw
        case rel => exact ⟨x', c, _, cnt1, rfl, rfl, H1.out.2.2.2.1.alloc _, H1.out.2.2.1.andThen (World.grownBy_alloc _ _ none) (fun j hj => by cases hj), HT.out⟩
        case measure => rw [(H1.out.2.2.2.1.alloc _).left_eq, H1.out.2.2.2.2.2.left_eq]; exact H1.out.2.2.2.2.1
      · have hv1 : 1 ≤ v.size := by omega
        rw [decide_eq_false hv0] at hes
        by_cases hlt0 : o < 0
        · have HT := Lib.hid (hT.out.take H1.out.1 H1.out.2.1 (.inr (ho2.out (by omega))))
          clear hv0 hv1
          go_wp2_with (go_at_call 59; refine (hcA.out _).mono ?_; rintro e w' ⟨rfl, rfl⟩)
          go_roundw
          case rel => exact ⟨x', c, _, cnt1, rfl, rfl, H1.out.2.2.2.1.alloc _, H1.out.2.2.1.andThen (World.grownBy_alloc _ _ none) (fun j hj => by cases hj), HT.out⟩
          case measure => rw [(H1.out.2.2.2.1.alloc _).left_eq, H1.out.2.2.2.2.2.left_eq]; exact H1.out.2.2.2.2.1
        · have HS := Lib.hid (hT.out.stay H1.out.1 hv1 (ho1.out hlt0))
          by_cases hz : o = 0
          · have HT := Lib.hid (hT.out.take H1.out.1 H1.out.2.1 (.inr (ho2.out (by omega))))
            subst hz
            clear hv0 hv1 hlt0
            by_cases hq : o2 < 0
            · go_wp2_with fail
              refine (hcA.out _).mono ?_
              rintro e w' ⟨rfl, rfl⟩
              go_wp2_with fail
              refine (hcB.out _).mono ?_
              rintro e w' ⟨rfl, rfl⟩
              go_wp2
              go_roundw
              case rel => exact ⟨x', c, _, cnt1, rfl, rfl, (H1.out.2.2.2.1.alloc _).alloc _, (H1.out.2.2.1.andThen (World.grownBy_alloc _ _ none) (fun j hj => by cases hj)).andThen (World.grownBy_alloc _ _ none) (fun j hj => by cases hj), HT.out⟩
              case measure => rw [((H1.out.2.2.2.1.alloc _).alloc _).left_eq, H1.out.2.2.2.2.2.left_eq]; exact H1.out.2.2.2.2.1
            · go_wp2_with fail
              refine (hcA.out _).mono ?_
              rintro e w' ⟨rfl, rfl⟩
              go_wp2_with fail
              refine (hcB.out _).mono ?_
              rintro e w' ⟨rfl, rfl⟩
              go_wp2
              go_roundw
              case rel => exact ⟨x, v, _, cnt1, rfl, rfl, (H1.out.2.2.2.1.alloc _).alloc _, (H1.out.2.2.1.andThen (World.grownBy_alloc _ _ none) (fun j hj => by cases hj)).andThen (World.grownBy_alloc _ _ none) (fun j hj => by cases hj), HS.out⟩
              case measure => rw [((H1.out.2.2.2.1.alloc _).alloc _).left_eq, H1.out.2.2.2.2.2.left_eq]; exact H1.out.2.2.2.2.1
          · clear hv0 hv1
            go_wp2_with (go_at_call 59; refine (hcA.out _).mono ?_; rintro e w' ⟨rfl, rfl⟩)
            go_roundw
            case rel => exact ⟨x, v, _, cnt1, rfl, rfl, H1.out.2.2.2.1.alloc _, H1.out.2.2.1.andThen (World.grownBy_alloc _ _ none) (fun j hj => by cases hj), HS.out⟩
            case measure => rw [(H1.out.2.2.2.1.alloc _).left_eq, H1.out.2.2.2.2.2.left_eq]; exact H1.out.2.2.2.2.1

end Go.Proofs.YtjopbmhldpcpdaaGreatDoor
