/-
  WHAT THIS FILE PROVES: the first readings of a text, in order: the specification's function hands back a slice of slices of its own that reads as the beginning of the plain list; asked: a set in memory, a text of at most 60 letters, a number from 1 to 100.
-/
import Derived.Test.YtbdhgeefeelflaaGreatDoorCounts
import Derived.Test.YtbdhgeefeelflaaGreatDoorReads
import Derived.Test.YtbdhgeefeelflaaGreatDoorSSI
import Derived.Test.YtbdhgeefeelflaaGreatDoorAppend
import Derived.Maps.AppendAt
namespace Go.Proofs.YtbdhgeefeelflaaGreatDoor
open Go.RowKit Go.Shelf

theorem infoInts : (Tryz.prog.info? 31).map (fun i => (i.zero, i.size, i.bytes)) = some (some (.slice none 0 0), 1, 24) := by kernel_rfl
theorem one_slice (A : Option Addr) (n c : Nat) : ∀ u ∈ [Value.slice A n c], u.oneCell' = true := fun u hu => by
  simp only [List.mem_cons, List.mem_nil_iff, or_false] at hu
  subst hu
  rfl
theorem ints_cells (xs : List Int) : ∀ u ∈ ints xs, u.oneCell' = true := fun u hu => by
  unfold ints at hu
  obtain ⟨x, _, rfl⟩ := List.mem_map.1 hu
  rfl
theorem cells_one (w : World) (v : Value) (t : TypeId) : ∀ (j : Nat) u, [v][j]? = some u → (w.alloc (.cells #[v] t)).cell? ((⟨w.heap.size, 0, none⟩ : Addr).add j) = some u := fun j u hu => by
  obtain rfl : j = 0 := by have := (List.getElem?_eq_some_iff.1 hu).1; simpa using this
  simp only [List.getElem?_cons_zero, Option.some.injEq] at hu
  subst hu
  rw [show (⟨w.heap.size, 0, none⟩ : Addr).add 0 = ⟨w.heap.size, 0, none⟩ from rfl, World.cell?_alloc_at _ _ _ _ rfl]
  rfl
theorem intss_append (xss yss : List (List Int)) : intss (xss ++ yss) = intss xss ++ intss yss := by simp [intss]

/-- one reading of nothing -/
theorem one_nil (w : World) : OwnSS (w.alloc (.cells #[.slice none 0 0] 31)) w.heap.size 31 3 (.slice (some ⟨w.heap.size, 0, none⟩) 1 1) (intss [[]]) := by
  refine ⟨[.slice none 0 0], ⟨World.ownsRow_lit w #[.slice none 0 0] 1 (Nat.le_refl _) (by unfold maxLen; omega) rfl, fun i xs h => ?_, fun i j u u' hij h h' => ?_⟩⟩
  · obtain rfl : i = 0 := by have := (List.getElem?_eq_some_iff.1 h).1; simpa [intss] using this
    simp [intss, ints] at h
    subst h
    exact ⟨none, 0, rfl, World.ownsRow_nil _ _ _ _⟩
  · have h1 := (List.getElem?_eq_some_iff.1 h).1
    have h2 := (List.getElem?_eq_some_iff.1 h').1
    simp at h1 h2
    omega

set_option maxHeartbeats 3200000 in
theorem spec_dcReadings (A : Option Addr) (ss : List ByteArray) (c : Nat) (hset : W.isSet ss = true) : ∀ (n : Nat) (s : ByteArray) (most : Nat) (w : World), s.size = n → Row w w.heap.size A (strs ss) → n ≤ 60 → 1 ≤ most → most ≤ 100 →
    Calls Tryz.prog 14 #[.slice A ss.length c, .string s, .int .i64 most] w (GivesSS 31 3 w (intss ((W.reads ss s.data.toList).take most))) := by
  intro n
  induction n using Nat.strongRecOn with
  | ind n ih =>
    intro s most w hn h h60 hm1 hm2
    by_cases h0 : n = 0
    · have hs0 : s.toList = [] := by
        have : s.data.toList.length = 0 := by rw [← Lib.size_eq]; omega
        rw [Lib.toList_data]
        exact List.eq_nil_of_length_eq_zero this
      have hv : (W.reads ss s.data.toList).take most = [[]] := by
        rw [show s.data.toList = [] by rw [← Lib.toList_data]; exact hs0, W.reads_nil]
        exact List.take_of_length_le (by simp; omega)
      rw [hv]
      have hs1 : s.toList.isEmpty = true := by rw [hs0]; rfl
      have H1 := Lib.hid (one_nil w)
      clear hv ih
      go_enter Tryz.func14, Tryz.ntmps14
      go_wp2_with fail
      go_ret
      exact givesSS_of H1.out rfl ((Below.refl _ _).alloc (Nat.le_refl _) _)
    · have hs1 : s.toList.isEmpty = false := by
        rw [Lib.toList_data]
        have : s.data.toList.length ≠ 0 := by rw [← Lib.size_eq]; omega
        cases hd : s.data.toList with
        | nil => rw [hd] at this; simp at this
        | cons a r => rfl
      have Hne := Lib.hid (show s.data.toList ≠ [] by intro e; rw [Lib.toList_data, e] at hs1; simp at hs1)
      have h12 := W.isSet_len ss hset
      have Hset := Lib.hid hset
      replace ih := Lib.hid ih
      replace h := Lib.hid h
      obtain ⟨i0, hi, hz0, hz1, hz2⟩ := info_parts infoInts
      have HR := Lib.hid (And.intro hi (And.intro hz0 (And.intro hz1 hz2)))
      obtain ⟨i1, hi', hz0', hz1', hz2'⟩ := info_parts infoInt
      have HI := Lib.hid (And.intro hi' (And.intro hz0' (And.intro hz1' hz2')))
      clear hi hz0 hz1 hz2 hi' hz0' hz1' hz2'
      have Hlen := Lib.hid (W.reads_len (set := ss) (fun k hk => W.set_pos Hset.out k hk))
      replace hn := Lib.hid hn
      go_enter Tryz.func14, Tryz.ntmps14
      go_wp2_with fail
      go_loopw [7, 17] (fun v i wr => ∃ k : Nat, k ≤ ss.length ∧ i = .int .i64 k ∧ OwnSS wr w.heap.size 31 3 v (intss (W.rpart ss s.data.toList k)) ∧ (W.rpart ss s.data.toList k).length < most ∧ Below w.heap.size w wr)
        (fun _ i _ => ss.length - (intOf i).toNat)
      case atStart => exact ⟨0, Nat.zero_le _, rfl, ⟨[], ownAt_nil _ _ _ _⟩, by rw [W.rpart_zero]; exact hm1, Below.refl _ _⟩
      case round =>
        obtain ⟨k, hk, rfl, ho, hlm, hB⟩ := hrel
        obtain ⟨Av, cv, rfl⟩ := ownSS_slice ho
        rw [intss_length] at ho ⊢
        have hO := Lib.hid (And.intro ho hB)
        clear ho hB
        by_cases hlt : k < ss.length
        · obtain ⟨b, off, rfl, hb, hcc⟩ := h.out (by rw [strs_length]; omega)
          have hlt' : (k : Int) < (ss.length : Int) := by omega
          have c1 := (hO.out.2.cell (p := ⟨b, off + k, none⟩) hb).trans (hcc k _ (strs_nth ss k hlt))
          clear hcc
          have hpos := W.set_pos Hset.out k hlt
          have hsz8 := (W.short_size _ (W.isSet_short ss Hset.out k hlt)).2
          have Hno := Lib.hid (W.rpart_no ss s.data.toList k)
          have Hyes := Lib.hid (W.rpart_yes ss s.data.toList k hpos)
          have hc := fun (V : World) => spec_wdBegins s (W.nth ss k) V
          generalize W.nth ss k = t at c1 hpos hsz8 Hno Hyes hc
          cases hp : Lib.hasPrefix s.data.toList t.data.toList
          · rw [hp] at hc
            have HN := Lib.hid (Hno.out hp)
            clear Hno Hyes hp
            replace hc := Lib.hid hc
            go_wp2_with (go_at_call 29; refine (hc.out _).mono ?_; rintro e w' ⟨rfl, rfl⟩)
            go_roundw
            case rel => exact ⟨k + 1, by omega, by go_num, by rw [HN.out]; exact hO.out.1, by rw [HN.out]; exact hlm, hO.out.2⟩
            case measure => simp [intOf]; omega
          · rw [hp] at hc
            have HY := Lib.hid (Hyes.out hp)
            have hts : t.size ≤ s.size := by have := Lib.hasPrefix_le hp; rwa [← Lib.size_eq, ← Lib.size_eq] at this
            have hts' : (t.size : Int) ≤ (s.size : Int) := by omega
            clear Hno Hyes hp
            replace hc := Lib.hid hc
            have Hx := Lib.hid (extract_tail s t.size)
            have hxs : (s.extract t.size s.size).size = s.size - t.size := by rw [Lib.size_eq, Hx.out, List.length_drop, ← Lib.size_eq]
            have hd := fun (V : World) hr => spec_dcCount (some ⟨b, off, none⟩) ss c (s.extract t.size s.size) V hr Hset.out (by have := hn.out; omega)
            rw [Hx.out] at hd
            have hrd := fun (m : Nat) (V : World) hr h1 h2 => ih.out (s.extract t.size s.size).size (by have := hn.out; omega) (s.extract t.size s.size) m V rfl hr (by have := hn.out; omega) h1 h2
            rw [Hx.out] at hrd
            have Hrl := Lib.hid (fun r hr => Hlen.out _ (s.data.toList.drop t.size) rfl r hr)
            have Hwl := Lib.hid (W.reads_length ss (s.data.toList.drop t.size))
            have Htf := Lib.hid (W.take_full ss s.data.toList (k + 1) most (by omega) Hne.out)
            have hrow := (h.out.below hO.out.2).more hO.out.2.size
            replace hxs := Lib.hid hxs
            replace hd := Lib.hid hd
            replace hrd := Lib.hid hrd
            replace hrow := Lib.hid hrow
            by_cases hw0 : W.ways ss (s.data.toList.drop t.size) = 0
            · have HN : Hid (W.rpart ss s.data.toList (k + 1) = W.rpart ss s.data.toList k) := by
                show W.rpart ss s.data.toList (k + 1) = _
                rw [HY.out, List.eq_nil_of_length_eq_zero (Hwl.out.trans hw0)]
                simp
              have hd0 := fun V hr => hd.out V hr
              rw [hw0] at hd0
              replace hd0 := Lib.hid hd0
              clear hw0
              go_wp2_with (first | (go_at_call 29; refine (hc.out _).mono ?_; rintro e w' ⟨rfl, rfl⟩) | (go_at_call 30; refine (hd0.out _ hrow.out).mono ?_; rintro e w1 ⟨rfl, hB1⟩))
              go_roundw
              case rel => exact ⟨k + 1, by omega, by go_num, by rw [HN.out]; exact ownSS_below hO.out.1 hB1, by rw [HN.out]; exact hlm, hO.out.2.trans (hB1.mono hO.out.2.size)⟩
              case measure => simp [intOf]; omega
            · have Hw0 := Lib.hid (show ((W.ways ss (s.data.toList.drop t.size) : Nat) : Int) ≠ 0 by omega)
              have hw1 : ((((W.ways ss (s.data.toList.drop t.size) : Nat) : Int)) == 0) = false := by simpa using hw0
              clear hw0
              have hmo : ((most : Int) - ((W.rpart ss s.data.toList k).length : Int)) = ((most - (W.rpart ss s.data.toList k).length : Nat) : Int) := by omega
              generalize ((W.ways ss (s.data.toList.drop t.size) : Nat) : Int) = wy at hd hw1 Hw0
              have hlm' : ((W.rpart ss s.data.toList k).length : Int) < (most : Int) := by omega
              replace hmo := Lib.hid hmo
              go_wp2_with fail
              refine (hc.out _).mono ?_
              rintro e w' ⟨rfl, rfl⟩
              go_wp2_with fail
              refine (hd.out _ hrow.out).mono ?_
              rintro e w1 ⟨rfl, hB1⟩
              have hO1 := Lib.hid (And.intro (ownSS_below hO.out.1 hB1) (hO.out.2.trans (hB1.mono hO.out.2.size)))
              have hrow1 := Lib.hid ((h.out.below hO1.out.2).more hO1.out.2.size)
              clear hB1
              go_wp2_with fail
              rw [hmo.out]
              refine (hrd.out _ w1 hrow1.out (by omega) (by omega)).mono ?_
              rintro e w2 ⟨Ar, cr, rfl, hr, hB2⟩
              have hO2 := Lib.hid (And.intro (ownSS_below hO1.out.1 hB2) (hO1.out.2.trans (hB2.mono hO1.out.2.size)))
              have Hal : Hid (∀ r ∈ (W.reads ss (s.data.toList.drop t.size)).take (most - (W.rpart ss s.data.toList k).length), r.length ≤ 60) := fun r hr => by
                have := Hrl.out r (List.mem_of_mem_take hr)
                rw [List.length_drop, ← Lib.size_eq] at this
                have := hn.out
                omega
              have Htl := Lib.hid (List.length_take_le (most - (W.rpart ss s.data.toList k).length) (W.reads ss (s.data.toList.drop t.size)))
              have Hend : Hid (∀ rs, rs = (W.reads ss (s.data.toList.drop t.size)).take (most - (W.rpart ss s.data.toList k).length) →
                  (W.rpart ss s.data.toList k ++ rs.map fun r => (k : Int) :: r) = (W.rpart ss s.data.toList (k + 1)).take most) := fun rs e => by
                rw [HY.out, List.take_append, List.take_of_length_le (by omega), ← List.map_take, e]
              have hsep : Hid ((Value.slice Ar ((W.reads ss (s.data.toList.drop t.size)).take (most - (W.rpart ss s.data.toList k).length)).length cr).ownBlock = none ∨ (Value.slice Ar ((W.reads ss (s.data.toList.drop t.size)).take (most - (W.rpart ss s.data.toList k).length)).length cr).ownBlock ≠ (Value.slice Av (W.rpart ss s.data.toList k).length cv).ownBlock) := by
                show _ ∨ _
                rw [intss_length] at hr
                cases hb : (Value.slice Ar ((W.reads ss (s.data.toList.drop t.size)).take (most - (W.rpart ss s.data.toList k).length)).length cr).ownBlock with
                | none => exact .inl rfl
                | some g =>
                  right
                  intro e
                  have h1 := (hr.lt g hb).1
                  have h2 := (hO1.out.1.lt g e.symm).2
                  omega
              rw [intss_length] at hr
              rw [intss_length]
              have hR := Lib.hid hr
              have HB2s := Lib.hid hB2
              clear hr hB2
              generalize hrs : (W.reads ss (s.data.toList.drop t.size)).take (most - (W.rpart ss s.data.toList k).length) = rs at hR Hal Htl hsep ⊢
              have HE := Lib.hid (Hend.out rs hrs.symm)
              clear hrs Hend
              have hm60 : rs.length ≤ most - (W.rpart ss s.data.toList k).length := Htl.out
              have hO1s := hO1.out.2.size
              generalize hacc : W.rpart ss s.data.toList k = acc at hO2 HE hlm hlm' hm60 hsep ⊢
              have Hacc := Lib.hid hacc
              clear hacc hO hO1 hrd hd Hwl Htl hrow hrow1 ih
              go_wp2_with fail
              go_loopw [7, 46] (fun v i wr => ∃ j : Nat, j ≤ rs.length ∧ i = .int .i64 j ∧ OwnSS wr w.heap.size 31 3 v (intss (acc ++ (rs.take j).map fun r => (k : Int) :: r)) ∧
                  OwnSS wr w1.heap.size 31 3 (.slice Ar rs.length cr) (intss rs) ∧ ((Value.slice Ar rs.length cr).ownBlock = none ∨ (Value.slice Ar rs.length cr).ownBlock ≠ v.ownBlock) ∧ Below w.heap.size w wr) (fun _ i _ => rs.length - (intOf i).toNat)
              case atStart => exact ⟨0, Nat.zero_le _, rfl, by simpa using hO2.out.1, hR.out, hsep.out, hO2.out.2⟩
              case round =>
                obtain ⟨j, hj, rfl, ho, hr, hs, hB⟩ := hrel
                clear hO2 hR hsep
                obtain ⟨Aw, cw, rfl⟩ := ownSS_slice ho
                have hlj0 : (acc ++ (rs.take j).map fun r => (k : Int) :: r).length = acc.length + j := by rw [List.length_append, List.length_map, List.length_take]; omega
                rw [intss_length, hlj0] at ho hs ⊢
                replace hlj0 := Lib.hid hlj0
                have hO := Lib.hid (And.intro ho (And.intro hr (And.intro hs hB)))
                clear ho hr hs hB
                by_cases hlj : j < rs.length
                · have hlj' : (j : Int) < (rs.length : Int) := by omega
                  have hmx : (((acc.length + j : Nat) : Int)) < (most : Int) := by omega
                  obtain ⟨us, hR⟩ := hO.out.2.1
                  obtain ⟨gr, rfl, hbr, hlr⟩ := own_form (by have := hR.own; rw [intss_length] at this; exact this) (show 0 < rs.length by omega)
                  obtain ⟨Aj, cj, hv, hrj⟩ := hR.inner j _ (intss_at rs j hlj)
                  have c2 : wr.cell? ⟨gr, j, none⟩ = some (.slice Aj (rs[j]).length cj) := by
                    have := hR.own
                    rw [intss_length] at this
                    rw [this.cellAt j (by omega), hv, ints_length]
                  rw [ints_length] at hrj
                  have hl60 := Hal.out rs[j] (List.getElem_mem hlj)
                  have hrj2 := Lib.hid hrj
                  have Hsuc : Hid (acc ++ (rs.take (j + 1)).map (fun r => (k : Int) :: r) = (acc ++ (rs.take j).map fun r => (k : Int) :: r) ++ [(k : Int) :: rs[j]]) := by
                    show acc ++ (rs.take (j + 1)).map (fun r => (k : Int) :: r) = _
                    rw [List.take_succ_eq_append_getElem hlj, List.map_append, List.append_assoc]
                    rfl
                  have hR0 := Lib.hid hR
                  clear hv hrj hR
                  generalize rs[j] = xs at c2 hl60 hrj2 Hsuc
                  have hxl : xs.length ≤ 60 := hl60
                  have hX0 := Lib.hid (World.ownsRow_lit (base := wr.heap.size) (e := 3) (size := 1) wr #[.int .i64 (k : Int)] 1 (Nat.le_refl _) (by unfold maxLen; omega) rfl)
                  have hRr := Lib.hid ((Row.of_own hrj2.out).below ((Below.refl wr.heap.size wr).alloc (Nat.le_refl _) (.cells #[.int .i64 (k : Int)] 3)))
                  go_wp2_with (at_builtin; refine wpList_append_row _ rfl _ _ 31 rfl wr.heap.size 3 i1 (.int .i64 0) 8 Tryz.underlying31 HI.out.1 HI.out.2.1 HI.out.2.2.1 HI.out.2.2.2 rfl (.slice (some ⟨wr.heap.size, 0, none⟩) 1 1) 1 _ rfl hX0.out wr.heap.size Aj cj (ints xs) (by rw [ints_length]; rfl) hRr.out (ints_cells xs) (by rw [ints_length]; unfold maxLen; omega) (by rw [ints_length]; omega) (by simp) ?_)
                  intro v2 w3 ho2 hg2
                  have hB3 : Below wr.heap.size wr w3 := ((Below.refl wr.heap.size wr).alloc (Nat.le_refl _) _).grown hg2 (by simp) (fun g hg => by simp [Value.ownBlock] at hg; omega)
                  rw [ints_length, show 1 + xs.length = ((k : Int) :: xs).length by rw [List.length_cons]; omega, show (Value.int IntKind.i64 (k : Int) :: ints xs) = ints ((k : Int) :: xs) from rfl] at ho2
                  obtain ⟨A2, c2', rfl⟩ := own_slice ho2
                  obtain ⟨vs, hV⟩ := hO.out.1
                  have hsep3 := Lib.hid (show ∀ u ∈ vs, u.ownBlock = none ∨ u.ownBlock ≠ (Value.slice A2 (ints ((k : Int) :: xs)).length c2').ownBlock from fun u hu => by
                    rw [ints_length]
                    cases hb : u.ownBlock with
                    | none => exact .inl rfl
                    | some g =>
                      right
                      intro e
                      have h1 := (hV.lt u hu g hb).2
                      have h2 := (ho2.lt g e.symm).1
                      omega)
                  have hszr := hO.out.2.2.2.size
                  have hsz3 := hB3.size
                  have hV3 := (hV.below hB3).below ((Below.refl w3.heap.size w3).alloc (Nat.le_refl _) (.cells #[.slice A2 ((k : Int) :: xs).length c2'] 31))
                  have hX3 := own_base (own_below ho2 ((Below.refl w3.heap.size w3).alloc (Nat.le_refl _) (.cells #[.slice A2 ((k : Int) :: xs).length c2'] 31))) hszr
                  have hR3 := ownSS_below (ownSS_below ⟨us, hR0.out⟩ hB3) ((Below.refl w3.heap.size w3).alloc (Nat.le_refl _) (.cells #[.slice A2 ((k : Int) :: xs).length c2'] 31))
                  have hB4 := (hO.out.2.2.2.trans (hB3.mono hszr)).alloc (by omega) (.cells #[.slice A2 ((k : Int) :: xs).length c2'] 31)
                  have hown4 := hV3.own
                  rw [intss_length, hlj0.out] at hown4
                  have H4 := Lib.hid (And.intro hV3 (And.intro hX3 (And.intro hR3 hB4)))
                  have HW4 := Lib.hid hown4
                  have hA100 : acc.length + j + 1 ≤ 100 := by omega
                  clear hV3 hX3 hR3 hB4 hown4 ho2 hg2 hB3 hV
                  go_wp2_with (at_builtin; refine wpList_append_own_at _ rfl _ _ 29 rfl w.heap.size 31 i0 (.slice none 0 0) 1 24 Tryz.underlying29 HR.out.1 HR.out.2.1 HR.out.2.2.1 HR.out.2.2.2 rfl (by decide) (.slice Aw (acc.length + j) cw) (acc.length + j) vs rfl HW4.out ⟨w3.heap.size, 0, none⟩ 1 1 [.slice A2 ((k : Int) :: xs).length c2'] rfl rfl (cells_one _ _ _) (one_slice _ _ _) (by unfold maxLen; omega) (by omega) (by simp; omega) ?_)
                  intro v5 w5 ho5 hg5 _ hat5
                  have hne5 : (Value.slice (some ⟨gr, 0, none⟩) rs.length cr).ownBlock = none ∨ (Value.slice (some ⟨gr, 0, none⟩) rs.length cr).ownBlock ≠ v5.ownBlock := by
                    rcases hat5 with e | e
                    · rw [e]; exact hO.out.2.2.1
                    · right
                      rw [e]
                      intro e2
                      simp [Value.ownBlock] at e2
                      omega
                  have hP5 := OwnAt.push (by decide) H4.out.1 (v' := v5) (by rw [ints_length]; exact H4.out.2.1) hsep3.out (by rw [intss_length, hlj0.out, ints_length]; exact ho5) hg5
                  have hR5 := OwnSS.kept_other (by decide) H4.out.2.2.1 HW4.out hO.out.2.2.1 hg5
                  have hB5 := H4.out.2.2.2.grown hg5 (by simp; omega) (fun g hg => (HW4.out.lt g hg).1)
                  have hF5 := Lib.hid (And.intro hP5 (And.intro hR5 (And.intro hne5 hB5)))
                  clear hP5 hR5 hB5 hne5 hat5 ho5 hg5
                  go_wp2
                  go_roundw
                  case rel => exact ⟨j + 1, by omega, by go_num, by rw [Hsuc.out, intss_snoc]; exact ⟨_, hF5.out.1⟩, hF5.out.2.1, hF5.out.2.2.1, hF5.out.2.2.2⟩
                  case measure => simp [intOf]; omega
                · obtain rfl : j = rs.length := by omega
                  have hL := congrArg List.length HE.out
                  rw [List.length_append, List.length_map, List.length_take] at hL
                  have hO3 := hO.out
                  rw [List.take_length, HE.out] at hO3
                  replace hO3 := Lib.hid hO3
                  by_cases hfull : acc.length + rs.length = most
                  · have hfi : (((acc.length + rs.length : Nat) : Int) == (most : Int)) = true := by rw [hfull]; exact beq_self_eq_true _
                    have HT := Lib.hid (Htf.out (by omega))
                    clear hfull hL
                    go_wp2_with fail
                    go_ret
                    have := hO3.out.1
                    rw [HT.out] at this
                    exact givesSS_of this rfl hO3.out.2.2.2
                  · have hfi : (((acc.length + rs.length : Nat) : Int) == (most : Int)) = false := beq_eq_false_iff_ne.2 (fun e => hfull (by omega))
                    have hlt5 : (W.rpart ss s.data.toList (k + 1)).length < most := by omega
                    have HT := Lib.hid (List.take_of_length_le (l := W.rpart ss s.data.toList (k + 1)) (i := most) (by omega))
                    clear hfull hL
                    go_wp2_with fail
                    go_roundw
                    case rel => exact ⟨k + 1, by omega, by go_num, by have := hO3.out.1; rw [HT.out] at this; exact this, hlt5, hO3.out.2.2.2⟩
                    case measure => simp [intOf]; omega
        · obtain rfl : k = ss.length := by omega
          have hO3 := hO.out
          rw [W.reads_all ss _ Hne.out] at hO3
          rw [W.reads_all ss _ Hne.out] at hlm ⊢
          have HT := Lib.hid (List.take_of_length_le (l := W.reads ss s.data.toList) (i := most) (by omega))
          replace hO3 := Lib.hid hO3
          clear hO
          go_wp2
          go_ret
          rw [HT.out]
          exact givesSS_of hO3.out.1 rfl hO3.out.2

end Go.Proofs.YtbdhgeefeelflaaGreatDoor
