/-
  The walk of daylaw3.LedgerOrder.
-/
import Derived.Test.YtcamimjjmcdbcaaLoN
namespace Go.Proofs.Ytcamimjjmcdbcaa
set_option linter.unusedVariables false
set_option linter.unusedSimpArgs false
set_option maxRecDepth 100000
open Go.RowKit Go.Lib
set_option maxHeartbeats 16000000 in
theorem lorder_walk (a1 a2 a3 : Option Addr) (c1 c2 c3 : Nat) (a b c : List Bl) (w : World) (ha : IsBl w a1 a c1) (hb : IsBl w a2 b c2) (hc : IsBl w a3 c c3) (la : a.length ≤ 9223372036854775807) (lb : b.length ≤ 9223372036854775807) (lc : c.length ≤ 9223372036854775807) (oka : ∀ x ∈ a, BlOk x) (okb : ∀ x ∈ b, BlOk x) (okc : ∀ x ∈ c, BlOk x) :
    Calls Try.prog 3 #[.slice a1 a.length c1, .slice a2 b.length c2, .slice a3 c.length c3] w fun e w' => e = .returned (.bool true) ∧ Below w.heap.size w w' := by
  have HI : Hid (IsBl w a1 a c1 ∧ IsBl w a2 b c2 ∧ IsBl w a3 c c3 ∧ (∀ x ∈ a, BlOk x) ∧ (∀ x ∈ b, BlOk x) ∧ (∀ x ∈ c, BlOk x)) := ⟨ha, hb, hc, oka, okb, okc⟩
  have HL : Hid (a.length ≤ 9223372036854775807 ∧ b.length ≤ 9223372036854775807 ∧ c.length ≤ 9223372036854775807) := ⟨la, lb, lc⟩
  obtain ⟨V, hV⟩ : ∃ V, (w.alloc (.cells (lo2 2).cells 28)).alloc (.cells (lo2 3).cells 28) = V := ⟨_, rfl⟩
  have hbV : Below w.heap.size w V := by rw [← hV]; exact ((Below.refl _ w).alloc (Nat.le_refl _) _).alloc (by simp) _
  have e0 : V.heap[w.heap.size]? = some (.cells (lo2 2).cells 28 (0, 0)) := by
    rw [← hV]
    exact ((World.grownBy_alloc _ _ none).block _ (by simp) (by simp)).trans (ld_new_heap w _)
  have e1 : V.heap[w.heap.size + 1]? = some (.cells (lo2 3).cells 28 (0, 0)) := by
    rw [← hV]
    have := ld_new_heap (w.alloc (.cells (lo2 2).cells 28)) (.cells (lo2 3).cells 28)
    simpa using this
  have HM0 : Hid (Calls Try.prog 5 #[.slice (some ⟨w.heap.size, 0, none⟩) 1 1, .slice (some ⟨w.heap.size + 1, 0, none⟩) 1 1] V fun e w' => ∃ bx ox sc, e = .returned (.tuple #[.slice (some ⟨bx, ox, none⟩) 1 sc, .nilIface]) ∧ w'.cell? ⟨bx, ox + 3, none⟩ = some (.int .i64 5) ∧ Hid (Below w.heap.size w w')) := by
    refine (merge_ok _ _ 1 1 [lo2 2] [lo2 3] V (isBl_new e0) (isBl_new e1) (lo_ok 2 (by omega)) (lo_ok 3 (by omega)) lo_mg).mono ?_
    rintro e w' ⟨sa, sc, R, rfl, hR⟩
    obtain ⟨h1, h2, h3⟩ := hR.out
    have e5 := lo_eq h3
    subst e5
    obtain ⟨bx, ox, rfl, _, hc⟩ := h2.some (k := 0) (by simp)
    have := (hc 0 (by simp)).c3
    simp only [List.getD_cons_zero, Nat.zero_mul, Nat.add_zero] at this
    exact ⟨bx, ox, sc, rfl, this, hbV.trans (h1.mono hbV.size)⟩
  have HV : Hid ((w.alloc (.cells #[.int .i64 1, .string ⟨#[49]⟩, .string ⟨#[69, 85, 82]⟩, .int .i64 2] 28)).alloc (.cells #[.int .i64 1, .string ⟨#[49]⟩, .string ⟨#[69, 85, 82]⟩, .int .i64 3] 28) = V) := hV
  obtain ⟨na, hna⟩ : ∃ na, a.length = na := ⟨_, rfl⟩
  obtain ⟨nb, hnb⟩ : ∃ nb, b.length = nb := ⟨_, rfl⟩
  obtain ⟨nc, hnc⟩ : ∃ nc, c.length = nc := ⟨_, rfl⟩
  have HN : Hid (a.length = na ∧ b.length = nb ∧ c.length = nc) := ⟨hna, hnb, hnc⟩
  have HMerge : Hid (∀ U, Below w.heap.size w U → Calls Try.prog 5 #[.slice a1 na c1, .slice a2 nb c2] U fun e w' => (mgE a b ≠ 0 ∧ e = .returned (.tuple #[.slice none 0 0, .iface 48 (.int .i64 (mgE a b))]) ∧ Below U.heap.size U w') ∨ (mgE a b = 0 ∧ ∃ sa sc R, e = .returned (.tuple #[.slice sa R.length sc, .nilIface]) ∧ Hid (Below U.heap.size U w' ∧ IsBl w' sa R sc ∧ MgR a b R))) := fun U hU => by
    rw [← hna, ← hnb]
    by_cases h : mgE a b = 0
    · exact (merge_ok a1 a2 c1 c2 a b U (ha.below hU) (hb.below hU) oka okb h).mono (fun e w' hh => .inr ⟨h, hh⟩)
    · exact (merge_bad a1 a2 c1 c2 a b U (ha.below hU) (hb.below hU) la lb oka okb h).mono (fun e w' hh => .inl ⟨h, hh⟩)
  have HMerge2 : Hid (∀ U, Below w.heap.size w U → mgE b a ≠ 0 → Calls Try.prog 5 #[.slice a2 nb c2, .slice a1 na c1] U fun e w' => e = .returned (.tuple #[.slice none 0 0, .iface 48 (.int .i64 (mgE b a))]) ∧ Below U.heap.size U w') := fun U hU h => by
    rw [← hna, ← hnb]
    exact merge_bad a2 a1 c2 c1 b a U (hb.below hU) (ha.below hU) lb la okb oka h
  have HMerge3 : Hid (∀ U, Below w.heap.size w U → mgE b a = 0 → Calls Try.prog 5 #[.slice a2 nb c2, .slice a1 na c1] U fun e w' => ∃ sa sc R, e = .returned (.tuple #[.slice sa R.length sc, .nilIface]) ∧ Hid (Below U.heap.size U w' ∧ IsBl w' sa R sc ∧ MgR b a R)) := fun U hU h => by
    rw [← hna, ← hnb]
    exact merge_ok a2 a1 c2 c1 b a U (hb.below hU) (ha.below hU) okb oka h
  rw [hna, hnb, hnc]
  clear ha hb hc la lb lc oka okb okc hbV e0 e1 hV hna hnb hnc
  go_enter Try.func3, Try.ntmps3
  go_wp2_with (go_at_call 5; rw [HV.out]; refine HM0.out.mono ?_; rintro e w1 ⟨bx, ox, sc0, rfl, hf5, hB1⟩)
  have HX1 : Hid (Calls _ _ _ w1 _) := HMerge.out w1 hB1.out
  clear HMerge HM0 HV
  refine HX1.out.mono ?_
  rintro e w2 (⟨hne, rfl, hB2⟩ | ⟨h0, sx, cx, X, rfl, hX⟩)
  · have hne2 : mgE b a ≠ 0 := fun h => hne (mg_comm h)
    have HB2 : Hid (Below w.heap.size w w2) := hB1.out.trans (hB2.mono hB1.out.size)
    have HX2 : Hid (Calls _ _ _ w2 _) := HMerge2.out w2 HB2.out hne2
    clear HMerge2 HMerge3 HX1 hB2 hne hne2
    generalize mgE a b = m1 at *
    generalize mgE b a = m2 at *
    go_wp2_with fail
    refine HX2.out.mono ?_
    rintro e w3 ⟨rfl, hB3⟩
    have HB3 : Hid (Below w.heap.size w w3) := HB2.out.trans (hB3.mono HB2.out.size)
    clear HX2 hB3
    go_wp2_with fail
    go_quiet (fail)
    go_wp2
    go_ret
    exact ⟨rfl, en_drewN HB3.out _⟩
  · obtain ⟨fa, fb, _⟩ := mgE_zero.1 h0
    have HFn : Hid (Fine a ∧ Fine b) := ⟨fa, fb⟩
    have HB2 : Hid (Below w.heap.size w w2) := hB1.out.trans (hX.out.1.mono hB1.out.size)
    have HX2 : Hid (Calls _ _ _ w2 _) := HMerge3.out w2 HB2.out (mg_comm h0)
    clear HMerge2 HMerge3 HX1 fa fb h0
    go_wp2_with fail
    refine HX2.out.mono ?_
    rintro e w3 ⟨sy, cy, Y, rfl, hY⟩
    have hXY := mg_comm_eq hX.out.2.2 hY.out.2.2
    subst hXY
    have HB3 : Hid (Below w.heap.size w w3) := HB2.out.trans (hY.out.1.mono HB2.out.size)
    have HXX : Hid (MgR a b X ∧ IsBl w3 sx X cx) := ⟨hX.out.2.2, hX.out.2.1.below hY.out.1⟩
    have HX3 : Hid (Calls _ _ _ w3 _) := sameBals_any sx sy cx cy X w3 (by have := HXX.out.1.len; omega) HXX.out.2 hY.out.2.1
    clear HX2 hX hY
    obtain ⟨nx, hnx⟩ : ∃ nx, X.length = nx := ⟨_, rfl⟩
    have HNx : Hid (X.length = nx) := hnx
    rw [hnx] at HX3 ⊢
    clear hnx
    go_wp2_with fail
    refine HX3.out.mono ?_
    rintro e w4 ⟨rfl, hB4⟩
    have HB4 : Hid (Below w.heap.size w w4) := HB3.out.trans (hB4.mono HB3.out.size)
    have HXX4 : Hid (MgR a b X ∧ IsBl w4 sx X cx) := ⟨HXX.out.1, HXX.out.2.below hB4⟩
    have HX4 : Hid (Calls Try.prog 5 #[.slice a1 na c1, .slice none 0 0] w4 fun e w' => ∃ sn cn, e = .returned (.tuple #[.slice sn na cn, .nilIface]) ∧ Hid (Below w4.heap.size w4 w' ∧ IsBl w' sn a cn)) := by
      have h := merge_ok a1 none c1 0 a [] w4 (HI.out.1.below HB4.out) (isBl_none _ _ _) HI.out.2.2.2.1 (fun x hx => by simp at hx) (mg_nil HFn.out.1)
      rw [HN.out.1] at h
      refine h.mono ?_
      rintro e w' ⟨sn, cn, R, rfl, hR⟩
      have e1 := mg_nil_eq HFn.out.1 hR.out.2.2
      subst e1
      exact ⟨sn, cn, by rw [HN.out.1], hR.out.1, hR.out.2.1⟩
    clear HX3 hB4 HXX
    go_wp2_with fail
    refine HX4.out.mono ?_
    rintro e w5 ⟨sn, cn, rfl, hn5⟩
    have HB5 : Hid (Below w.heap.size w w5) := HB4.out.trans (hn5.out.1.mono HB4.out.size)
    have HX5 : Hid (Calls Try.prog 6 #[.slice sn na cn, .slice a1 na c1] w5 fun e w' => e = .returned (.bool true) ∧ Below w5.heap.size w5 w') := by
      have h := sameBals_any sn a1 cn c1 a w5 (by have := HFn.out.1.len; omega) hn5.out.2 (HI.out.1.below HB5.out)
      rw [HN.out.1] at h
      exact h
    have HXX5 : Hid (MgR a b X ∧ IsBl w5 sx X cx) := ⟨HXX4.out.1, HXX4.out.2.below hn5.out.1⟩
    clear HX4 hn5 HXX4
    go_wp2_with fail
    refine HX5.out.mono ?_
    rintro e w6 ⟨rfl, hB6⟩
    have HB6 : Hid (Below w.heap.size w w6) := HB5.out.trans (hB6.mono HB5.out.size)
    have HXX6 : Hid (MgR a b X ∧ IsBl w6 sx X cx) := ⟨HXX5.out.1, HXX5.out.2.below hB6⟩
    have hna200 : (na : Int) ≤ 200 := by have := HFn.out.1.len; have := HN.out.1; omega
    clear HX5 hB6 HXX5
    go_wp2_with fail
    go_loopw [16, 17] (fun tv iv wr => ∃ i : Nat, i ≤ na ∧ iv = .int .i64 i ∧ Hid (BlRow wr w6.heap.size tv (negL (a.take i)) ∧ Below w6.heap.size w6 wr)) (fun _ iv _ => na - (intOf iv).toNat)
    case atStart => exact ⟨0, Nat.zero_le _, rfl, BlRow.nil _ _, Below.refl _ _⟩
    case round =>
      obtain ⟨i, hi, rfl, HT⟩ := hrel
      obtain ⟨ta, tc, rfl, _⟩ := HT.out.1.isBl
      have hlt : (negL (a.take i)).length = i := by
        rw [negL_length, List.length_take]
        have := HN.out.1
        omega
      have HTl : Hid ((negL (a.take i)).length = i) := hlt
      rw [hlt] at HT ⊢
      clear hlt
      have i0 : (0 : Int) ≤ i := by omega
      by_cases hin : i < na
      · have i1 : (i : Int) < na := by omega
        have hia : i < a.length := by have := HN.out.1; omega
        obtain ⟨b0, o0, rfl, hb0, hc0⟩ := HI.out.1.some hia
        have hBw : Below w.heap.size w wr := HB6.out.trans (HT.out.2.mono HB6.out.size)
        have hx := (hc0 i hia).below hBw hb0
        have hamt := HFn.out.1.amt _ (bls_mem a i hia)
        obtain ⟨x, hxx⟩ : ∃ x, a.getD i bl0 = x := ⟨_, rfl⟩
        have HX : Hid (a.getD i bl0 = x) := hxx
        rw [hxx] at hx hamt
        obtain ⟨x0, x1, x2, x3⟩ := x
        obtain ⟨d0, d1, d2, d3⟩ := hx
        simp only at d0 d1 d2 d3 hamt
        obtain ⟨m0, m1⟩ := hamt
        obtain ⟨Z, hZ⟩ : ∃ Z, (wr.alloc (.cells #[.int .i64 x0, .string x1, .string x2, .int .i64 (-x3)] 28)).alloc (.cells #[.int .i64 x0, .string x1, .string x2, .int .i64 (-x3)] 28) = Z := ⟨_, rfl⟩
        have hbZ : Below wr.heap.size wr Z := by rw [← hZ]; exact ((Below.refl _ _).alloc (Nat.le_refl _) _).alloc (by simp) _
        have hZh : Z.heap[wr.heap.size + 1]? = some (.cells #[.int .i64 x0, .string x1, .string x2, .int .i64 (-x3)] 28 (0, 0)) := by
          rw [← hZ]
          have := ld_new_heap (wr.alloc (.cells #[.int .i64 x0, .string x1, .string x2, .int .i64 (-x3)] 28)) (.cells #[.int .i64 x0, .string x1, .string x2, .int .i64 (-x3)] 28)
          simpa using this
        have Hsrc : Hid (∀ j' u, [Value.int .i64 x0, .string x1, .string x2, .int .i64 (-x3)][j']? = some u → Z.cell? ((⟨wr.heap.size + 1, 0, none⟩ : Addr).add j') = some u) := World.news_of_block hZh
        have HZr : Hid (Z.ownsRow w6.heap.size 28 4 (.slice ta i tc) i (blRow (negL (a.take i)))) := by
          have h := HT.out.1.below hbZ
          unfold BlRow at h
          rw [HTl.out] at h
          exact h
        have HNw : Hid (∀ v' U, U.ownsRow w6.heap.size 28 4 v' (i + 1) (blRow (negL (a.take i)) ++ [Value.int .i64 x0, .string x1, .string x2, .int .i64 (-x3)]) → Z.grownBy U (Value.slice ta i tc).ownBlock → BlRow U w6.heap.size v' (negL (a.take (i + 1))) ∧ Below w6.heap.size w6 U) := fun v' U ho hg => by
          refine ⟨?_, (HT.out.2.trans (hbZ.mono HT.out.2.size)).grown hg (Nat.le_trans HT.out.2.size hbZ.size) (fun g e => (row_block HZr.out e).1)⟩
          rw [negL_take a i hia, HX.out]
          unfold BlRow
          rw [blRow_append, blRow_one, List.length_append, HTl.out]
          exact ho
        have Hsz : Hid (w6.heap.size ≤ Z.heap.size) := Nat.le_trans HT.out.2.size hbZ.size
        have HZ : Hid ((wr.alloc (.cells #[.int .i64 x0, .string x1, .string x2, .int .i64 (-x3)] 28)).alloc (.cells #[.int .i64 x0, .string x1, .string x2, .int .i64 (-x3)] 28) = Z) := hZ
        obtain ⟨qi, hq, hz0, hz1, hz2⟩ := info_parts bl_info
        have Hm1 : Hid (i + 1 ≤ maxLen) := by unfold Hid maxLen; omega
        have Hm2 : Hid ((i + 1) * 48 ≤ 140737488355328) := by unfold Hid; omega
        have Hs1 : Hid (∀ u ∈ [Value.int .i64 x0, .string x1, .string x2, .int .i64 (-x3)], u.oneCell' = true) := by
          intro u hu
          simp at hu
          rcases hu with rfl | rfl | rfl | rfl <;> rfl
        have hwr : IntKind.i64.wrap (-x3) = -x3 := by
          simp only [IntKind.wrap, IntKind.bits, IntKind.signed]
          simp
          omega
        clear hbZ hZh hZ HX hBw hc0 hxx m0 m1
        go_wp2_with (at_builtin; rw [HZ.out]; refine wpList_append_own _ rfl _ _ 22 rfl w6.heap.size 28 qi (.agg #[.int .i64 0, .string ByteArray.empty, .string ByteArray.empty, .int .i64 0]) 4 48 Try.underlying22 hq hz0 hz1 hz2 rfl (by decide) _ _ _ rfl HZr.out ⟨wr.heap.size + 1, 0, none⟩ 1 1 [Value.int .i64 x0, .string x1, .string x2, .int .i64 (-x3)] rfl rfl Hsrc.out Hs1.out Hm1.out Hm2.out Hsz.out ?_)
        intro v' U ho hg _
        have HG : Hid (BlRow U w6.heap.size v' (negL (a.take (i + 1))) ∧ Below w6.heap.size w6 U) := HNw.out v' U ho hg
        clear ho hg HNw Hsrc HZr
        go_wp2_with fail
        go_roundw
        case rel => exact ⟨i + 1, by omega, by go_num, HG⟩
        case measure => simp [intOf]; omega
      · have i1 : ¬ (i : Int) < na := by omega
        obtain rfl : i = na := by omega
        have hT := HT.out.1
        have hta : a.take i = a := by rw [← HN.out.1]; exact List.take_length
        rw [hta] at hT
        have hnl : (negL a).length = i := by rw [negL_length]; exact HN.out.1
        have HB7 : Hid (Below w.heap.size w wr) := HB6.out.trans (HT.out.2.mono HB6.out.size)
        have HXX7 : Hid (MgR a b X ∧ IsBl wr sx X cx) := ⟨HXX6.out.1, HXX6.out.2.below HT.out.2⟩
        have HX7 : Hid (Calls Try.prog 5 #[.slice a1 i c1, .slice ta i tc] wr fun e w' => ∃ sn cn, e = .returned (.tuple #[.slice sn 0 cn, .nilIface]) ∧ Hid (Below wr.heap.size wr w')) := by
          have hI2 : IsBl wr ta (negL a) tc := by
            obtain ⟨a9, c9, e9, h9⟩ := hT.isBl
            rw [hnl] at e9
            cases e9
            exact h9
          have h := merge_ok a1 ta c1 tc a (negL a) wr (HI.out.1.below HB7.out) hI2 HI.out.2.2.2.1 (neg_ok HFn.out.1 HI.out.2.2.2.1) (mg_neg HFn.out.1)
          rw [HN.out.1, hnl] at h
          refine h.mono ?_
          rintro e w' ⟨sn, cn, R, rfl, hR⟩
          have e1 := mg_neg_eq hR.out.2.2
          subst e1
          exact ⟨sn, cn, rfl, hR.out.1⟩
        clear HT HTl hT hta hnl HXX6
        go_wp2_with fail
        refine HX7.out.mono ?_
        rintro e w8 ⟨sn8, cn8, rfl, hb8⟩
        have HB8 : Hid (Below w.heap.size w w8) := HB7.out.trans (hb8.out.mono HB7.out.size)
        have HXX8 : Hid (MgR a b X ∧ IsBl w8 sx X cx) := ⟨HXX7.out.1, HXX7.out.2.below hb8.out⟩
        have HX8 : Hid (Calls Try.prog 5 #[.slice sx nx cx, .slice a3 nc c3] w8 fun e w' => (∃ m : Int, e = .returned (.tuple #[.slice none 0 0, .iface 48 (.int .i64 m)]) ∧ Hid (Below w8.heap.size w8 w')) ∨ (∃ sp cp P, e = .returned (.tuple #[.slice sp P.length cp, .nilIface]) ∧ Hid (Below w8.heap.size w8 w' ∧ IsBl w' sp P cp ∧ MgR X c P))) := by
          rw [← HNx.out, ← HN.out.2.2]
          by_cases h : mgE X c = 0
          · exact (merge_ok sx a3 cx c3 X c w8 HXX8.out.2 (HI.out.2.2.1.below HB8.out) HXX8.out.1.ok HI.out.2.2.2.2.2 h).mono (fun e w' ⟨sp, cp, P, h1, h2⟩ => .inr ⟨sp, cp, P, h1, h2⟩)
          · exact (merge_bad sx a3 cx c3 X c w8 HXX8.out.2 (HI.out.2.2.1.below HB8.out) (by have := HXX8.out.1.len; omega) HL.out.2.2 HXX8.out.1.ok HI.out.2.2.2.2.2 h).mono (fun e w' ⟨h1, h2⟩ => .inl ⟨_, h1, h2⟩)
        have HBC : Hid (∀ U, Below w.heap.size w U → Calls Try.prog 5 #[.slice a2 nb c2, .slice a3 nc c3] U fun e w' => (∃ m : Int, e = .returned (.tuple #[.slice none 0 0, .iface 48 (.int .i64 m)]) ∧ Hid (Below U.heap.size U w')) ∨ (∃ sp cp P, e = .returned (.tuple #[.slice sp P.length cp, .nilIface]) ∧ Hid (Below U.heap.size U w' ∧ IsBl w' sp P cp ∧ MgR b c P))) := fun U hU => by
          rw [← HN.out.2.1, ← HN.out.2.2]
          by_cases h : mgE b c = 0
          · exact (merge_ok a2 a3 c2 c3 b c U (HI.out.2.1.below hU) (HI.out.2.2.1.below hU) HI.out.2.2.2.2.1 HI.out.2.2.2.2.2 h).mono (fun e w' ⟨sp, cp, P, h1, h2⟩ => .inr ⟨sp, cp, P, h1, h2⟩)
          · exact (merge_bad a2 a3 c2 c3 b c U (HI.out.2.1.below hU) (HI.out.2.2.1.below hU) HL.out.2.1 HL.out.2.2 HI.out.2.2.2.2.1 HI.out.2.2.2.2.2 h).mono (fun e w' ⟨h1, h2⟩ => .inl ⟨_, h1, h2⟩)
        clear HX7 HXX7 hb8
        go_wp2_with fail
        refine HX8.out.mono ?_
        rintro e w9 (⟨m9, rfl, hb9⟩ | ⟨sp, cp, P, rfl, hP⟩)
        · have HB9 : Hid (Below w.heap.size w w9) := HB8.out.trans (hb9.out.mono HB8.out.size)
          have HX9 : Hid (Calls _ _ _ w9 _) := HBC.out w9 HB9.out
          clear HX8 HBC hb9
          go_wp2_with fail
          refine HX9.out.mono ?_
          rintro e w10 (⟨m10, rfl, hb10⟩ | ⟨sq, cq, Q, rfl, hQ⟩)
          · have HB10 : Hid (Below w.heap.size w w10) := HB9.out.trans (hb10.out.mono HB9.out.size)
            clear HX9
            go_wp2
            go_ret
            exact ⟨rfl, HB10.out⟩
          · have HB10 : Hid (Below w.heap.size w w10) := HB9.out.trans (hQ.out.1.mono HB9.out.size)
            clear HX9
            go_wp2
            go_ret
            exact ⟨rfl, HB10.out⟩
        · have HB9 : Hid (Below w.heap.size w w9) := HB8.out.trans (hP.out.1.mono HB8.out.size)
          have HX9 : Hid (Calls _ _ _ w9 _) := HBC.out w9 HB9.out
          clear HX8 HBC
          go_wp2_with fail
          refine HX9.out.mono ?_
          rintro e w10 (⟨m10, rfl, hb10⟩ | ⟨sq, cq, Q, rfl, hQ⟩)
          · have HB10 : Hid (Below w.heap.size w w10) := HB9.out.trans (hb10.out.mono HB9.out.size)
            clear HX9
            go_wp2
            go_ret
            exact ⟨rfl, HB10.out⟩
          · have HB10 : Hid (Below w.heap.size w w10) := HB9.out.trans (hQ.out.1.mono HB9.out.size)
            have HPQ : Hid (IsBl w10 sp P cp ∧ MgR X c P ∧ IsBl w10 sq Q cq ∧ MgR b c Q) := ⟨hP.out.2.1.below hQ.out.1, hP.out.2.2, hQ.out.2.1, hQ.out.2.2⟩
            obtain ⟨nq, hnq⟩ : ∃ nq, Q.length = nq := ⟨_, rfl⟩
            obtain ⟨np, hnp⟩ : ∃ np, P.length = np := ⟨_, rfl⟩
            have HX10 : Hid (Calls Try.prog 5 #[.slice a1 i c1, .slice sq nq cq] w10 fun e w' => (∃ m : Int, e = .returned (.tuple #[.slice none 0 0, .iface 48 (.int .i64 m)]) ∧ Hid (Below w10.heap.size w10 w')) ∨ (∃ sr cr, e = .returned (.tuple #[.slice sr np cr, .nilIface]) ∧ Hid (Below w10.heap.size w10 w' ∧ IsBl w' sp P cp ∧ IsBl w' sr P cr))) := by
              rw [← HN.out.1, ← hnq]
              by_cases h : mgE a Q = 0
              · refine (merge_ok a1 sq c1 cq a Q w10 (HI.out.1.below HB10.out) HPQ.out.2.2.1 HI.out.2.2.2.1 HPQ.out.2.2.2.ok h).mono (fun e w' ⟨sr, cr, R, h1, h2⟩ => .inr ?_)
                have e1 := mg_assoc HXX8.out.1 HPQ.out.2.1 HPQ.out.2.2.2 h2.out.2.2
                subst e1
                exact ⟨sr, cr, by rw [h1, hnp], h2.out.1, HPQ.out.1.below h2.out.1, h2.out.2.1⟩
              · exact (merge_bad a1 sq c1 cq a Q w10 (HI.out.1.below HB10.out) HPQ.out.2.2.1 HL.out.1 (by have := HPQ.out.2.2.2.len; omega) HI.out.2.2.2.1 HPQ.out.2.2.2.ok h).mono (fun e w' ⟨h1, h2⟩ => .inl ⟨_, h1, h2⟩)
            have HPl : Hid (P.length = np ∧ P.length ≤ 200) := ⟨hnp, HPQ.out.2.1.len⟩
            rw [hnp, hnq]
            clear HX9 hP hQ hnp hnq HPQ
            go_wp2_with fail
            refine HX10.out.mono ?_
            rintro e w11 (⟨m11, rfl, hb11⟩ | ⟨sr, cr, rfl, hR⟩)
            · have HB11 : Hid (Below w.heap.size w w11) := HB10.out.trans (hb11.out.mono HB10.out.size)
              clear HX10
              go_wp2
              go_ret
              exact ⟨rfl, HB11.out⟩
            · have HB11 : Hid (Below w.heap.size w w11) := HB10.out.trans (hR.out.1.mono HB10.out.size)
              have HX11 : Hid (Calls Try.prog 6 #[.slice sp np cp, .slice sr np cr] w11 fun e w' => e = .returned (.bool true) ∧ Below w11.heap.size w11 w') := by
                have h := sameBals_any sp sr cp cr P w11 (by have := HPl.out.2; omega) hR.out.2.1 hR.out.2.2
                rw [HPl.out.1] at h
                exact h
              clear HX10 hR
              go_wp2_with (go_at_call 6; refine HX11.out.mono ?_; rintro e w12 ⟨rfl, hb12⟩)
              go_ret
              exact ⟨rfl, HB11.out.trans (hb12.mono HB11.out.size)⟩
end Go.Proofs.Ytcamimjjmcdbcaa
