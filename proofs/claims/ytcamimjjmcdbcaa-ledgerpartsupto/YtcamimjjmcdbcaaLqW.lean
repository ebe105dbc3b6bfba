/-
  The walk of daylaw5.LedgerParts.
-/
import Derived.Test.YtcamimjjmcdbcaaLqN
namespace Go.Proofs.Ytcamimjjmcdbcaa
set_option linter.unusedVariables false
set_option linter.unusedSimpArgs false
set_option maxRecDepth 100000
open Go.RowKit Go.Lib
/-- What the loop that chooses keeps. -/
structure Gds (w : World) (L : List Je) (k : Nat) (gv : Value) (U : World) : Prop where
  row : JeRow U w.heap.size gv ((L.take k).filter gd)
  bel : Below w.heap.size w U
theorem gds_len (L : List Je) (k : Nat) : ((L.take k).filter gd).length ≤ k := by
  have := List.length_filter_le gd (L.take k)
  simp only [List.length_take] at this
  omega
theorem merge_either (a1 a2 : Option Addr) (c1 c2 : Nat) (a b : List Bl) (W : World) (ha : IsBl W a1 a c1) (hb : IsBl W a2 b c2) (la : a.length ≤ 9223372036854775807) (lb : b.length ≤ 9223372036854775807) (oka : ∀ x ∈ a, BlOk x) (okb : ∀ x ∈ b, BlOk x) :
    Calls Try.prog 5 #[.slice a1 a.length c1, .slice a2 b.length c2] W fun e w' => (∃ m : Int, e = .returned (.tuple #[.slice none 0 0, .iface 48 (.int .i64 m)]) ∧ Hid (Below W.heap.size W w')) ∨ (∃ sp cp P, e = .returned (.tuple #[.slice sp P.length cp, .nilIface]) ∧ Hid (Below W.heap.size W w' ∧ IsBl w' sp P cp ∧ MgR a b P)) := by
  by_cases h : mgE a b = 0
  · exact (merge_ok a1 a2 c1 c2 a b W ha hb oka okb h).mono (fun e w' ⟨sp, cp, P, h1, h2⟩ => .inr ⟨sp, cp, P, h1, h2⟩)
  · exact (merge_bad a1 a2 c1 c2 a b W ha hb la lb oka okb h).mono (fun e w' ⟨h1, h2⟩ => .inl ⟨_, h1, h2⟩)
set_option maxHeartbeats 16000000 in
theorem lparts_walk (a : Option Addr) (cap : Nat) (L : List Je) (w : World) (hlen : L.length ≤ 9223372036854775807) (h : IsJs w a L cap) (hok : JsOk L) :
    Calls Try.prog 4 #[.slice a L.length cap] w fun e w' => e = .returned (.bool true) ∧ Below w.heap.size w w' := by
  have HA : Hid (IsJs w a L cap ∧ JsOk L) := ⟨h, hok⟩
  have hlen' : (L.length : Int) ≤ 9223372036854775807 := by omega
  have HTw : Hid (Calls _ _ _ w _) := ld_two_any ⟨#[97]⟩ 2 3 ⟨#[49, 48]⟩ ⟨#[50, 48]⟩ 5 w (by decide)
  clear h hok
  go_enter Try.func4, Try.ntmps4
  go_wp2_with fail
  refine HTw.out.mono ?_
  rintro e w1 ⟨ta, tc, rfl, hln, hb1⟩
  obtain ⟨V, hV⟩ : ∃ V, w1.alloc (.cells #[.string ⟨#[97]⟩, .int .i64 2, .int .i64 3, .slice ta 2 tc] 35) = V := ⟨_, rfl⟩
  have hbV : Below w1.heap.size w1 V := by rw [← hV]; exact (Below.refl _ _).alloc (Nat.le_refl _) _
  have HB1 : Hid (Below w.heap.size w V) := hb1.trans (hbV.mono hb1.size)
  have HTr : Hid (Calls Try.prog 7 #[.slice (some ⟨w1.heap.size, 0, none⟩) 1 1, .int .i64 2, .int .i64 3] V fun e w' => ∃ sa sc, e = .returned (.tuple #[.slice sa 2 sc, .nilIface]) ∧ Hid (Below w.heap.size w w')) := by
    have hJ : IsJs V (some ⟨w1.heap.size, 0, none⟩) [lqE ta tc] 1 := isJs_new (x := lqE ta tc) (by rw [← hV]; exact ld_new_heap w1 _) (hln.below hbV)
    refine (trial_any _ 1 [lqE ta tc] V 2 3 (by simp) hJ (lq_ok ta tc)).mono ?_
    rintro e w' (⟨h0, _⟩ | ⟨_, sa, sc, R, rfl, hR⟩)
    · exact absurd (lq_oe ta tc) h0
    · have e2 := lq_len hR.out.2.2
      exact ⟨sa, sc, by rw [e2], HB1.out.trans (hR.out.1.mono HB1.out.size)⟩
  have HV : Hid (w1.alloc (.cells #[.string ⟨#[97]⟩, .int .i64 2, .int .i64 3, .slice ta 2 tc] 35) = V) := hV
  clear hV hbV hln hb1 HB1 HTw
  go_wp2_with fail
  rw [HV.out]
  refine HTr.out.mono ?_
  rintro e w2 ⟨sa, sc, rfl, HB2⟩
  clear HTr HV
  go_wp2_with fail
  have HG0 : Hid (Gds w2 L 0 (.slice none 0 0) w2) := ⟨by simpa using JeRow.nil w2 w2.heap.size, Below.refl _ _⟩
  go_loopw [5, 6] (fun gv iv wr => ∃ k : Nat, k ≤ L.length ∧ k ≤ 30 ∧ iv = .int .i64 k ∧ Hid (Gds w2 L k gv wr)) (fun _ iv _ => 30 - (intOf iv).toNat)
  case atStart => exact ⟨0, Nat.zero_le _, by omega, rfl, HG0⟩
  case round =>
    obtain ⟨k, hk, hk30, rfl, HG⟩ := hrel
    clear HG0
    have k0 : (0 : Int) ≤ k := by omega
    by_cases hc : k < L.length ∧ k < 30
    · obtain ⟨hkl, hk3⟩ := hc
      have k1 : (k : Int) < L.length := by omega
      have k2 : (k : Int) < 30 := by omega
      obtain ⟨b0, off0, rfl, hb0, hc0⟩ := HA.out.1.some hkl
      have hBw : Below w.heap.size w wr := HB2.out.trans (HG.out.bel.mono HB2.out.size)
      have hx := (hc0 k hkl).below hBw hb0
      obtain ⟨x, hxx⟩ : ∃ x, L.getD k je0 = x := ⟨_, rfl⟩
      have HX : Hid (L.getD k je0 = x) := hxx
      rw [hxx] at hx
      have HTk : Hid ((L.take (k + 1)).filter gd = (L.take k).filter gd ++ if gd x then [x] else []) := by
        unfold Hid
        rw [jes_take L k hkl, hxx, List.filter_append, List.filter_cons]
        split <;> simp
      clear hxx hc0
      obtain ⟨x0, x1, x2, xa, xc, xl⟩ := x
      obtain ⟨d0, d1, d2, d3⟩ := hx
      simp only at d0 d1 d2 d3
      by_cases hg : (1 ≤ x1 ∧ x1 ≤ 3) ∧ 1 ≤ x2 ∧ x2 ≤ 4
      · obtain ⟨⟨g1, g2⟩, g3, g4⟩ := hg
        have hgd : gd ⟨x0, x1, x2, xa, xc, xl⟩ = true := decide_eq_true ⟨⟨g1, g2⟩, g3, g4⟩
        obtain ⟨ga, gc, rfl, _, _⟩ := HG.out.row.lies
        obtain ⟨ng, hng⟩ : ∃ ng, ((L.take k).filter gd).length = ng := ⟨_, rfl⟩
        have hng30 : ng ≤ 30 := by rw [← hng]; have := gds_len L k; omega
        have HNG : Hid (((L.take k).filter gd).length = ng) := hng
        rw [hng] at HG ⊢
        obtain ⟨Z, hZ⟩ : ∃ Z, wr.alloc (.cells #[.string x0, .int .i64 x1, .int .i64 x2, .slice xa xl.length xc] 35) = Z := ⟨_, rfl⟩
        have hbZ : Below wr.heap.size wr Z := by rw [← hZ]; exact (Below.refl _ _).alloc (Nat.le_refl _) _
        have hZh : Z.heap[wr.heap.size]? = some (.cells #[.string x0, .int .i64 x1, .int .i64 x2, .slice xa xl.length xc] 35 (0, 0)) := by rw [← hZ]; exact ld_new_heap wr _
        have Hsrc : Hid (∀ j' u, [Value.string x0, .int .i64 x1, .int .i64 x2, .slice xa xl.length xc][j']? = some u → Z.cell? ((⟨wr.heap.size, 0, none⟩ : Addr).add j') = some u) := World.news_of_block hZh
        have HZr : Hid (Z.ownsRow w2.heap.size 35 4 (.slice ga ng gc) ng (jeRow ((L.take k).filter gd))) := by
          have h := HG.out.row.below hbZ
          unfold JeRow at h
          rw [HNG.out] at h
          exact h
        have HNw : Hid (∀ v' U, U.ownsRow w2.heap.size 35 4 v' (ng + 1) (jeRow ((L.take k).filter gd) ++ [Value.string x0, .int .i64 x1, .int .i64 x2, .slice xa xl.length xc]) → Z.grownBy U (Value.slice ga ng gc).ownBlock → Gds w2 L (k + 1) v' U) := fun v' U ho hg => by
          refine ⟨?_, (HG.out.bel.trans (hbZ.mono HG.out.bel.size)).grown hg (Nat.le_trans HG.out.bel.size hbZ.size) (fun g e => (row_block HZr.out e).1)⟩
          rw [HTk.out, hgd]
          unfold JeRow
          simp only [if_true]
          rw [jeRow_append, jeRow_one, List.length_append, HNG.out]
          exact ho
        have Hsz : Hid (w2.heap.size ≤ Z.heap.size) := Nat.le_trans HG.out.bel.size hbZ.size
        have HZ : Hid (wr.alloc (.cells #[.string x0, .int .i64 x1, .int .i64 x2, .slice xa xl.length xc] 35) = Z) := hZ
        obtain ⟨qi, hq, hz0, hz1, hz2⟩ := info_parts je_info
        have Hm1 : Hid (ng + 1 ≤ maxLen) := by unfold Hid maxLen; omega
        have Hm2 : Hid ((ng + 1) * 56 ≤ 140737488355328) := by unfold Hid; omega
        have Hs1 : Hid (∀ u ∈ [Value.string x0, .int .i64 x1, .int .i64 x2, .slice xa xl.length xc], u.oneCell' = true) := by
          intro u hu
          simp at hu
          rcases hu with rfl | rfl | rfl | rfl <;> rfl
        clear hbZ hZh hZ HX hBw hng HG HTk hgd
        go_wp2_with (at_builtin; rw [HZ.out]; refine wpList_append_own _ rfl _ _ 31 rfl w2.heap.size 35 qi (.agg #[.string ByteArray.empty, .int .i64 0, .int .i64 0, .slice none 0 0]) 4 56 Try.underlying31 hq hz0 hz1 hz2 rfl (by decide) _ _ _ rfl HZr.out ⟨wr.heap.size, 0, none⟩ 1 1 [Value.string x0, .int .i64 x1, .int .i64 x2, .slice xa xl.length xc] rfl rfl Hsrc.out Hs1.out Hm1.out Hm2.out Hsz.out ?_)
        intro v' U ho hg' _
        have HGn : Hid (Gds w2 L (k + 1) v' U) := HNw.out v' U ho hg'
        clear ho hg' HNw Hsrc HZr
        go_wp2_with fail
        go_roundw
        case rel => exact ⟨k + 1, by omega, by omega, by go_num, HGn⟩
        case measure => simp [intOf]; omega
      · have hgd : gd ⟨x0, x1, x2, xa, xc, xl⟩ = false := decide_eq_false hg
        have HGn : Hid (Gds w2 L (k + 1) u5 wr) := by
          refine ⟨?_, HG.out.bel⟩
          rw [HTk.out, hgd]
          simpa using HG.out.row
        clear HTk hgd HG HX hBw
        by_cases g1 : 1 ≤ x1
        · by_cases g2 : x1 ≤ 3
          · by_cases g3 : 1 ≤ x2
            · have g4 : ¬ x2 ≤ 4 := fun h => hg ⟨⟨g1, g2⟩, g3, h⟩
              clear hg
              go_wp2_with fail
              go_roundw
              case rel => exact ⟨k + 1, by omega, by omega, by go_num, HGn⟩
              case measure => simp [intOf]; omega
            · clear hg
              go_wp2_with fail
              go_roundw
              case rel => exact ⟨k + 1, by omega, by omega, by go_num, HGn⟩
              case measure => simp [intOf]; omega
          · clear hg
            go_wp2_with fail
            go_roundw
            case rel => exact ⟨k + 1, by omega, by omega, by go_num, HGn⟩
            case measure => simp [intOf]; omega
        · clear hg
          go_wp2_with fail
          go_roundw
          case rel => exact ⟨k + 1, by omega, by omega, by go_num, HGn⟩
          case measure => simp [intOf]; omega
    · have hkk : (L.take k).filter gd = (L.take 30).filter gd := by
        rcases (by omega : k = 30 ∨ L.length ≤ k) with h1 | h1
        · rw [h1]
        · rw [List.take_of_length_le h1, List.take_of_length_le (by omega)]
      obtain ⟨G, hGe⟩ : ∃ G, (L.take 30).filter gd = G := ⟨_, rfl⟩
      have hsub : G.Sublist L := by rw [← hGe]; exact List.filter_sublist.trans (List.take_sublist _ _)
      have hBw : Below w.heap.size w wr := HB2.out.trans (HG.out.bel.mono HB2.out.size)
      have hJG : ∃ a cap, u5 = .slice a G.length cap ∧ IsJs wr a G cap := by
        refine JeRow.isJs (n := w2.heap.size) (by rw [← hGe, ← hkk]; exact HG.out.row) (fun x hx => ?_)
        exact (HA.out.1.lns x (hsub.mem hx)).below hBw
      obtain ⟨ga, gc, rfl, hJ⟩ := hJG
      have HGA : Hid (JsOk G ∧ (∀ x ∈ G, gd x = true) ∧ G.length ≤ 30) := ⟨HA.out.2.sub hsub, fun x hx => by rw [← hGe] at hx; exact (List.mem_filter.1 hx).2, by rw [← hGe]; exact gds_len L 30⟩
      have HJ : Hid (IsJs wr ga G gc) := hJ
      have HBw : Hid (Below w.heap.size w wr) := hBw
      have HX1 : Hid (Calls _ _ _ wr _) := balances_any ga gc G wr 4 (by have := HGA.out.2.2; omega) hJ HGA.out.1
      have HBal0 : Hid (∀ U, Below wr.heap.size wr U → Calls Try.prog 9 #[.slice ga G.length gc, .int .i64 0] U fun e w' => OeEnd (upTo 0) G U e w') := fun U hU => balances_any ga gc G U 0 (by have := HGA.out.2.2; omega) (HJ.out.below hU) HGA.out.1
      have HTri : Hid (∀ U (i p : Int), Below wr.heap.size wr U → Calls Try.prog 7 #[.slice ga G.length gc, .int .i64 i, .int .i64 p] U fun e w' => OeEnd (ofBoth i p) G U e w') := fun U i p hU => trial_any ga gc G U i p (by have := HGA.out.2.2; omega) (HJ.out.below hU) HGA.out.1
      obtain ⟨ng, hng⟩ : ∃ ng, G.length = ng := ⟨_, rfl⟩
      rw [hng] at HX1 HBal0 HTri ⊢
      clear hJ hBw hsub hGe hkk HG hng
      have hkc : (¬ (k : Int) < L.length) ∨ ((k : Int) < L.length ∧ ¬ (k : Int) < 30) := by omega
      rcases hkc with k1 | ⟨k1, k2⟩
      all_goals
        go_wp2_with fail
        refine HX1.out.mono ?_
        rintro e w3 (⟨h4, rfl, hb3⟩ | ⟨h4, sw, cw, Rw, rfl, hw⟩)
        · have HX2 : Hid (Calls _ _ _ w3 _) := HBal0.out w3 hb3.out
          have HB3 : Hid (Below w.heap.size w w3) := HBw.out.trans (hb3.out.mono HBw.out.size)
          clear HX1 HBal0 hb3 h4 HTri
          generalize oeE (upTo 4) G = m4 at *
          go_wp2_with fail
          refine HX2.out.mono ?_
          rintro e w4 (⟨h5, rfl, hb4⟩ | ⟨h5, s5, c5, R5, rfl, h6⟩)
          · have HB4 : Hid (Below w.heap.size w w4) := HB3.out.trans (hb4.out.mono HB3.out.size)
            clear HX2 hb4 h5
            generalize oeE (upTo 0) G = m5 at *
            go_wp2
            go_ret
            exact ⟨rfl, HB4.out⟩
          · have HB4 : Hid (Below w.heap.size w w4) := HB3.out.trans (h6.out.1.mono HB3.out.size)
            clear HX2 h6 h5
            go_wp2
            go_ret
            exact ⟨rfl, HB4.out⟩
        · have HX2 : Hid (Calls _ _ _ w3 _) := HBal0.out w3 hw.out.1
          have hu0 := up_none HGA.out.2.1
          have HW : Hid (OeR (upTo 4) G Rw ∧ IsBl w3 sw Rw cw ∧ Below wr.heap.size wr w3) := ⟨hw.out.2.2, hw.out.2.1, hw.out.1⟩
          have HB3 : Hid (Below w.heap.size w w3) := HBw.out.trans (hw.out.1.mono HBw.out.size)
          have HX3 : Hid (Calls Try.prog 9 #[.slice ga ng gc, .int .i64 0] w3 fun e w' => ∃ s0 c0, e = .returned (.tuple #[.slice s0 0 c0, .nilIface]) ∧ Hid (Below w3.heap.size w3 w')) := by
            refine HX2.out.mono ?_
            rintro e w' (⟨h5, _⟩ | ⟨_, s5, c5, R5, rfl, h6⟩)
            · exact absurd (oe_none h4 hu0) h5
            · have e0 := oer_none h6.out.2.2 hu0
              subst e0
              exact ⟨s5, c5, rfl, h6.out.1⟩
          clear HX1 HX2 HBal0 hw h4 hu0
          obtain ⟨nw, hnw⟩ : ∃ nw, Rw.length = nw := ⟨_, rfl⟩
          have HNw : Hid (Rw.length = nw) := hnw
          rw [hnw]
          clear hnw
          go_wp2_with fail
          refine HX3.out.mono ?_
          rintro e w4 ⟨s0, cc0, rfl, hb4⟩
          have HB4 : Hid (Below w.heap.size w w4 ∧ Below wr.heap.size wr w4) := ⟨HB3.out.trans (hb4.out.mono HB3.out.size), HW.out.2.2.trans (hb4.out.mono HW.out.2.2.size)⟩
          have HW4 : Hid (OeR (upTo 4) G Rw ∧ IsBl w4 sw Rw cw) := ⟨HW.out.1, HW.out.2.1.below hb4.out⟩
          have HS0 : Hid (AllS G 1 1 [] ∧ IsBl w4 none [] 0 ∧ Below w4.heap.size w4 w4) := ⟨AllS.first HGA.out.2.1, isBl_none _ _ _, Below.refl _ _⟩
          clear HX3 HW HB3 hb4
          go_wp2_with fail
          go_loopw [11, 12] (fun av iv wq => ∃ (i : Nat) (sa : Option Addr) (sc : Nat) (A : List Bl), 1 ≤ i ∧ i ≤ 4 ∧ av = .slice sa A.length sc ∧ iv = .int .i64 i ∧ Hid (AllS G i 1 A ∧ IsBl wq sa A sc ∧ Below w4.heap.size w4 wq)) (fun _ iv _ => 4 - (intOf iv).toNat)
          case atStart => exact ⟨1, none, 0, [], by omega, by omega, rfl, rfl, HS0⟩
          case round =>
            rename World => wq
            clear HS0
            obtain ⟨i, sA, cA, A, hi1, hi4, rfl, rfl, HS⟩ := hrel
            by_cases hi : i ≤ 3
            · have i1 : (i : Int) ≤ 3 := by omega
              have i2 : (1 : Int) ≤ i := by omega
              go_wp2_with fail
              go_loopw [11, 13] (fun av pv wp => ∃ (p : Nat) (sa : Option Addr) (sc : Nat) (A : List Bl), 1 ≤ p ∧ p ≤ 5 ∧ av = .slice sa A.length sc ∧ pv = .int .i64 p ∧ Hid (AllS G i p A ∧ IsBl wp sa A sc ∧ Below w4.heap.size w4 wp)) (fun _ pv _ => 5 - (intOf pv).toNat)
              case atStart => exact ⟨1, sA, cA, A, by omega, by omega, rfl, rfl, HS⟩
              case round =>
                rename World => wp
                clear HS
                obtain ⟨p, sA, cA, A, hp1, hp5, rfl, rfl, HP⟩ := hrel
                by_cases hp : p ≤ 4
                · have p1 : (p : Int) ≤ 4 := by omega
                  have p2 : (1 : Int) ≤ p := by omega
                  have HXt : Hid (Calls _ _ _ wp _) := HTri.out wp i p (HB4.out.2.trans (HP.out.2.2.mono HB4.out.2.size))
                  obtain ⟨nA, hnA⟩ : ∃ nA, A.length = nA := ⟨_, rfl⟩
                  have HNA : Hid (A.length = nA) := hnA
                  rw [hnA]
                  clear hnA
                  go_wp2_with fail
                  refine HXt.out.mono ?_
                  rintro e w5 (⟨h5, rfl, hb5⟩ | ⟨h5, sT, cT, T, rfl, hT⟩)
                  · have h := merge_either sA none cA 0 A [] w5 (HP.out.2.1.below hb5.out) (isBl_none _ _ _) (by have := HP.out.1.len; omega) (by simp) HP.out.1.ok (fun x hx => by simp at hx)
                    rw [HNA.out] at h
                    have HM : Hid (Calls Try.prog 5 #[.slice sA nA cA, .slice none 0 0] w5 fun e w' => (∃ m : Int, e = .returned (.tuple #[.slice none 0 0, .iface 48 (.int .i64 m)]) ∧ Hid (Below w5.heap.size w5 w')) ∨ (∃ sp cp P, e = .returned (.tuple #[.slice sp P.length cp, .nilIface]) ∧ Hid (Below w5.heap.size w5 w' ∧ IsBl w' sp P cp ∧ MgR A [] P))) := h
                    clear h
                    have HB5 : Hid (Below w.heap.size w w5) := by
                      have h1 := HB4.out.1.trans (HP.out.2.2.mono HB4.out.1.size)
                      exact h1.trans (hb5.out.mono h1.size)
                    clear HXt hb5 h5 HP
                    generalize oeE (ofBoth (i : Int) (p : Int)) G = m5 at *
                    go_wp2_with fail
                    refine HM.out.mono ?_
                    rintro e w6 (⟨m6, rfl, hb6⟩ | ⟨sp, cp, P, rfl, hP⟩)
                    · have HB6 : Hid (Below w.heap.size w w6) := HB5.out.trans (hb6.out.mono HB5.out.size)
                      clear HM
                      go_wp2
                      go_ret
                      exact ⟨rfl, HB6.out⟩
                    · have HB6 : Hid (Below w.heap.size w w6) := HB5.out.trans (hP.out.1.mono HB5.out.size)
                      clear HM hP
                      go_wp2
                      go_ret
                      exact ⟨rfl, HB6.out⟩
                  · obtain ⟨nT, hnT⟩ : ∃ nT, T.length = nT := ⟨_, rfl⟩
                    have h := merge_either sA sT cA cT A T w5 (HP.out.2.1.below hT.out.1) hT.out.2.1 (by have := HP.out.1.len; omega) (by have := hT.out.2.2.len; omega) HP.out.1.ok hT.out.2.2.ok
                    rw [HNA.out, hnT] at h
                    have HM : Hid (Calls _ _ _ w5 _) := h
                    clear h
                    have HB5 : Hid (Below w4.heap.size w4 w5) := HP.out.2.2.trans (hT.out.1.mono HP.out.2.2.size)
                    have HAT : Hid (AllS G i p A ∧ OeR (ofBoth i p) G T) := ⟨HP.out.1, hT.out.2.2⟩
                    rw [hnT]
                    clear HXt h5 HP hT hnT
                    go_wp2_with fail
                    refine HM.out.mono ?_
                    rintro e w6 (⟨m6, rfl, hb6⟩ | ⟨sp, cp, P, rfl, hP⟩)
                    · have HB6 : Hid (Below w.heap.size w w6) := by
                        have h1 := HB4.out.1.trans (HB5.out.mono HB4.out.1.size)
                        exact h1.trans (hb6.out.mono h1.size)
                      clear HM hb6
                      go_wp2
                      go_ret
                      exact ⟨rfl, HB6.out⟩
                    · have HN : Hid (AllS G i ((p + 1 : Nat) : Int) P ∧ IsBl w6 sp P cp ∧ Below w4.heap.size w4 w6) := ⟨by rw [Int.natCast_add]; exact HAT.out.1.step HGA.out.2.1 HAT.out.2 hP.out.2.2, hP.out.2.1, HB5.out.trans (hP.out.1.mono HB5.out.size)⟩
                      clear HM hP
                      go_wp2_with fail
                      go_roundw
                      case rel => exact ⟨p + 1, sp, cp, P, by omega, by omega, rfl, by go_num, HN⟩
                      case measure => simp [intOf]; omega
                · have p1 : ¬ (p : Int) ≤ 4 := by omega
                  obtain rfl : p = 5 := by omega
                  have HN : Hid (AllS G ((i + 1 : Nat) : Int) 1 A ∧ IsBl wp sA A cA ∧ Below w4.heap.size w4 wp) := ⟨by rw [Int.natCast_add]; exact AllS.turn HGA.out.2.1 HP.out.1, HP.out.2.1, HP.out.2.2⟩
                  clear HP
                  go_wp2_with fail
                  go_roundw
                  case rel => exact ⟨i + 1, sA, cA, A, by omega, by omega, rfl, by go_num, HN⟩
                  case measure => simp [intOf]; omega
            · have i1 : ¬ (i : Int) ≤ 3 := by omega
              obtain rfl : i = 4 := by omega
              have eA : A = Rw := AllS.last HGA.out.2.1 HS.out.1 HW4.out.1
              subst eA
              have HXe : Hid (Calls Try.prog 6 #[.slice sA nw cA, .slice sw nw cw] wq fun e w' => e = .returned (.bool true) ∧ Below wq.heap.size wq w') := by
                have h := sameBals_any sA sw cA cw A wq (by have := HW4.out.1.len; omega) HS.out.2.1 (HW4.out.2.below HS.out.2.2)
                rw [HNw.out] at h
                exact h
              have HBq : Hid (Below w.heap.size w wq) := HB4.out.1.trans (HS.out.2.2.mono HB4.out.1.size)
              have hnA := HNw.out
              rw [hnA]
              clear HS HW4 hnA
              go_wp2_with (go_at_call 6; refine HXe.out.mono ?_; rintro e w9 ⟨rfl, hb9⟩)
              go_ret
              exact ⟨rfl, HBq.out.trans (hb9.mono HBq.out.size)⟩
end Go.Proofs.Ytcamimjjmcdbcaa
