/-
  Balances that came in, as they lie in memory.
-/
import Derived.Test.YtkaoiljepabmeaaZe22
import Derived.Deep.CutRange
import Derived.Deep.CutBlock
import Derived.Test.YtkaoiljepabmeaaZe14
import Derived.Deep.Slices
import Derived.OpenShut
namespace Go.Proofs.Ytkaoiljepabmeaa
set_option linter.unusedVariables false
set_option linter.unusedSimpArgs false
set_option maxRecDepth 100000
open Go.RowKit Go.Lib
/-- What the loop that chooses keeps. -/
structure Gde (w : World) (c : List Ac) (L : List Je) (k : Nat) (gv : Value) (U : World) : Prop where
  row : JeRow U w.heap.size gv ((L.take k).filter (okJ c))
  bel : Below w.heap.size w U
theorem gde_len (c : List Ac) (L : List Je) (k : Nat) : ((L.take k).filter (okJ c)).length ≤ k := by
  have := List.length_filter_le (okJ c) (L.take k)
  simp only [List.length_take] at this
  omega
set_option maxHeartbeats 16000000 in
theorem leven_walk (ca : Option Addr) (cc : Nat) (c : List Ac) (a : Option Addr) (cap : Nat) (L : List Je) (entity per : Int) (cur : ByteArray) (w : World) (hlen : L.length ≤ 9223372036854775807) (hsl : IsSl w ca c cc) (hac : ∀ k, k < c.length → (c.getD k ac0).code.size ≤ maxLen ∧ (c.getD k ac0).name.size ≤ maxLen)
    (h : IsJs w a L cap) (hln : ∀ x ∈ L, ∀ n ∈ x.lns, n.acc.size ≤ maxLen ∧ n.cur.size ≤ maxLen) :
    Calls Try.prog 3 #[.slice ca c.length cc, .slice a L.length cap, .int .i64 entity, .int .i64 per, .string cur] w fun e w' => e = .returned (.bool true) ∧ Below w.heap.size w w' := by
  have HA : Hid (IsJs w a L cap ∧ IsSl w ca c cc ∧ (∀ k, k < c.length → (c.getD k ac0).code.size ≤ maxLen ∧ (c.getD k ac0).name.size ≤ maxLen) ∧ ∀ x ∈ L, ∀ n ∈ x.lns, n.acc.size ≤ maxLen ∧ n.cur.size ≤ maxLen) := ⟨h, hsl, hac, hln⟩
  have hlen' : (L.length : Int) ≤ 9223372036854775807 := by omega
  have HTw : Hid (Calls _ _ _ w _) := ld_entry_any ⟨#[97]⟩ 1 1 ⟨#[49, 48]⟩ ⟨#[52, 48]⟩ ⟨#[69, 85, 82]⟩ 5 w (by decide)
  obtain ⟨ncc, hncc⟩ : ∃ ncc, c.length = ncc := ⟨_, rfl⟩
  have HNc : Hid (c.length = ncc) := hncc
  rw [hncc]
  clear h hsl hac hln hncc
  go_enter Try.func3, Try.ntmps3
  go_wp2_with fail
  refine HTw.out.mono ?_
  rintro e w1 ⟨ta, tc, rfl, hln, hb1⟩
  obtain ⟨V, hV⟩ : ∃ V, w1.alloc (.cells #[.string ⟨#[97]⟩, .int .i64 1, .int .i64 1, .slice ta 2 tc] 31) = V := ⟨_, rfl⟩
  have hbV : Below w1.heap.size w1 V := by rw [← hV]; exact (Below.refl _ _).alloc (Nat.le_refl _) _
  have HB1 : Hid (Below w.heap.size w V) := hb1.trans (hbV.mono hb1.size)
  have HTr : Hid (Calls Try.prog 4 #[.slice (some ⟨w1.heap.size, 0, none⟩) 1 1, .int .i64 1] V fun e w' => ∃ bx ox sc, e = .returned (.tuple #[.slice (some ⟨bx, ox, none⟩) 2 sc, .nilIface]) ∧ w'.cell? ⟨bx, ox + 3, none⟩ = some (.int .i64 5) ∧ Hid (Below w.heap.size w w')) := by
    have hJ : IsJs V (some ⟨w1.heap.size, 0, none⟩) [leE ta tc] 1 := isJs_new (x := leE ta tc) (by rw [← hV]; exact ld_new_heap w1 _) (hln.below hbV)
    refine (balances_any _ 1 [leE ta tc] V 1 (by simp) hJ (le_ok ta tc)).mono ?_
    rintro e w' (⟨h0, _⟩ | ⟨_, sa, sc, R, rfl, hR⟩)
    · exact absurd (le_oe ta tc) h0
    · have e2 := le_eq hR.out.2.2
      subst e2
      obtain ⟨bx, ox, rfl, _, hc⟩ := hR.out.2.1.some (k := 0) (by decide)
      have := (hc 0 (by decide)).c3
      simp only [leR, List.getD_cons_zero, Nat.zero_mul, Nat.add_zero] at this
      exact ⟨bx, ox, sc, rfl, this, HB1.out.trans (hR.out.1.mono HB1.out.size)⟩
  have HV : Hid (w1.alloc (.cells #[.string ⟨#[97]⟩, .int .i64 1, .int .i64 1, .slice ta 2 tc] 31) = V) := hV
  clear hV hbV hln hb1 HB1 HTw
  go_wp2_with fail
  rw [HV.out]
  refine HTr.out.mono ?_
  rintro e w2 ⟨bx, ox, sc, rfl, hf5, HB2⟩
  clear HTr HV
  go_wp2_with fail
  have HG0 : Hid (Gde w2 c L 0 (.slice none 0 0) w2) := ⟨by simpa using JeRow.nil w2 w2.heap.size, Below.refl _ _⟩
  clear hf5
  go_loopw [13, 14] (fun gv iv wr => ∃ k : Nat, k ≤ L.length ∧ k ≤ 60 ∧ iv = .int .i64 k ∧ Hid (Gde w2 c L k gv wr)) (fun _ iv _ => 60 - (intOf iv).toNat)
  case atStart => exact ⟨0, Nat.zero_le _, by omega, rfl, HG0⟩
  case round =>
    obtain ⟨k, hk, hk60, rfl, HG⟩ := hrel
    clear HG0
    have k0 : (0 : Int) ≤ k := by omega
    by_cases hc : k < L.length ∧ k < 60
    · obtain ⟨hkl, hk3⟩ := hc
      have k1 : (k : Int) < L.length := by omega
      have k2 : (k : Int) < 60 := by omega
      obtain ⟨b0, off0, rfl, hb0, hc0⟩ := HA.out.1.some hkl
      have hBw : Below w.heap.size w wr := HB2.out.trans (HG.out.bel.mono HB2.out.size)
      have hx := (hc0 k hkl).below hBw hb0
      have hxl := (HA.out.1.lns _ (jes_mem L k hkl)).below hBw
      obtain ⟨x, hxx⟩ : ∃ x, L.getD k je0 = x := ⟨_, rfl⟩
      rw [hxx] at hx hxl
      have HTk : Hid ((L.take (k + 1)).filter (okJ c) = (L.take k).filter (okJ c) ++ if okJ c x then [x] else []) := by
        unfold Hid
        rw [jes_take L k hkl, hxx, List.filter_append, List.filter_cons]
        split <;> simp
      clear hxx hc0
      have hE := refEntry_any ca cc c x.ref x.ent x.per x.adr x.cap x.lns wr (HA.out.2.1.below hBw) HA.out.2.2.1 hxl
      rw [HNc.out] at hE
      have HE : Hid (Calls _ _ _ wr _) := hE
      clear hE hxl
      obtain ⟨eb, heb⟩ : ∃ eb, entBad c x.ref x.ent x.per x.lns = eb := ⟨_, rfl⟩
      have HOk : Hid (okJ c x = decide (eb = 0)) := by unfold Hid okJ; rw [heb]
      rw [heb] at HE
      clear heb
      obtain ⟨x0, x1, x2, xa, xc, xl⟩ := x
      obtain ⟨d0, d1, d2, d3⟩ := hx
      simp only at d0 d1 d2 d3 HE
      have HDs : Hid (∀ U, Below wr.heap.size wr U → U.cell? ⟨b0, off0 + k * 4, none⟩ = some (.string x0) ∧ U.cell? ⟨b0, off0 + k * 4 + 1, none⟩ = some (.int .i64 x1) ∧ U.cell? ⟨b0, off0 + k * 4 + 2, none⟩ = some (.int .i64 x2) ∧ U.cell? ⟨b0, off0 + k * 4 + 3, none⟩ = some (.slice xa xl.length xc)) := fun U hU => by
        have C : ∀ o, U.cell? ⟨b0, o, none⟩ = wr.cell? ⟨b0, o, none⟩ := fun o => hU.cell (p := ⟨b0, o, none⟩) (Nat.lt_of_lt_of_le hb0 hBw.size)
        simp only [C]
        exact ⟨d0, d1, d2, d3⟩
      by_cases heb : eb = 0
      · subst heb
        have hok : okJ c ⟨x0, x1, x2, xa, xc, xl⟩ = true := by rw [HOk.out]; rfl
        obtain ⟨ga, gc, rfl, _, _⟩ := HG.out.row.lies
        obtain ⟨ng, hng⟩ : ∃ ng, ((L.take k).filter (okJ c)).length = ng := ⟨_, rfl⟩
        have hng60 : ng ≤ 60 := by rw [← hng]; have := gde_len c L k; omega
        have HNG : Hid (((L.take k).filter (okJ c)).length = ng) := hng
        rw [hng] at HG ⊢
        clear hng HOk hBw
        go_wp2_with fail
        refine HE.out.mono ?_
        rintro e w5 ⟨rfl, hb5⟩
        obtain ⟨d0, d1, d2, d3⟩ := HDs.out w5 hb5
        obtain ⟨Z, hZ⟩ : ∃ Z, w5.alloc (.cells #[.string x0, .int .i64 x1, .int .i64 x2, .slice xa xl.length xc] 31) = Z := ⟨_, rfl⟩
        have hbZ : Below wr.heap.size wr Z := by rw [← hZ]; exact hb5.alloc hb5.size _
        have hZh : Z.heap[w5.heap.size]? = some (.cells #[.string x0, .int .i64 x1, .int .i64 x2, .slice xa xl.length xc] 31 (0, 0)) := by rw [← hZ]; exact ld_new_heap w5 _
        have Hsrc : Hid (∀ j' u, [Value.string x0, .int .i64 x1, .int .i64 x2, .slice xa xl.length xc][j']? = some u → Z.cell? ((⟨w5.heap.size, 0, none⟩ : Addr).add j') = some u) := World.news_of_block hZh
        have HZr : Hid (Z.ownsRow w2.heap.size 31 4 (.slice ga ng gc) ng (jeRow ((L.take k).filter (okJ c)))) := by
          have h := HG.out.row.below hbZ
          unfold JeRow at h
          rw [HNG.out] at h
          exact h
        have HNw : Hid (∀ v' U, U.ownsRow w2.heap.size 31 4 v' (ng + 1) (jeRow ((L.take k).filter (okJ c)) ++ [Value.string x0, .int .i64 x1, .int .i64 x2, .slice xa xl.length xc]) → Z.grownBy U (Value.slice ga ng gc).ownBlock → Gde w2 c L (k + 1) v' U) := fun v' U ho hg => by
          refine ⟨?_, (HG.out.bel.trans (hbZ.mono HG.out.bel.size)).grown hg (Nat.le_trans HG.out.bel.size hbZ.size) (fun g e => (row_block HZr.out e).1)⟩
          rw [HTk.out, hok]
          unfold JeRow
          simp only [if_true]
          rw [jeRow_append, jeRow_one, List.length_append, HNG.out]
          exact ho
        have Hsz : Hid (w2.heap.size ≤ Z.heap.size) := Nat.le_trans HG.out.bel.size hbZ.size
        have HZ : Hid (w5.alloc (.cells #[.string x0, .int .i64 x1, .int .i64 x2, .slice xa xl.length xc] 31) = Z) := hZ
        obtain ⟨qi, hq, hz0, hz1, hz2⟩ := info_parts je_info
        have Hm1 : Hid (ng + 1 ≤ maxLen) := by unfold Hid maxLen; omega
        have Hm2 : Hid ((ng + 1) * 56 ≤ 140737488355328) := by unfold Hid; omega
        have Hs1 : Hid (∀ u ∈ [Value.string x0, .int .i64 x1, .int .i64 x2, .slice xa xl.length xc], u.oneCell' = true) := by
          intro u hu
          simp at hu
          rcases hu with rfl | rfl | rfl | rfl <;> rfl
        clear hbZ hZh hZ HG HTk hok HE HDs hb5
        go_wp2_with (at_builtin; rw [HZ.out]; refine wpList_append_own _ rfl _ _ 23 rfl w2.heap.size 31 qi (.agg #[.string ByteArray.empty, .int .i64 0, .int .i64 0, .slice none 0 0]) 4 56 Try.underlying23 hq hz0 hz1 hz2 rfl (by decide) _ _ _ rfl HZr.out ⟨w5.heap.size, 0, none⟩ 1 1 [Value.string x0, .int .i64 x1, .int .i64 x2, .slice xa xl.length xc] rfl rfl Hsrc.out Hs1.out Hm1.out Hm2.out Hsz.out ?_)
        intro v' U ho hg' _
        have HGn : Hid (Gde w2 c L (k + 1) v' U) := HNw.out v' U ho hg'
        clear ho hg' HNw Hsrc HZr
        go_wp2_with fail
        go_roundw
        case rel => exact ⟨k + 1, by omega, by omega, by go_num, HGn⟩
        case measure => simp [intOf]; omega
      · have hok : okJ c ⟨x0, x1, x2, xa, xc, xl⟩ = false := by rw [HOk.out]; exact decide_eq_false heb
        have HGn : Hid (∀ U, Below wr.heap.size wr U → Gde w2 c L (k + 1) u13 U) := fun U hU => by
          refine ⟨?_, HG.out.bel.trans (hU.mono HG.out.bel.size)⟩
          rw [HTk.out, hok]
          simpa using HG.out.row.below hU
        have heb' : (eb == 0) = false := by rw [beq_eq_false_iff_ne]; exact heb
        clear HTk hok HG hBw HOk HDs
        go_wp2_with (go_at_call 6; refine HE.out.mono ?_; rintro e w5 ⟨rfl, hb5⟩)
        have HG5 : Hid (Gde w2 c L (k + 1) u13 w5) := HGn.out w5 hb5
        clear HGn hb5 HE
        go_roundw
        case rel => exact ⟨k + 1, by omega, by omega, by go_num, HG5⟩
        case measure => simp [intOf]; omega
    · have hkk : (L.take k).filter (okJ c) = (L.take 60).filter (okJ c) := by
        rcases (by omega : k = 60 ∨ L.length ≤ k) with h1 | h1
        · rw [h1]
        · rw [List.take_of_length_le h1, List.take_of_length_le (by omega)]
      obtain ⟨G, hGe⟩ : ∃ G, (L.take 60).filter (okJ c) = G := ⟨_, rfl⟩
      have hsub : G.Sublist L := by rw [← hGe]; exact List.filter_sublist.trans (List.take_sublist _ _)
      have hBw : Below w.heap.size w wr := HB2.out.trans (HG.out.bel.mono HB2.out.size)
      have hJG : ∃ a cap, u13 = .slice a G.length cap ∧ IsJs wr a G cap := by
        refine JeRow.isJs (n := w2.heap.size) (by rw [← hGe, ← hkk]; exact HG.out.row) (fun x hx => ?_)
        exact (HA.out.1.lns x (hsub.mem hx)).below hBw
      obtain ⟨ga, gc, rfl, hJ⟩ := hJG
      have hgood : GoodJ G := good_of (c := c) (fun x hx => by rw [← hGe] at hx; exact (List.mem_filter.1 hx).2)
      have hG60 : G.length ≤ 60 := by rw [← hGe]; exact gde_len c L 60
      have HGA : Hid (JsOk G ∧ GoodJ G ∧ G.length ≤ 60) := ⟨⟨fun x hx => by have := hgood.ent x hx; omega, fun x hx => by have := hgood.per x hx; omega, fun x hx => HA.out.2.2.2 x (hsub.mem hx), by have := hgood.all; omega⟩, hgood, hG60⟩
      have HJ : Hid (IsJs wr ga G gc) := hJ
      have HBw : Hid (Below w.heap.size w wr) := hBw
      have HBal : Hid (∀ U (p : Int), Below wr.heap.size wr U → Calls Try.prog 4 #[.slice ga G.length gc, .int .i64 p] U fun e w' => OeEnd (ldUpTo p) G U e w') := fun U p hU => balances_any ga gc G U p (by have := HGA.out.2.2; omega) (HJ.out.below hU) HGA.out.1
      have HTri : Hid (∀ U (i p : Int), Below wr.heap.size wr U → Calls Try.prog 7 #[.slice ga G.length gc, .int .i64 i, .int .i64 p] U fun e w' => OeEnd (ofBoth i p) G U e w') := fun U i p hU => trial_any ga gc G U i p (by have := HGA.out.2.2; omega) (HJ.out.below hU) HGA.out.1
      obtain ⟨ng, hng⟩ : ∃ ng, G.length = ng := ⟨_, rfl⟩
      rw [hng] at HBal HTri ⊢
      clear hJ hBw hsub hGe hkk HG hng hgood hG60
      have hkc : (¬ (k : Int) < L.length) ∨ ((k : Int) < L.length ∧ ¬ (k : Int) < 60) := by omega
      rcases hkc with k1 | ⟨k1, k2⟩
      all_goals
        by_cases p1 : per < 1
        · clear HBal HTri
          go_wp2
          go_ret
          exact ⟨rfl, HBw.out⟩
        by_cases p2 : 120 < per
        · clear HBal HTri
          go_wp2
          go_ret
          exact ⟨rfl, HBw.out⟩
        have p3 : (1 : Int) ≤ per := by omega
        have p4 : per ≤ (120 : Int) := by omega
        have hwp : IntKind.i64.wrap (per - 1) = per - 1 := by
          simp only [IntKind.wrap, IntKind.bits, IntKind.signed]
          simp
          omega
        have HX1 : Hid (Calls _ _ _ wr _) := HBal.out wr per (Below.refl _ _)
        go_wp2_with fail
        refine HX1.out.mono ?_
        rintro e w3 (⟨h4, rfl, hb3⟩ | ⟨h4, sR, cR, R, rfl, hR⟩)
        · have HX2 : Hid (Calls _ _ _ w3 _) := HBal.out w3 (per - 1) hb3.out
          have HB3 : Hid (Below w.heap.size w w3) := HBw.out.trans (hb3.out.mono HBw.out.size)
          clear HX1 HBal hb3 h4 HTri
          generalize oeE (ldUpTo per) G = m4 at *
          go_wp2_with fail
          refine HX2.out.mono ?_
          rintro e w4 (⟨h5, rfl, hb4⟩ | ⟨h5, s5, c5, R5, rfl, h6⟩)
          · have HB4 : Hid (Below w.heap.size w w4) := HB3.out.trans (hb4.out.mono HB3.out.size)
            clear HX2 hb4 h5
            generalize oeE (ldUpTo (per - 1)) G = m5 at *
            go_wp2
            go_ret
            exact ⟨rfl, HB4.out⟩
          · have HB4 : Hid (Below w.heap.size w w4) := HB3.out.trans (h6.out.1.mono HB3.out.size)
            clear HX2 h6 h5
            go_wp2
            go_ret
            exact ⟨rfl, HB4.out⟩
        · have HX2 : Hid (Calls _ _ _ w3 _) := HBal.out w3 (per - 1) hR.out.1
          have HB3 : Hid (Below w.heap.size w w3) := HBw.out.trans (hR.out.1.mono HBw.out.size)
          have HW : Hid (OeR (ldUpTo per) G R ∧ IsBl w3 sR R cR ∧ Below wr.heap.size wr w3) := ⟨hR.out.2.2, hR.out.2.1, hR.out.1⟩
          clear HX1 HBal hR h4
          obtain ⟨nR, hnR⟩ : ∃ nR, R.length = nR := ⟨_, rfl⟩
          have HNR : Hid (R.length = nR) := hnR
          rw [hnR]
          clear hnR
          go_wp2_with fail
          refine HX2.out.mono ?_
          rintro e w4 (⟨h5, rfl, hb4⟩ | ⟨h5, sA, cA, A, rfl, h6⟩)
          · have HB4 : Hid (Below w.heap.size w w4) := HB3.out.trans (hb4.out.mono HB3.out.size)
            clear HX2 hb4 h5 HW
            generalize oeE (ldUpTo (per - 1)) G = m5 at *
            go_wp2
            go_ret
            exact ⟨rfl, HB4.out⟩
          · have HB4 : Hid (Below w.heap.size w w4 ∧ Below wr.heap.size wr w4) := ⟨HB3.out.trans (h6.out.1.mono HB3.out.size), HW.out.2.2.trans (h6.out.1.mono HW.out.2.2.size)⟩
            have HR4 : Hid (OeR (ldUpTo per) G R ∧ IsBl w4 sR R cR) := ⟨HW.out.1, HW.out.2.1.below h6.out.1⟩
            have HA4 : Hid (OeR (ldUpTo (per - 1)) G A ∧ IsBl w4 sA A cA) := ⟨h6.out.2.2, h6.out.2.1⟩
            clear HX2 h6 h5 HW HB3
            obtain ⟨nA, hnA⟩ : ∃ nA, A.length = nA := ⟨_, rfl⟩
            have HNA : Hid (A.length = nA) := hnA
            rw [hnA]
            clear hnA
            have hnR2 : (nR : Int) ≤ 200 := by have := HR4.out.1.len; have := HNR.out; omega
            have hnA2 : (nA : Int) ≤ 200 := by have := HA4.out.1.len; have := HNA.out; omega
            go_wp2_with fail
            go_loopw [20, 21] (fun sv iv wq => ∃ i : Nat, i ≤ nR ∧ iv = .int .i64 i ∧ sv = .int .i64 (wrap64 (eSum entity cur (R.take i))) ∧ wq = w4) (fun _ iv _ => nR - (intOf iv).toNat)
            case atStart => exact ⟨0, Nat.zero_le _, rfl, eSum_start _ _ _, rfl⟩
            case round =>
              rename World => wq
              obtain ⟨i, hi, rfl, rfl, rfl⟩ := hrel
              have i0 : (0 : Int) ≤ i := by omega
              by_cases hin : i < nR
              · have i1 : (i : Int) < nR := by omega
                have hiR : i < R.length := by have := HNR.out; omega
                obtain ⟨b0, o0, rfl, hb0, hc0⟩ := HR4.out.2.some hiR
                have hx := hc0 i hiR
                have hst := eSum_take entity cur R i hiR
                obtain ⟨x, hxx⟩ : ∃ x, R.getD i bl0 = x := ⟨_, rfl⟩
                rw [hxx] at hx hst
                obtain ⟨x0, x1, x2, x3⟩ := x
                obtain ⟨d0, d1, d2, d3⟩ := hx
                simp only at d0 d1 d2 d3 hst
                have HST : Hid (eSum entity cur (R.take (i + 1)) = eSum entity cur (R.take i) + if x0 = entity ∧ x2 = cur then x3 else 0) := hst
                clear hst hxx hc0
                obtain ⟨S, hS⟩ : ∃ S, eSum entity cur (R.take i) = S := ⟨_, rfl⟩
                obtain ⟨sv, hsv⟩ : ∃ sv, wrap64 S = sv := ⟨_, rfl⟩
                have HSV : Hid (wrap64 S = sv ∧ eSum entity cur (R.take i) = S) := ⟨hsv, hS⟩
                rw [hS, hsv]
                clear hsv hS
                by_cases c1 : x0 = entity
                · by_cases c2 : x2 = cur
                  · have HN : Hid (wrap64 (sv + x3) = wrap64 (eSum entity cur (R.take (i + 1)))) := by
                      unfold Hid
                      rw [HST.out, if_pos ⟨c1, c2⟩, HSV.out.2, ← HSV.out.1, wrap64_twice]
                    subst c1 c2
                    clear HST HSV
                    go_wp2_with fail
                    go_roundw
                    case rel => exact ⟨i + 1, by omega, by go_num, by first | (rw [← HN.out]; done) | (rw [← HN.out]; rfl), by first | rfl | trivial⟩
                    case measure => simp [intOf]; omega
                  · have HN : Hid (sv = wrap64 (eSum entity cur (R.take (i + 1)))) := by
                      unfold Hid
                      rw [HST.out, if_neg (fun h => c2 h.2), Int.add_zero, HSV.out.2, HSV.out.1]
                    have c2' := en_ne c2
                    subst c1
                    clear HST HSV
                    go_wp2_with fail
                    go_roundw
                    case rel => exact ⟨i + 1, by omega, by go_num, by rw [← HN.out], by first | rfl | trivial⟩
                    case measure => simp [intOf]; omega
                · have HN : Hid (sv = wrap64 (eSum entity cur (R.take (i + 1)))) := by
                    unfold Hid
                    rw [HST.out, if_neg (fun h => c1 h.1), Int.add_zero, HSV.out.2, HSV.out.1]
                  have c1' : (x0 == entity) = false := by rw [beq_eq_false_iff_ne]; exact c1
                  clear HST HSV
                  go_wp2_with fail
                  go_roundw
                  case rel => exact ⟨i + 1, by omega, by go_num, by rw [← HN.out], by first | rfl | trivial⟩
                  case measure => simp [intOf]; omega
              · have i1 : ¬ (i : Int) < nR := by omega
                obtain rfl : i = nR := by omega
                have e0 : wrap64 (eSum entity cur (R.take i)) = 0 := by
                  have h1 : R.take i = R := by rw [← HNR.out]; exact List.take_length
                  rw [h1, oer_even HR4.out.1 HGA.out.2.1]
                  exact wrap64_zero
                rw [e0]
                clear e0
                go_upto_region 26 with fail
                go_cut [22] from 129 to 131 (fun t wx => ∃ sa sc, t = .slice sa nA sc ∧ Hid (IsBl wx sa A sc ∧ Below wq.heap.size wq wx))
                case first =>
                  by_cases hA0 : A = []
                  · have hn0 : nA = 0 := by rw [← HNA.out, hA0]; rfl
                    subst hn0
                    have HR0 : Hid (IsBl wq none A 0 ∧ Below wq.heap.size wq wq) := ⟨by rw [hA0]; exact isBl_none _ _ _, Below.refl _ _⟩
                    clear hA0 HA4
                    rcases sA with _ | ad
                    · go_wp2
                      go_meet
                      case rel => exact ⟨none, 0, rfl, HR0⟩
                    · go_wp2
                      go_meet
                      case rel => exact ⟨none, 0, rfl, HR0⟩
                  · have hA1 : 0 < A.length := List.length_pos_iff.2 hA0
                    obtain ⟨b1, o1, rfl, hb1, hc1⟩ := HA4.out.2.some hA1
                    have Hsrc : Hid (∀ j u, (blRow A)[j]? = some u → wq.cell? ((⟨b1, o1, none⟩ : Addr).add j) = some u) := bls_src hc1
                    have Hl : Hid ((blRow A).length = nA * 4) := by unfold Hid; rw [blRow_length, HNA.out]
                    obtain ⟨qi, hq, hz0, hz1, hz2⟩ := info_parts bl_info
                    have Hm1 : Hid (0 + nA ≤ maxLen) := by unfold Hid maxLen; omega
                    have Hm2 : Hid ((0 + nA) * 48 ≤ 140737488355328) := by unfold Hid; omega
                    have Hs1 : Hid (∀ u ∈ blRow A, u.oneCell' = true) := blRow_one_cell A
                    have HNil : Hid (wq.ownsRow wq.heap.size 34 4 (.slice none 0 0) 0 []) := World.ownsRow_nil _ _ _ _
                    have HNx : Hid (∀ v' U, U.ownsRow wq.heap.size 34 4 v' nA (blRow A) → wq.grownBy U (Value.slice none 0 0).ownBlock → ∃ sa sc, v' = .slice sa nA sc ∧ Hid (IsBl U sa A sc ∧ Below wq.heap.size wq U)) := fun v' U ho hg => by
                      have hrow : BlRow U wq.heap.size v' A := by
                        unfold BlRow
                        rw [HNA.out]
                        exact ho
                      obtain ⟨sa, sc, rfl, hI⟩ := hrow.isBl
                      exact ⟨sa, sc, by rw [HNA.out], hI, (Below.refl _ _).grown hg (Nat.le_refl _) (fun j e => by cases e)⟩
                    clear hc1 hA1 hA0
                    go_wp2_with (at_builtin; refine wpList_append_own _ rfl _ _ 24 rfl wq.heap.size 34 qi (.agg #[.int .i64 0, .string ByteArray.empty, .string ByteArray.empty, .int .i64 0]) 4 48 Try.underlying24 hq hz0 hz1 hz2 rfl (by decide) _ 0 [] rfl HNil.out ⟨b1, o1, none⟩ nA _ (blRow A) rfl Hl.out Hsrc.out Hs1.out Hm1.out Hm2.out (Nat.le_refl _) ?_)
                    intro v' U ho hg _
                    obtain ⟨sa, sc, rfl, hI⟩ := HNx.out v' U ho hg
                    clear ho hg HNx Hsrc
                    go_wp2
                    go_meet
                    case rel => exact ⟨sa, sc, rfl, hI⟩
                case rest =>
                  obtain ⟨s1, q1, rfl, HI1⟩ := hcut
                  have HS0 : Hid (OeR (befE per 1) G A ∧ IsBl wc s1 A q1 ∧ Below wq.heap.size wq wc) := ⟨HA4.out.1.congr (befE_first HGA.out.2.1 per), HI1.out.1, HI1.out.2⟩
                  have HNA0 := HNA.out
                  rw [← HNA0]
                  clear HI1 HA4 HNA0
                  go_wp2_with fail
                  go_loopw [22, 23] (fun av iv wz => ∃ (i : Nat) (sa : Option Addr) (sc : Nat) (A : List Bl), 1 ≤ i ∧ i ≤ 13 ∧ av = .slice sa A.length sc ∧ iv = .int .i64 i ∧ Hid (OeR (befE per i) G A ∧ IsBl wz sa A sc ∧ Below wq.heap.size wq wz)) (fun _ iv _ => 13 - (intOf iv).toNat)
                  case atStart => exact ⟨1, s1, q1, A, by omega, by omega, rfl, rfl, HS0⟩
                  case round =>
                    rename World => wz
                    clear HS0
                    obtain ⟨j, sB, cB, B, hj1, hj13, rfl, rfl, HP⟩ := hrel
                    by_cases hj : j ≤ 12
                    · have j1 : (j : Int) ≤ 12 := by omega
                      have j2 : (1 : Int) ≤ j := by omega
                      have HXt : Hid (Calls _ _ _ wz _) := HTri.out wz j per (HB4.out.2.trans (HP.out.2.2.mono HB4.out.2.size))
                      obtain ⟨nB, hnB⟩ : ∃ nB, B.length = nB := ⟨_, rfl⟩
                      have HNB : Hid (B.length = nB) := hnB
                      rw [hnB]
                      clear hnB
                      go_wp2_with fail
                      refine HXt.out.mono ?_
                      rintro e w5 (⟨h5, rfl, hb5⟩ | ⟨h5, sT, cT, T, rfl, hT⟩)
                      · have h := merge_either sB none cB 0 B [] w5 (HP.out.2.1.below hb5.out) (isBl_none _ _ _) (by have := HP.out.1.len; omega) (by simp) HP.out.1.ok (fun x hx => by simp at hx)
                        rw [HNB.out] at h
                        have HM : Hid (Calls Try.prog 8 #[.slice sB nB cB, .slice none 0 0] w5 fun e w' => (∃ m : Int, e = .returned (.tuple #[.slice none 0 0, .iface 58 (.int .i64 m)]) ∧ Hid (Below w5.heap.size w5 w')) ∨ (∃ sp cp P, e = .returned (.tuple #[.slice sp P.length cp, .nilIface]) ∧ Hid (Below w5.heap.size w5 w' ∧ IsBl w' sp P cp ∧ MgR B [] P))) := h
                        clear h
                        have HB5 : Hid (Below w.heap.size w w5) := by
                          have h1 := HB4.out.1.trans (HP.out.2.2.mono HB4.out.1.size)
                          exact h1.trans (hb5.out.mono h1.size)
                        clear HXt hb5 h5 HP
                        generalize oeE (ofBoth (j : Int) per) G = m5 at *
                        go_wp2_with fail
                        refine HM.out.mono ?_
                        rintro e w6 (⟨m6, rfl, hb6⟩ | ⟨sp, cp, P, rfl, hP⟩)
                        · have HB6 : Hid (Below w.heap.size w w6) := HB5.out.trans (hb6.out.mono HB5.out.size)
                          clear HM
                          go_wp2
                          go_ret
                          exact ⟨rfl, HB6.out⟩
                        · have HB6 : Hid (Below w.heap.size w w6) := HB5.out.trans (hP.out.1.mono HB5.out.size)
                          clear HM hP
                          go_wp2
                          go_ret
                          exact ⟨rfl, HB6.out⟩
                      · obtain ⟨nT, hnT⟩ : ∃ nT, T.length = nT := ⟨_, rfl⟩
                        have h := merge_either sB sT cB cT B T w5 (HP.out.2.1.below hT.out.1) hT.out.2.1 (by have := HP.out.1.len; omega) (by have := hT.out.2.2.len; omega) HP.out.1.ok hT.out.2.2.ok
                        rw [HNB.out, hnT] at h
                        have HM : Hid (Calls _ _ _ w5 _) := h
                        clear h
                        have HB5 : Hid (Below wq.heap.size wq w5) := HP.out.2.2.trans (hT.out.1.mono HP.out.2.2.size)
                        have HAT : Hid (OeR (befE per j) G B ∧ OeR (ofBoth j per) G T) := ⟨HP.out.1, hT.out.2.2⟩
                        rw [hnT]
                        clear HXt h5 HP hT hnT
                        go_wp2_with fail
                        refine HM.out.mono ?_
                        rintro e w6 (⟨m6, rfl, hb6⟩ | ⟨sp, cp, P, rfl, hP⟩)
                        · have HB6 : Hid (Below w.heap.size w w6) := by
                            have h1 := HB4.out.1.trans (HB5.out.mono HB4.out.1.size)
                            exact h1.trans (hb6.out.mono h1.size)
                          clear HM hb6
                          go_wp2
                          go_ret
                          exact ⟨rfl, HB6.out⟩
                        · have HN : Hid (OeR (befE per ((j + 1 : Nat) : Int)) G P ∧ IsBl w6 sp P cp ∧ Below wq.heap.size wq w6) := ⟨by rw [Int.natCast_add]; exact HAT.out.1.stepE HAT.out.2 hP.out.2.2, hP.out.2.1, HB5.out.trans (hP.out.1.mono HB5.out.size)⟩
                          clear HM hP
                          go_wp2_with fail
                          go_roundw
                          case rel => exact ⟨j + 1, sp, cp, P, by omega, by omega, rfl, by go_num, HN⟩
                          case measure => simp [intOf]; omega
                    · have j1 : ¬ (j : Int) ≤ 12 := by omega
                      obtain rfl : j = 13 := by omega
                      have eB : B = R := OeR.uniq HP.out.1 HR4.out.1 (befE_last HGA.out.2.1 per)
                      subst eB
                      have HXe : Hid (Calls Try.prog 9 #[.slice sB i cB, .slice sR i cR] wz fun e w' => e = .returned (.bool true) ∧ Below wz.heap.size wz w') := by
                        have h := sameBals_any sB sR cB cR B wz (by have := HR4.out.1.len; omega) HP.out.2.1 (HR4.out.2.below HP.out.2.2)
                        rw [HNR.out] at h
                        exact h
                      have HBq : Hid (Below w.heap.size w wz) := HB4.out.1.trans (HP.out.2.2.mono HB4.out.1.size)
                      have hnB := HNR.out
                      rw [hnB]
                      clear HP HR4 hnB
                      go_wp2_with (go_at_call 9; refine HXe.out.mono ?_; rintro e w9 ⟨rfl, hb9⟩)
                      go_ret
                      exact ⟨rfl, HBq.out.trans (hb9.mono HBq.out.size)⟩
end Go.Proofs.Ytkaoiljepabmeaa

namespace Go.Proofs.Ytkaoiljepabmeaa
set_option linter.unusedVariables false
set_option linter.unusedSimpArgs false
set_option maxRecDepth 100000
open Go.RowKit Go.Lib

theorem ld_add (b off i : Nat) : (⟨b, off, none⟩ : Addr).add i = ⟨b, off + i, none⟩ := by
  rcases Nat.eq_zero_or_pos i with h | h
  · subst h; simp [Addr.add]
  · simp [Addr.add]; omega
theorem ld_wf {n : Int} (h : (Lit.int .i64 n).wf = true) : -9223372036854775808 ≤ n ∧ n ≤ 9223372036854775807 := by
  simp [Lit.wf, IntKind.min, IntKind.max, IntKind.bits, IntKind.signed] at h
  omega
section
variable {H : Type} {enc : TypeId × Value → H}
theorem ld_cell_string {w : World} {base : Nat} {spare : Nat → Bool} {held : Bool} {m : Nat} {c : Value} {y : DataW H × List MemPlace} (h : DataW.trod enc Try.prog w base spare held m 9 [c] = some y) : ∃ s, c = .string s ∧ s.size ≤ maxLen := by
  cases m with
  | zero => simp [DataW.trod] at h
  | succ m =>
    rw [DataW.trod_step] at h
    unfold DataW.trodStep at h
    rw [Try.underlying9] at h
    cases c <;> simp at h
    exact ⟨_, rfl, h.1⟩

theorem ld_cell_int {w : World} {base : Nat} {spare : Nat → Bool} {held : Bool} {m : Nat} {c : Value} {y : DataW H × List MemPlace} (h : DataW.trod enc Try.prog w base spare held m 3 [c] = some y) : ∃ n, c = .int .i64 n ∧ (Lit.int .i64 n).wf = true := by
  cases m with
  | zero => simp [DataW.trod] at h
  | succ m =>
    rw [DataW.trod_step] at h
    unfold DataW.trodStep at h
    rw [Try.underlying3] at h
    cases c <;> simp at h
    rename_i k n
    obtain ⟨⟨rfl, h2⟩, _⟩ := h
    exact ⟨n, rfl, h2⟩

theorem ld_bal_cells : Try.prog.cellsOf 34 = 4 := by kernel_rfl
theorem ld_open_bal {w : World} {base : Nat} {spare : Nat → Bool} {held : Bool} {m : Nat} {cs : List Value} {x : DataW H × List MemPlace} (h : DataW.trod enc Try.prog w base spare held m 34 cs = some x) : ∃ a : Bl, cs = a.cells.toList ∧ BlOk a := by
  cases m with
  | zero => simp [DataW.trod] at h
  | succ m =>
    rw [DataW.trod_step] at h
    unfold DataW.trodStep at h
    rw [Try.underlying34] at h
    simp only [ld_bal_cells] at h
    split at h
    · rename_i hl
      match cs, hl with
      | [c0, c1, c2, c3], _ =>
        simp [ldP_str, ldP_int] at h
        cases h0 : DataW.trod enc Try.prog w base spare held m 3 [c0]
        · simp [h0] at h
        cases h1 : DataW.trod enc Try.prog w base spare held m 9 [c1]
        · simp [h0, h1] at h
        cases h2 : DataW.trod enc Try.prog w base spare held m 9 [c2]
        · simp [h0, h1, h2] at h
        cases h3 : DataW.trod enc Try.prog w base spare held m 3 [c3]
        · simp [h0, h1, h2, h3] at h
        obtain ⟨f, rfl, hf⟩ := ld_cell_int h0
        obtain ⟨s, rfl, hs⟩ := ld_cell_string h1
        obtain ⟨t, rfl, ht⟩ := ld_cell_string h2
        obtain ⟨p, rfl, hp⟩ := ld_cell_int h3
        exact ⟨⟨f, s, t, p⟩, rfl, ⟨ld_wf hf, hs, ht⟩, ld_wf hp⟩
    · cases h

/-- Balances that came in. -/
theorem ld_bls_of_trod {W : World} {a : Option Addr} {len cap fuel : Nat} {x : DataW H × List MemPlace} (h : DataW.trod enc Try.prog W 0 (fun _ => true) true fuel 24 [.slice a len cap] = some x) :
    ∃ l : List Bl, l.length = len ∧ IsBl W a l cap ∧ (∀ x ∈ l, BlOk x) ∧ len ≤ maxLen := by
  rcases Go.Deep.open_slice Try.underlying24 h with ⟨hcs, _⟩ | ⟨x, l, c, m, n, D, Pl, hcs, _, hl, hm, hmm, _, hx⟩
  · simp at hcs
    obtain ⟨rfl, rfl, rfl⟩ := hcs
    exact ⟨[], rfl, ⟨by simp, .inl rfl⟩, by simp, by unfold maxLen; omega⟩
  · simp at hcs
    obtain ⟨rfl, rfl, rfl⟩ := hcs
    have hmm2 : m = cap := hmm
    rw [ld_bal_cells] at hx
    have hr : ∀ i, i < len → ∃ r : Bl, (∀ j, j < 4 → W.cell? ((x.add (i * 4)).add j) = r.cells.toList[j]?) ∧ BlOk r := fun i hi => by
      obtain ⟨cs', h1, h2⟩ := hx i (by omega)
      obtain ⟨r, rfl, hw⟩ := ld_open_bal h2
      exact ⟨r, (World.cells?_some h1).2.2, hw⟩
    obtain ⟨f, hf⟩ := @Go.Deep.choose_lt Bl ⟨bl0⟩ _ _ hr
    have hget : ∀ k, k < len → ((List.range len).map f).getD k bl0 = f k := fun k hk => by simp [List.getD, hk]
    have hlen : ((List.range len).map f).length = len := by simp
    refine ⟨(List.range len).map f, hlen, ⟨by rw [hlen]; exact hl, ?_⟩, ?_, Nat.le_trans hl hm⟩
    · by_cases h0 : len = 0
      · subst h0
        exact .inl rfl
      · right
        obtain ⟨b, off, spot⟩ := x
        have hc : W.cell? ⟨b, off, spot⟩ = some (.int .i64 (f 0).ent) := (hf 0 (by omega)).1 0 (by omega)
        have hspot : spot = none := World.cell?_spot hc
        subst hspot
        have hlt : b < W.heap.size := World.block_lt_of_cell? _ _ hc
        refine ⟨b, off, rfl, hlt, fun k hk => ?_⟩
        rw [hlen] at hk
        rw [hget k hk]
        have C : ∀ i, i < 4 → W.cell? ⟨b, off + k * 4 + i, none⟩ = (f k).cells.toList[i]? := fun i hi => by
          have := (hf k hk).1 i hi
          rw [ld_add, ld_add] at this
          exact this
        exact ⟨C 0 (by omega), C 1 (by omega), C 2 (by omega), C 3 (by omega)⟩
    · intro y hy
      obtain ⟨k, hk, rfl⟩ := List.mem_map.1 hy
      exact (hf k (List.mem_range.1 hk)).2

end

end Go.Proofs.Ytkaoiljepabmeaa
