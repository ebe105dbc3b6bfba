/-
  Lines put together as balances: numbers alone.
-/
import Derived.Test.YtomgleknfknggaaDoorZw9
import Derived.Test.YtomgleknfknggaaDoorZw10
import Derived.Test.YtomgleknfknggaaDoorZw7
import Derived.KernelRfl
namespace Go.Proofs.YtomgleknfknggaaDoor
set_option linter.unusedVariables false
set_option linter.unusedSimpArgs false
set_option maxRecDepth 100000
open Go.RowKit Go.Lib Math

theorem pv_build_en (x0 : ByteArray) (x1 x2 : Int) (a : Option Addr) (n c : Nat) (w : World) : (Instr.build 40 #[(0, .string x0), (1, .int .i64 x1), (2, .int .i64 x2), (3, .slice a n c)]).run Tryd.prog w = .ok (.agg #[.string x0, .int .i64 x1, .int .i64 x2, .slice a n c]) w := by
  go_simp
/-- What stays while a pair's entries are made. -/
def Kp (W : World) (G P : Nat) (h0 h1 : Int) (p : Pr) : Prop := TwoAt W G h0 h1 ∧ W.heap[P]? = some (.cells p.cells 26 (0, 0))
theorem Kp.below {W W' : World} {G P : Nat} {h0 h1 : Int} {p : Pr} (h : Kp W G P h0 h1 p) (hb : Below W.heap.size W W') : Kp W' G P h0 h1 p :=
  ⟨h.1.below hb h.1.lt, (hb.block P (Array.getElem?_eq_some_iff.1 h.2).1).trans h.2⟩
theorem Kp.c4 {W : World} {G P : Nat} {h0 h1 : Int} {p : Pr} (h : Kp W G P h0 h1 p) : W.cell? ⟨P, 4, none⟩ = some (.string p.dif) := by
  have := h.2
  simp [World.cell?, this, Pr.cells]
theorem Kp.grown {W W1 : World} {G P n0 : Nat} {h0 h1 : Int} {p : Pr} {v : Value} {L : List Je} (h : Kp W G P h0 h1 p) (hm : JeRow W n0 v L) (hg : W.grownBy W1 v.ownBlock) : Kp W1 G P h0 h1 p := by
  refine ⟨(hg.block G (Array.getElem?_eq_some_iff.1 h.1).1 fun e => ?_).trans h.1, (hg.block P (Array.getElem?_eq_some_iff.1 h.2).1 fun e => ?_).trans h.2⟩
  · obtain ⟨cs, h2⟩ := made_typ hm G e.symm
    have h3 : W.heap[G]? = some (.cells #[.int .i64 h0, .int .i64 h1] 52 (0, 0)) := h.1
    rw [h3] at h2
    cases h2
  · obtain ⟨cs, h2⟩ := made_typ hm P e.symm
    rw [h.2] at h2
    cases h2
set_option maxHeartbeats 8000000 in
theorem peEntries_any (a a2 a3 : Option Addr) (cap cap2 cap3 : Nat) (c : List Ac) (l : List Pr) (b : List Bl) (cur : ByteArray) (pe : Int) (w : World) (h : IsSl w a c cap) (hl : IsPr w a2 l cap2) (hll : l.length ≤ 9223372036854775807) (hb : IsBl w a3 b cap3) (hbl : b.length ≤ 9223372036854775807) :
    Calls Tryd.prog 5 #[.slice a c.length cap, .slice a2 l.length cap2, .slice a3 b.length cap3, .string cur, .int .i64 pe] w (PeEnd c l b cur pe w) := by
  have HErr : Hid (∀ z W, z ≠ 0 → peBad c l b cur pe = z → Below w.heap.size w W → PeEnd c l b cur pe w (.returned (.tuple #[.slice none 0 0, .iface 49 (.int .i64 z)])) W) := fun z W h0 h1 h2 => by
    refine ⟨h2, fun _ => by rw [h1, chE_ne h0], fun e => absurd (h1.symm.trans e) h0⟩
  have HOk : Hid (∀ v L W, peBad c l b cur pe = 0 → Below w.heap.size w W → Made W w.heap.size v L → L.map Je.ep = peTo b cur pe l (l.length * 2) → L.length ≤ 40 → PeEnd c l b cur pe w (.returned (.tuple #[v, .nilIface])) W) := fun v L W h1 h2 h3 h4 h5 =>
    ⟨h2, fun h0 => absurd h1 h0, fun _ => ⟨v, L, rfl, h3, h4, h5⟩⟩
  have HC : Hid (Calls _ _ _ _ _) := prCheck_any a a2 cap cap2 c l w h hl hll
  by_cases c1 : prsBad c l ≠ 0
  · have HE : Hid (∀ W, Below w.heap.size w W → PeEnd c l b cur pe w (.returned (.tuple #[.slice none 0 0, .iface 49 (.int .i64 (prsBad c l))])) W) := fun W hW => HErr.out _ W c1 (by unfold peBad; rw [if_pos c1]) hW
    rw [chE_ne c1] at HC
    clear h hl hb HErr HOk
    generalize prsBad c l = z at *
    go_enter Tryd.func5, Tryd.ntmps5
    go_wp2_with fail
    refine HC.out.mono ?_
    rintro e w1 ⟨rfl, hb1⟩
    have HB1 : Hid (Below w.heap.size w w1) := hb1
    clear hb1
    go_wp2
    go_ret2
    exact HE.out _ HB1.out
  have c1' := Decidable.of_not_not c1
  rw [c1', chE_zero] at HC
  have l20 := (prsBad_ok c1').2.1
  have HLe : Hid (∀ W, Below w.heap.size w W → Calls Tryd.prog 4 #[.slice a2 l.length cap2, .slice a3 b.length cap3, .string cur] W (LeftEnd l b cur W)) := fun W hW => left_any a2 a3 cap2 cap3 l b cur W (hl.below hW) hll (hb.below hW) hbl
  by_cases c2 : lfE l b cur ≠ 0
  · have HE : Hid (∀ W, Below w.heap.size w W → PeEnd c l b cur pe w (.returned (.tuple #[.slice none 0 0, .iface 49 (.int .i64 (lfE l b cur))])) W) := fun W hW => HErr.out _ W c2 (by unfold peBad; rw [if_neg c1, if_pos c2]) hW
    have HLf : Hid (∀ W, Below w.heap.size w W → Calls Tryd.prog 4 #[.slice a2 l.length cap2, .slice a3 b.length cap3, .string cur] W fun e w' => e = .returned (.tuple #[.slice none 0 0, .iface 49 (.int .i64 (lfE l b cur))]) ∧ Below w.heap.size w w') := fun W hW => by
      refine (HLe.out W hW).mono ?_
      rintro e w' ⟨y1, y2, _⟩
      have := y2 c2
      rw [enE_ne c2] at this
      exact ⟨this, hW.trans (y1.mono hW.size)⟩
    clear h hl hb HErr HOk HLe
    generalize lfE l b cur = z at *
    go_enter Tryd.func5, Tryd.ntmps5
    go_wp2_with fail
    refine HC.out.mono ?_
    rintro e w1 ⟨rfl, hb1⟩
    go_wp2_with fail
    refine (HLf.out w1 hb1).mono ?_
    rintro e w2 ⟨rfl, hb2⟩
    have HB1 : Hid (Below w.heap.size w w2) := hb2
    clear hb1 hb2 HLf HC
    go_wp2
    go_ret2
    exact HE.out _ HB1.out
  have c2' := Decidable.of_not_not c2
  have HLf : Hid (∀ W, Below w.heap.size w W → Calls Tryd.prog 4 #[.slice a2 l.length cap2, .slice a3 b.length cap3, .string cur] W fun e w' => ∃ g, e = .returned (.tuple #[.slice (some ⟨g, 0, none⟩) l.length l.length, .nilIface]) ∧ Below w.heap.size w w') := fun W hW => by
    refine (HLe.out W hW).mono ?_
    rintro e w' ⟨y1, _, y3⟩
    obtain ⟨g, rfl, _, _⟩ := y3 c2'
    exact ⟨g, rfl, hW.trans (y1.mono hW.size)⟩
  have HPe : Hid (∀ W, Calls Tryd.prog 16 #[.int .i64 pe] W fun e w' => e = .returned (.bool (upTo pe 120)) ∧ w' = W) := fun W => isPeriod_any pe W
  cases c3 : upTo pe 120
  · have HE : Hid (∀ W, Below w.heap.size w W → PeEnd c l b cur pe w (.returned (.tuple #[.slice none 0 0, .iface 49 (.int .i64 1)])) W) := fun W hW => HErr.out _ W (by decide) (by unfold peBad; rw [if_neg c1, if_neg c2, if_pos c3]) hW
    rw [c3] at HPe
    clear h hl hb HErr HOk HLe
    go_enter Tryd.func5, Tryd.ntmps5
    go_wp2_with fail
    refine HC.out.mono ?_
    rintro e w1 ⟨rfl, hb1⟩
    go_wp2_with fail
    refine (HLf.out w1 hb1).mono ?_
    rintro e w2 ⟨g, rfl, hb2⟩
    go_wp2_with fail
    refine (HPe.out _).mono ?_
    rintro e w' ⟨rfl, hw⟩
    rw [hw]; clear hw w' HPe
    have HB1 : Hid (Below w.heap.size w w2) := hb2
    clear hb1 hb2 HLf HC
    go_wp2
    go_ret2
    exact HE.out _ HB1.out
  rw [c3] at HPe
  have HB0 : Hid (peBad c l b cur pe = firstTo (peAt b cur l) (l.length * 2)) := by unfold peBad; rw [if_neg c1, if_neg c2, c3, if_neg (by simp)]; exact rfl
  have HPr : Hid (IsPr w a2 l cap2) := hl
  have HHad : Hid (∀ (p : Pr) W, Below w.heap.size w W → Calls Tryd.prog 13 #[.agg p.cells, .slice a3 b.length cap3, .string cur] W fun e w' => e = .returned (.agg #[.int .i64 (getB b p.ea p.one cur), .int .i64 (getB b p.eb p.oth cur)]) ∧ Below W.heap.size W w') := fun p W hW => had_any a3 cap3 p b cur W (by omega) (hb.below hW)
  obtain ⟨i0, hi, hz0, hz1, hz2⟩ := info_parts je_info
  have l20i : (l.length : Int) ≤ 20 := by omega
  clear h hl hb hll c1 c1' c2 c2' c3 HLe
  go_enter Tryd.func5, Tryd.ntmps5
  go_wp2_with fail
  refine HC.out.mono ?_
  rintro e w1 ⟨rfl, hb1⟩
  go_wp2_with fail
  refine (HLf.out w1 hb1).mono ?_
  rintro e w2 ⟨gl0, rfl, hb2⟩
  go_wp2_with fail
  refine (HPe.out _).mono ?_
  rintro e w' ⟨rfl, hw⟩
  rw [hw]; clear hw w' HPe
  have HB2 : Hid (Below w.heap.size w w2) := hb2
  clear hb1 hb2 HLf HC
  go_wp2
  go_loopw [15, 44] (fun v i wr => ∃ (k : Nat) (L : List Je), k ≤ l.length ∧ i = .int .i64 k ∧ Hid (Made wr w.heap.size v L ∧ L.map Je.ep = peTo b cur pe l (k * 2) ∧ L.length ≤ k * 2) ∧ Hid (firstTo (peAt b cur l) (k * 2) = 0) ∧ Hid (Below w.heap.size w wr)) (fun _ i _ => l.length - (RowKit.intOf i).toNat)
  case atStart => exact ⟨0, [], Nat.zero_le _, rfl, ⟨Made.nil _ _, rfl, Nat.le_refl _⟩, rfl, HB2⟩
  case round =>
    obtain ⟨k, L, hk, rfl, HM, H0, HB⟩ := hrel
    obtain ⟨av, cv, ev, _⟩ := HM.out.1.isJs
    subst ev
    by_cases hkn : k < l.length
    · obtain ⟨bb, off, e, hblt, hcc⟩ := ((HPr.out).below HB.out).some hkn
      subst e
      have hc := hcc k hkn
      obtain ⟨p, hp⟩ : ∃ p, l.getD k pr0 = p := ⟨_, rfl⟩
      rw [hp] at hc
      obtain ⟨wa, hwa⟩ : ∃ wa, wr.alloc (.cells p.cells 26) = wa := ⟨_, rfl⟩
      have b11 : Below wr.heap.size wr wa := by rw [← hwa]; exact (Below.refl _ wr).alloc (Nat.le_refl _) _
      have BB2 : Below w.heap.size w wa := HB.out.trans (b11.mono HB.out.size)
      have hsa : wr.heap.size < wa.heap.size := by rw [← hwa]; simp
      have hx : PrAt wa wr.heap.size 0 p := by rw [← hwa]; exact PrAt.new wr p 26
      have HHa : Hid (Calls _ _ _ _ _) := HHad.out p wa BB2
      have HSi : Hid (∀ W, Calls Tryd.prog 17 #[.agg p.cells] W fun e w' => e = .returned (.agg #[.int .i64 p.ea, .string p.one, .int .i64 p.eb, .string p.oth]) ∧ Below W.heap.size W w') := fun W => sides_any p W
      obtain ⟨h0, e0⟩ : ∃ x, getB b p.ea p.one cur = x := ⟨_, rfl⟩
      obtain ⟨h1, e1⟩ : ∃ x, getB b p.eb p.oth cur = x := ⟨_, rfl⟩
      rw [e0, e1] at HHa
      have HE0 : Hid (getB b (l.getD k pr0).ea (l.getD k pr0).one cur = h0) := by rw [hp]; exact e0
      have HE1 : Hid (getB b (l.getD k pr0).eb (l.getD k pr0).oth cur = h1) := by rw [hp]; exact e1
      have HLk : Hid (l.getD k pr0 = p) := hp
      have HWa : Hid (wr.alloc (.cells p.cells 26) = wa) := hwa
      have hxb : wa.heap[wr.heap.size]? = some (.cells p.cells 26 (0, 0)) := by rw [← hwa]; unfold World.alloc; simp only [Array.getElem?_push_size]
      have HX : Hid (∀ W, Below wa.heap.size wa W → PrAt W wr.heap.size 0 p ∧ Below w.heap.size w W ∧ Below wr.heap.size wr W ∧ W.heap[wr.heap.size]? = some (.cells p.cells 26 (0, 0))) := fun W hW => ⟨hx.below hW hsa, BB2.trans (hW.mono BB2.size), b11.trans (hW.mono b11.size), (hW.block _ hsa).trans hxb⟩
      have hx2 := hx
      clear hcc hp hwa b11 BB2 hsa hx e0 e1 hxb
      obtain ⟨x0, x1, x2, x3, x4⟩ := p
      obtain ⟨d0, d1, d2, d3, d4⟩ := hc
      obtain ⟨f0, f1, f2, f3, f4⟩ := hx2
      obtain ⟨P, hP⟩ : ∃ P, wr.heap.size = P := ⟨_, rfl⟩
      have HPP : Hid (wr.heap.size = P) := hP
      rw [hP] at f0 f1 f2 f3 f4
      simp only [Pr.cells, Nat.zero_add] at d0 d1 d2 d3 d4 f0 f1 f2 f3 f4 HWa HX HHa HSi
      have j0 : (0 : Int) ≤ k := by omega
      have j1 : (k : Int) < l.length := by omega
      clear hP
      go_upto_region 13 with fail
      rw [HWa.out]
      try rw [HPP.out]
      clear HWa d0 d1 d2 d3 d4
      go_wp2_with fail
      refine HHa.out.mono ?_
      rintro e w3 ⟨rfl, hb3⟩
      clear f0 f1 f2 f3 f4 HHa
      obtain ⟨w4, hw4⟩ : ∃ w4, w3.alloc (.cells #[.int .i64 h0, .int .i64 h1] 52) = w4 := ⟨_, rfl⟩
      obtain ⟨G, hG⟩ : ∃ G, w3.heap.size = G := ⟨_, rfl⟩
      have ht4 : TwoAt w4 G h0 h1 := by rw [← hw4, ← hG]; exact TwoAt.new _ _ _
      have hb4 : Below wa.heap.size wa w4 := by rw [← hw4]; exact hb3.alloc hb3.size _
      have HW4 : Hid (w3.alloc (.cells #[.int .i64 h0, .int .i64 h1] 52) = w4) := hw4
      have HGG : Hid (w3.heap.size = G) := hG
      have HF : Hid (∀ W, Below w4.heap.size w4 W → Kp W G P h0 h1 ⟨x0, x1, x2, x3, x4⟩ ∧ PrAt W P 0 ⟨x0, x1, x2, x3, x4⟩ ∧ Below w.heap.size w W ∧ Below wr.heap.size wr W) := fun W hW => by
        have h := hb4.trans (hW.mono hb4.size)
        obtain ⟨q1, q2, q3, q4⟩ := HX.out W h
        rw [HPP.out] at q1 q4
        exact ⟨⟨ht4.below hW ht4.lt, q4⟩, q1, q2, q3⟩
      clear hb3 ht4 hb4 hw4 hG HX
      obtain ⟨_, ⟨f0, f1, f2, f3, f4⟩, _⟩ := HF.out w4 (Below.refl _ _)
      simp only [Nat.zero_add] at f0 f1 f2 f3 f4
      go_upto_region 14 with fail
      rw [HW4.out]
      try rw [HGG.out]
      clear HW4
      go_wp2_with fail
      refine (HSi.out w4).mono ?_
      rintro e w5 ⟨rfl, hb5⟩
      clear f0 f1 f2 f3 f4 HSi
      have HM5 : Hid (Made w5 w.heap.size (.slice av L.length cv) L ∧ L.map Je.ep = peTo b cur pe l (k * 2 + 0) ∧ L.length ≤ k * 2 + 0) := ⟨HM.out.1.below (HF.out w5 hb5).2.2.2, HM.out.2⟩
      have HB5 : Hid (Below w.heap.size w w5) := (HF.out w5 hb5).2.2.1
      have HK5 : Hid (Kp w5 G P h0 h1 ⟨x0, x1, x2, x3, x4⟩) := (HF.out w5 hb5).1
      have H05 : Hid (firstTo (peAt b cur l) (k * 2 + 0) = 0) := H0
      clear HF hb5 HM H0 HB HHad
      have ix0 : ∀ W, (Instr.index 60 (.agg #[.int .i64 x0, .string x2, .int .i64 x1, .string x3]) (.int .i64 0)).run Tryd.prog W = .ok (.agg #[.int .i64 x0, .string x2]) W := fun _ => by kernel_rfl
      have ix1 : ∀ W, (Instr.index 60 (.agg #[.int .i64 x0, .string x2, .int .i64 x1, .string x3]) (.int .i64 1)).run Tryd.prog W = .ok (.agg #[.int .i64 x1, .string x3]) W := fun _ => by kernel_rfl
      go_wp2
      obtain ⟨wE, hwE⟩ : ∃ wE, wE = wr := ⟨_, rfl⟩
      subst hwE
      go_loopw [15, 55] (fun v j wr => ∃ (q : Nat) (L : List Je), q ≤ 2 ∧ j = .int .i64 q ∧ Hid (Made wr w.heap.size v L ∧ L.map Je.ep = peTo b cur pe l (k * 2 + q) ∧ L.length ≤ k * 2 + q) ∧ Hid (firstTo (peAt b cur l) (k * 2 + q) = 0) ∧ Hid (Kp wr G P h0 h1 ⟨x0, x1, x2, x3, x4⟩) ∧ Hid (Below w.heap.size w wr)) (fun _ j _ => 2 - (RowKit.intOf j).toNat)
      case atStart => exact ⟨0, L, by omega, rfl, HM5, H05, HK5, HB5⟩
      case round =>
      obtain ⟨q, L, hq, rfl, HM, H0, HK, HB⟩ := hrel
      clear HM5 H05 HK5
      rcases (by omega : q = 0 ∨ q = 1 ∨ q = 2) with rfl | rfl | rfl
      · have HI : Hid (phas b cur l (k * 2 + 0) = h0) := by unfold phas; rw [(psd_even l k).2]; exact HE0.out
        have HPd : Hid ((psd l (k * 2 + 0)) = ⟨x0, x2⟩ ∧ (pdA l (k * 2 + 0)).dif = x4) := by rw [(psd_even l k).1, (psd_even l k).2, HLk.out]; exact ⟨rfl, rfl⟩
        have HEq : Hid (peE b cur pe l (k * 2 + 0) = if h0 = 0 then [] else [⟨refP k 0, x0, pe, mvL h0 cur x2 x4⟩]) := by
          unfold peE
          rw [HI.out, HPd.out.1, HPd.out.2, show (k * 2 + 0) / 2 = k by omega, show (k * 2 + 0) % 2 = 0 by omega]
          exact rfl
        have HAt : Hid (peAt b cur l (k * 2 + 0) = if isAmtB h0 = true then 0 else 1) := by unfold peAt; rw [HI.out]; exact rfl
        have HNx : Hid (peTo b cur pe l (k * 2 + 0 + 1) = peTo b cur pe l (k * 2 + 0) ++ peE b cur pe l (k * 2 + 0)) := peTo_next b cur pe l _
        have HBd : Hid (peAt b cur l (k * 2 + 0) = 0 → firstTo (peAt b cur l) (k * 2 + 0 + 1) = 0) := fun h => by rw [firstTo_next H0.out, h]
        have HBr : Hid (peAt b cur l (k * 2 + 0) = 1 → peBad c l b cur pe = 1) := fun h => by
          rw [HB0.out, firstTo_first H0.out (by rw [h]; decide) (by omega), h]
        obtain ⟨av, cv, ev, _⟩ := HM.out.1.isJs
        subst ev
        obtain ⟨Z, hZ⟩ : ∃ Z, wr.alloc (.cells #[.int .i64 x0, .string x2] 59) = Z := ⟨_, rfl⟩
        have hbZ : Below wr.heap.size wr Z := by rw [← hZ]; exact (Below.refl _ _).alloc (Nat.le_refl _) _
        have hsz : wr.heap.size < Z.heap.size := by rw [← hZ]; simp
        have hst : SdAt Z wr.heap.size 0 ⟨x0, x2⟩ := by rw [← hZ]; exact SdAt.new wr ⟨x0, x2⟩ 59
        have HB6 : Hid (Below w.heap.size w Z) := HB.out.trans (hbZ.mono HB.out.size)
        have HKZ : Hid (Kp Z G P h0 h1 ⟨x0, x1, x2, x3, x4⟩) := HK.out.below hbZ
        have HCl : Hid (∀ W, Below Z.heap.size Z W → W.cell? ⟨G, 0, none⟩ = some (.int .i64 h0) ∧ W.cell? ⟨wr.heap.size, 0, none⟩ = some (.int .i64 x0) ∧ W.cell? ⟨wr.heap.size, 1, none⟩ = some (.string x2) ∧ W.cell? ⟨P, 4, none⟩ = some (.string x4)) := fun W hW => by
          have t := HKZ.out.below hW
          have s := hst.below hW hsz
          exact ⟨t.1.c0, s.c0, s.c1, t.c4⟩
        have HBw : Hid (∀ W, Below Z.heap.size Z W → Kp W G P h0 h1 ⟨x0, x1, x2, x3, x4⟩ ∧ Below w.heap.size w W ∧ Below wr.heap.size wr W) := fun W hW => ⟨HKZ.out.below hW, HB6.out.trans (hW.mono HB6.out.size), hbZ.trans (hW.mono hbZ.size)⟩
        have HZ : Hid (wr.alloc (.cells #[.int .i64 x0, .string x2] 59) = Z) := hZ
        obtain ⟨f0, f1, f2, f3⟩ := HCl.out Z (Below.refl _ _)
        obtain ⟨R, hR⟩ : ∃ R, wr.heap.size = R := ⟨_, rfl⟩
        rw [hR] at f1 f2 HCl
        have HRR : Hid (wr.heap.size = R) := hR
        clear hbZ hsz hst hZ HI HPd hR
        go_upto_region 17 with fail
        rw [HZ.out]
        try rw [HRR.out]
        clear HZ
        by_cases g0 : h0 = 0
        · have HM2 : Hid (Made Z w.heap.size (.slice av L.length cv) L ∧ L.map Je.ep = peTo b cur pe l (k * 2 + 0 + 1) ∧ L.length ≤ k * 2 + 0 + 1) := by
            obtain ⟨m1, m2, m3⟩ := HM.out
            refine ⟨m1.below (HBw.out Z (Below.refl _ _)).2.2, ?_, by omega⟩
            rw [HNx.out, HEq.out, if_pos g0, List.append_nil, m2]
          have HN : Hid (firstTo (peAt b cur l) (k * 2 + 0 + 1) = 0) := HBd.out (by rw [HAt.out, g0]; exact rfl)
          rw [g0] at f0
          clear HBd HBr HEq HAt HNx HM HErr HCl HBw
          go_wp2
          go_roundw
          case rel => exact ⟨1, L, by omega, rfl, HM2, HN, HKZ, HB6⟩
          case measure => simp [RowKit.intOf]
        have g0' : (h0 == 0) = false := by rw [beq_eq_false_iff_ne]; exact g0
        have HAm : Hid (∀ W, Calls Tryd.prog 18 #[.int .i64 h0] W fun e w' => e = .returned (.bool (isAmtB h0)) ∧ w' = W) := fun W => isAmount_any h0 W
        cases g1 : isAmtB h0
        · have HE : Hid (PeEnd c l b cur pe w (.returned (.tuple #[.slice none 0 0, .iface 49 (.int .i64 1)])) Z) := HErr.out 1 Z (by decide) (HBr.out (by rw [HAt.out, g1]; exact rfl)) (HBw.out Z (Below.refl _ _)).2.1
          rw [g1] at HAm
          clear HBd HBr HEq HAt HNx HM HErr HCl HBw
          go_wp2_with fail
          refine (HAm.out _).mono ?_
          rintro e w' ⟨rfl, hw⟩
          rw [hw]; clear hw w' HAm
          go_wp2
          go_ret2
          exact HE.out
        rw [g1] at HAm
        have HN : Hid (firstTo (peAt b cur l) (k * 2 + 0 + 1) = 0) := HBd.out (by rw [HAt.out, g1]; exact rfl)
        have HP2 : Hid (peTo b cur pe l (k * 2 + 0 + 1) = peTo b cur pe l (k * 2 + 0) ++ [⟨refP k 0, x0, pe, mvL h0 cur x2 x4⟩]) := by
          rw [HNx.out, HEq.out, if_neg g0]; exact rfl
        have hamt2 := isAmtB_iff.1 g1
        unfold mostA at hamt2
        have HBg : Hid (∀ W, Calls Tryd.prog 20 #[.int .i64 h0, .string cur, .string x2, .string x4] W fun e w' => ∃ adr cap, e = .returned (.slice adr 2 cap) ∧ LnRow w' W.heap.size (.slice adr 2 cap) (mvL h0 cur x2 x4) ∧ Below W.heap.size W w') := fun W => moved_any h0 cur x2 x4 W (by omega) (by omega)
        have HIt : Hid (∀ W, Calls Tryd.prog 19 #[.int .i64 ((k : Nat) : Int)] W fun e w' => e = .returned (.string (digS k)) ∧ w' = W) := fun W => itoa_any k (by omega) W
        have HLen : Hid ((mvL h0 cur x2 x4).length = 2) := rfl
        have HRf : Hid (((⟨#[112, 97, 105, 114, 45]⟩ : ByteArray) ++ digS k) ++ ⟨#[97]⟩ = refP k 0) := rfl
        have hab : ∀ W, (Instr.slice 9 (.string ⟨#[97, 98]⟩) (some (.int .i64 0)) (some (.int .i64 1)) none).run Tryd.prog W = .ok (.string ⟨#[97]⟩) W := fun _ => by kernel_rfl
        have hd1 : ¬ 9223372036854775807 < 5 + (digS k).size := by have := digS_two k; omega
        have hd2 : ¬ 9223372036854775807 < 5 + (digS k).size + 1 := by have := digS_two k; omega
        generalize mvL h0 cur x2 x4 = gl at *
        clear HBd HBr HEq HAt HNx HErr g0 g1 hamt2
        go_wp2_with fail
        refine (HAm.out _).mono ?_
        rintro e w' ⟨rfl, hw⟩
        rw [hw]; clear hw w' HAm
        clear f0 f1 f2 f3
        go_wp2_with fail
        go_quiet ((go_at_call 19; exact Calls.quiet_of_same (HIt.out _)))
        rename Nat => nq
        try rw [HRf.out]
        generalize refP k 0 = RF at *
        have hdN : Below Z.heap.size Z (Z.drewN nq).drew := (ch_drewN (Below.refl _ Z) nq).drew
        have HCell : Hid (∀ u, Below (Z.drewN nq).drew.heap.size (Z.drewN nq).drew u → u.cell? ⟨G, 0, none⟩ = some (.int .i64 h0) ∧ u.cell? ⟨R, 0, none⟩ = some (.int .i64 x0) ∧ u.cell? ⟨R, 1, none⟩ = some (.string x2) ∧ u.cell? ⟨P, 4, none⟩ = some (.string x4)) := fun u hu => HCl.out u (hdN.trans hu)
        have HU1 : Hid (Below w.heap.size w (Z.drewN nq).drew ∧ Kp (Z.drewN nq).drew G P h0 h1 ⟨x0, x1, x2, x3, x4⟩) := ⟨(HBw.out _ hdN).2.1, (HBw.out _ hdN).1⟩
        have HU2 : Hid (Below wr.heap.size wr (Z.drewN nq).drew) := (HBw.out _ hdN).2.2
        clear hdN HCl HBw HIt hab hd1 hd2
        go_upto_region 21 with fail
        refine wp_region_drawn (by kernel_rfl) ?_
        generalize (Z.drewN nq).drew = U at *
        refine wpAny_take (i := 0) (v := .slice av L.length cv) rfl (by kernel_rfl) (by kernel_rfl) (by kernel_rfl) (fun _ _ _ h => h) (Or.inl ⟨by rfl, fun w => by go_simp⟩) ?_
        simp only [Act.put, List.getElem_toArray, List.getElem_cons_succ, List.getElem_cons_zero, List.setIfInBounds_toArray, List.set_cons_zero, List.set_cons_succ]
        refine wpAny_take (i := 1) (v := .string RF) rfl (by kernel_rfl) (by kernel_rfl) (by kernel_rfl) (fun _ _ _ h => h) (Or.inl ⟨by rfl, fun w => by go_simp⟩) ?_
        simp only [Act.put, List.getElem_toArray, List.getElem_cons_succ, List.getElem_cons_zero, List.setIfInBounds_toArray, List.set_cons_zero, List.set_cons_succ]
        refine wpAny_take (i := 2) (v := .pointer (some ⟨R, 0, none⟩)) rfl (by kernel_rfl) (by kernel_rfl) (by kernel_rfl) (fun _ _ _ h => h) (Or.inl ⟨by rfl, fun w => by go_simp⟩) ?_
        simp only [Act.put, List.getElem_toArray, List.getElem_cons_succ, List.getElem_cons_zero, List.setIfInBounds_toArray, List.set_cons_zero, List.set_cons_succ]
        refine wpAny_take (i := 4) (v := .int .i64 pe) rfl (by kernel_rfl) (by kernel_rfl) (by kernel_rfl) (fun _ _ _ h => h) (Or.inl ⟨by rfl, fun w => by go_simp⟩) ?_
        simp only [Act.put, List.getElem_toArray, List.getElem_cons_succ, List.getElem_cons_zero, List.setIfInBounds_toArray, List.set_cons_zero, List.set_cons_succ]
        refine wpAny_take (i := 5) (v := .int .i64 0) rfl (by kernel_rfl) (by kernel_rfl) (by kernel_rfl) (fun _ _ _ h => h) (Or.inl ⟨by rfl, fun w => by go_simp⟩) ?_
        simp only [Act.put, List.getElem_toArray, List.getElem_cons_succ, List.getElem_cons_zero, List.setIfInBounds_toArray, List.set_cons_zero, List.set_cons_succ]
        refine wpAny_take (i := 6) (v := .pointer (some ⟨G, 0, none⟩)) rfl (by kernel_rfl) (by kernel_rfl) (by kernel_rfl) (fun _ _ _ h => h) (Or.inl ⟨by rfl, fun w => by go_simp⟩) ?_
        simp only [Act.put, List.getElem_toArray, List.getElem_cons_succ, List.getElem_cons_zero, List.setIfInBounds_toArray, List.set_cons_zero, List.set_cons_succ]
        refine wpAny_take (i := 8) (v := .string cur) rfl (by kernel_rfl) (by kernel_rfl) (by kernel_rfl) (fun _ _ _ h => h) (Or.inl ⟨by rfl, fun w => by go_simp⟩) ?_
        simp only [Act.put, List.getElem_toArray, List.getElem_cons_succ, List.getElem_cons_zero, List.setIfInBounds_toArray, List.set_cons_zero, List.set_cons_succ]
        refine wpAny_take (i := 9) (v := .pointer (some ⟨R, 1, none⟩)) rfl (by kernel_rfl) (by kernel_rfl) (by kernel_rfl) (fun _ _ _ h => h) (Or.inl ⟨by rfl, fun w => by go_simp⟩) ?_
        simp only [Act.put, List.getElem_toArray, List.getElem_cons_succ, List.getElem_cons_zero, List.setIfInBounds_toArray, List.set_cons_zero, List.set_cons_succ]
        refine wpAny_take (i := 11) (v := .pointer (some ⟨P, 4, none⟩)) rfl (by kernel_rfl) (by kernel_rfl) (by kernel_rfl) (fun _ _ _ h => h) (Or.inl ⟨by rfl, fun w => by go_simp⟩) ?_
        simp only [Act.put, List.getElem_toArray, List.getElem_cons_succ, List.getElem_cons_zero, List.setIfInBounds_toArray, List.set_cons_zero, List.set_cons_succ]
        refine any_of_L (g := 16) (T := fun u => Below U.heap.size U u) _ _ _ _ ?_
        refine L_takeC [16, 15, 14] (i := 3) (v := .int .i64 x0) rfl (by kernel_rfl) (by kernel_rfl) (by decide) (by kernel_rfl) (by kernel_rfl) (by kernel_rfl) (by kernel_rfl) (fun _ _ _ h => h) (Or.inl ⟨by rfl, fun w' hw' => by have c0 := (HCell.out w' hw').2.1; clear hw'; go_simp⟩) (Below.refl _ _) ?_
        simp only [Act.put, List.getElem_toArray, List.getElem_cons_succ, List.getElem_cons_zero, List.setIfInBounds_toArray, List.set_cons_zero, List.set_cons_succ]
        refine L_takeC [16, 15, 14, 13] (i := 7) (v := .int .i64 h0) rfl (by kernel_rfl) (by kernel_rfl) (by decide) (by kernel_rfl) (by kernel_rfl) (by kernel_rfl) (by kernel_rfl) (fun _ _ _ h => h) (Or.inl ⟨by rfl, fun w' hw' => by have c0 := (HCell.out w' hw').1; clear hw'; go_simp⟩) (Below.refl _ _) ?_
        simp only [Act.put, List.getElem_toArray, List.getElem_cons_succ, List.getElem_cons_zero, List.setIfInBounds_toArray, List.set_cons_zero, List.set_cons_succ]
        refine L_takeC [16, 15, 14, 13] (i := 10) (v := .string x2) rfl (by kernel_rfl) (by kernel_rfl) (by decide) (by kernel_rfl) (by kernel_rfl) (by kernel_rfl) (by kernel_rfl) (fun _ _ _ h => h) (Or.inl ⟨by rfl, fun w' hw' => by have c0 := (HCell.out w' hw').2.2.1; clear hw'; go_simp⟩) (Below.refl _ _) ?_
        simp only [Act.put, List.getElem_toArray, List.getElem_cons_succ, List.getElem_cons_zero, List.setIfInBounds_toArray, List.set_cons_zero, List.set_cons_succ]
        refine L_takeC [16, 15, 14, 13] (i := 12) (v := .string x4) rfl (by kernel_rfl) (by kernel_rfl) (by decide) (by kernel_rfl) (by kernel_rfl) (by kernel_rfl) (by kernel_rfl) (fun _ _ _ h => h) (Or.inl ⟨by rfl, fun w' hw' => by have c0 := (HCell.out w' hw').2.2.2; clear hw'; go_simp⟩) (Below.refl _ _) ?_
        simp only [Act.put, List.getElem_toArray, List.getElem_cons_succ, List.getElem_cons_zero, List.setIfInBounds_toArray, List.set_cons_zero, List.set_cons_succ]
        refine L_one (i := 13) (by kernel_rfl) ?_
        refine wpOp_step rfl ?_
        intro K hK
        rw [if_pos (by rfl)]
        have hK' : Shut (∀ a w, _ → K a w) := hK
        clear hK
        go_wp2_with fail
        refine (HBg.out U).mono ?_
        rintro e W1 ⟨a4, c4, rfl, hr4, hb4⟩
        refine hK'.out _ _ ?_
        clear hK' K
        refine ⟨hb4, ?_⟩
        try simp only [Act.put, List.getElem_toArray, List.getElem_cons_succ, List.getElem_cons_zero, List.setIfInBounds_toArray, List.set_cons_zero, List.set_cons_succ]
        refine L_takeC [16, 15] (i := 14) (v := .agg #[.string RF, .int .i64 x0, .int .i64 pe, .slice a4 2 c4]) rfl (by kernel_rfl) (by kernel_rfl) (by decide) (by kernel_rfl) (by kernel_rfl) (by kernel_rfl) (by kernel_rfl) (fun _ _ _ h => h) ?_ hb4 ?_
        · exact yields_build_run (by rfl) 40 _ (by rfl) #[(0, .string RF), (1, .int .i64 x0), (2, .int .i64 pe), (3, .slice a4 2 c4)] (by simp [Act.eval]) (fun w' _ => pv_build_en _ _ _ _ _ _ w')
        simp only [Act.put, List.getElem_toArray, List.getElem_cons_succ, List.getElem_cons_zero, List.setIfInBounds_toArray, List.set_cons_zero, List.set_cons_succ]
        have HR4' : Hid (LnRow W1 U.heap.size (.slice a4 gl.length c4) gl) := by rw [HLen.out]; exact hr4
        have HB4 : Hid (Below U.heap.size U W1) := hb4
        have HAdd : Hid (∀ v' w6, World.ownsRow w6 w.heap.size 40 4 v' (L.length + 1) (jeRow L ++ (Je.mk RF x0 pe a4 c4 gl).cells.toList) → (W1.alloc (.cells #[.string RF, .int .i64 x0, .int .i64 pe, .slice a4 2 c4] 40)).grownBy w6 (Value.slice av L.length cv).ownBlock → (Made w6 w.heap.size v' (L ++ [Je.mk RF x0 pe a4 c4 gl]) ∧ (L ++ [Je.mk RF x0 pe a4 c4 gl]).map Je.ep = peTo b cur pe l (k * 2 + 0 + 1) ∧ (L ++ [Je.mk RF x0 pe a4 c4 gl]).length ≤ k * 2 + 0 + 1) ∧ Kp w6 G P h0 h1 ⟨x0, x1, x2, x3, x4⟩ ∧ Below w.heap.size w w6) := fun v' w6 h1 h2 => by
          obtain ⟨m1, m2, m3⟩ := HM.out
          have z1 := HU1.out.1.trans (HB4.out.mono HU1.out.1.size)
          have z2 := z1.alloc z1.size (.cells #[.string RF, .int .i64 x0, .int .i64 pe, .slice a4 2 c4] 40)
          have z3 : Below W1.heap.size W1 (W1.alloc (.cells #[.string RF, .int .i64 x0, .int .i64 pe, .slice a4 2 c4] 40)) := (Below.refl _ W1).alloc (Nat.le_refl _) _
          have m4 := ((m1.below HU2.out).below HB4.out).below z3
          refine ⟨⟨m4.add (x := Je.mk RF x0 pe a4 c4 gl) ((HR4'.out.below z3).mono HU1.out.1.size) h1 h2, ?_, ?_⟩, ((HU1.out.2.below HB4.out).below z3).grown m4.row h2, z2.grown h2 z2.size fun j e => m1.row.own j e⟩
          · rw [List.map_append, m2, HP2.out]; rfl
          · rw [List.length_append]; simp; exact m3
        have HRow : Hid (World.ownsRow (W1.alloc (.cells #[.string RF, .int .i64 x0, .int .i64 pe, .slice a4 2 c4] 40)) w.heap.size 40 4 (.slice av L.length cv) L.length (jeRow L)) := by
          have m4 := (HM.out.1.below HU2.out).below HB4.out
          exact World.ownsRow.alloc m4.row _
        have s2 : Hid (L.length + 1 ≤ maxLen ∧ (L.length + 1) * 56 ≤ 140737488355328) := by
          have := HM.out.2.2
          unfold Hid maxLen; omega
        have s4 : Hid (w.heap.size ≤ (W1.alloc (.cells #[.string RF, .int .i64 x0, .int .i64 pe, .slice a4 2 c4] 40)).heap.size) := by
          have z1 := HU1.out.1.size
          have z2 := HB4.out.size
          unfold Hid; simp; omega
        have HCe : Hid ((Je.mk RF x0 pe a4 c4 gl).cells.toList = [.string RF, .int .i64 x0, .int .i64 pe, .slice a4 2 c4]) := by unfold Je.cells Hid; simp only [HLen.out]
        have HOne : Hid (∀ u ∈ ([.string RF, .int .i64 x0, .int .i64 pe, .slice a4 2 c4] : List Value), u.oneCell' = true) := by rw [← HCe.out]; exact je_one _
        rw [HCe.out] at HAdd
        have hbA : Below U.heap.size U (W1.alloc (.cells #[.string RF, .int .i64 x0, .int .i64 pe, .slice a4 2 c4] 40)) := hb4.alloc hb4.size _
        clear hr4 hb4 HM HCe HBg HCell HU1 HU2 HR4' HB4
        refine L_one (i := 15) (by kernel_rfl) ?_
        refine wpOp_step rfl ?_
        intro K hK
        rw [if_pos (by rfl)]
        have hK' : Shut (∀ a w, _ → K a w) := hK
        clear hK
        go_wp2_with fail
        refine hK'.out _ _ ?_
        clear hK' K
        refine ⟨hbA, ?_⟩
        try simp only [Act.put, List.getElem_toArray, List.getElem_cons_succ, List.getElem_cons_zero, List.setIfInBounds_toArray, List.set_cons_zero, List.set_cons_succ]
        refine L_go (by kernel_rfl) (by kernel_rfl) ?_
        refine wpOp_step rfl (fun K hK => ?_)
        refine step_append_lies _ rfl (.tmp 77) (.tmp 92) 34 rfl w.heap.size 40 i0 (.agg #[.string ByteArray.empty, .int .i64 0, .int .i64 0, .slice none 0 0]) 4 56 Tryd.underlying34 hi hz0 hz1 hz2 rfl (Nat.zero_lt_succ _) (.slice av L.length cv) L.length (jeRow L) rfl HRow.out ⟨W1.heap.size, 0, none⟩ 1 1 [.string RF, .int .i64 x0, .int .i64 pe, .slice a4 2 c4] rfl rfl (World.news_of_block (four_cell W1 _ _ _ _ _)) HOne.out (Nat.zero_lt_one) s2.out.1 s2.out.2 s4.out (W1.heap.size + 1) (by simp) ?_
        intro g' cap' w6 hown' hgrow hat hlt2
        obtain ⟨hm6, hb6⟩ := HAdd.out _ w6 hown' hgrow
        have HM6 : Hid _ := hm6
        have HK7 : Hid (Kp w6 G P h0 h1 ⟨x0, x1, x2, x3, x4⟩) := hb6.1
        have HB7 : Hid (Below w.heap.size w w6) := hb6.2
        refine hK _ _ ?_
        clear hK K hown' hgrow hm6 hb6 HAdd HRow hat hlt2 hbA
        refine wpAny_take (i := 17) (v := .slice (some ⟨g', 0, none⟩) (L.length + 1) cap') rfl (by kernel_rfl) (by kernel_rfl) (by kernel_rfl) (fun _ _ _ h => h) (Or.inl ⟨by rfl, fun w => by go_simp⟩) ?_
        simp only [Act.put, List.getElem_toArray, List.getElem_cons_succ, List.getElem_cons_zero, List.setIfInBounds_toArray, List.set_cons_zero, List.set_cons_succ]
        refine wpAny_done (by kernel_rfl) ?_ _
        go_wp2
        go_roundw
        case rel => exact ⟨1, _, by omega, rfl, HM6, HN, HK7, HB7⟩
        case measure => simp [RowKit.intOf]
      · have HI : Hid (phas b cur l (k * 2 + 1) = h1) := by unfold phas; rw [(psd_odd l k).2]; exact HE1.out
        have HPd : Hid ((psd l (k * 2 + 1)) = ⟨x1, x3⟩ ∧ (pdA l (k * 2 + 1)).dif = x4) := by rw [(psd_odd l k).1, (psd_odd l k).2, HLk.out]; exact ⟨rfl, rfl⟩
        have HEq : Hid (peE b cur pe l (k * 2 + 1) = if h1 = 0 then [] else [⟨refP k 1, x1, pe, mvL h1 cur x3 x4⟩]) := by
          unfold peE
          rw [HI.out, HPd.out.1, HPd.out.2, show (k * 2 + 1) / 2 = k by omega, show (k * 2 + 1) % 2 = 1 by omega]
          exact rfl
        have HAt : Hid (peAt b cur l (k * 2 + 1) = if isAmtB h1 = true then 0 else 1) := by unfold peAt; rw [HI.out]; exact rfl
        have HNx : Hid (peTo b cur pe l (k * 2 + 1 + 1) = peTo b cur pe l (k * 2 + 1) ++ peE b cur pe l (k * 2 + 1)) := peTo_next b cur pe l _
        have HBd : Hid (peAt b cur l (k * 2 + 1) = 0 → firstTo (peAt b cur l) (k * 2 + 1 + 1) = 0) := fun h => by rw [firstTo_next H0.out, h]
        have HBr : Hid (peAt b cur l (k * 2 + 1) = 1 → peBad c l b cur pe = 1) := fun h => by
          rw [HB0.out, firstTo_first H0.out (by rw [h]; decide) (by omega), h]
        obtain ⟨av, cv, ev, _⟩ := HM.out.1.isJs
        subst ev
        obtain ⟨Z, hZ⟩ : ∃ Z, wr.alloc (.cells #[.int .i64 x1, .string x3] 59) = Z := ⟨_, rfl⟩
        have hbZ : Below wr.heap.size wr Z := by rw [← hZ]; exact (Below.refl _ _).alloc (Nat.le_refl _) _
        have hsz : wr.heap.size < Z.heap.size := by rw [← hZ]; simp
        have hst : SdAt Z wr.heap.size 0 ⟨x1, x3⟩ := by rw [← hZ]; exact SdAt.new wr ⟨x1, x3⟩ 59
        have HB6 : Hid (Below w.heap.size w Z) := HB.out.trans (hbZ.mono HB.out.size)
        have HKZ : Hid (Kp Z G P h0 h1 ⟨x0, x1, x2, x3, x4⟩) := HK.out.below hbZ
        have HCl : Hid (∀ W, Below Z.heap.size Z W → W.cell? ⟨G, 1, none⟩ = some (.int .i64 h1) ∧ W.cell? ⟨wr.heap.size, 0, none⟩ = some (.int .i64 x1) ∧ W.cell? ⟨wr.heap.size, 1, none⟩ = some (.string x3) ∧ W.cell? ⟨P, 4, none⟩ = some (.string x4)) := fun W hW => by
          have t := HKZ.out.below hW
          have s := hst.below hW hsz
          exact ⟨t.1.c1, s.c0, s.c1, t.c4⟩
        have HBw : Hid (∀ W, Below Z.heap.size Z W → Kp W G P h0 h1 ⟨x0, x1, x2, x3, x4⟩ ∧ Below w.heap.size w W ∧ Below wr.heap.size wr W) := fun W hW => ⟨HKZ.out.below hW, HB6.out.trans (hW.mono HB6.out.size), hbZ.trans (hW.mono hbZ.size)⟩
        have HZ : Hid (wr.alloc (.cells #[.int .i64 x1, .string x3] 59) = Z) := hZ
        obtain ⟨f0, f1, f2, f3⟩ := HCl.out Z (Below.refl _ _)
        obtain ⟨R, hR⟩ : ∃ R, wr.heap.size = R := ⟨_, rfl⟩
        rw [hR] at f1 f2 HCl
        have HRR : Hid (wr.heap.size = R) := hR
        clear hbZ hsz hst hZ HI HPd hR
        go_upto_region 17 with fail
        rw [HZ.out]
        try rw [HRR.out]
        clear HZ
        by_cases g0 : h1 = 0
        · have HM2 : Hid (Made Z w.heap.size (.slice av L.length cv) L ∧ L.map Je.ep = peTo b cur pe l (k * 2 + 1 + 1) ∧ L.length ≤ k * 2 + 1 + 1) := by
            obtain ⟨m1, m2, m3⟩ := HM.out
            refine ⟨m1.below (HBw.out Z (Below.refl _ _)).2.2, ?_, by omega⟩
            rw [HNx.out, HEq.out, if_pos g0, List.append_nil, m2]
          have HN : Hid (firstTo (peAt b cur l) (k * 2 + 1 + 1) = 0) := HBd.out (by rw [HAt.out, g0]; exact rfl)
          rw [g0] at f0
          clear HBd HBr HEq HAt HNx HM HErr HCl HBw
          go_wp2
          go_roundw
          case rel => exact ⟨2, L, by omega, rfl, HM2, HN, HKZ, HB6⟩
          case measure => simp [RowKit.intOf]
        have g0' : (h1 == 0) = false := by rw [beq_eq_false_iff_ne]; exact g0
        have HAm : Hid (∀ W, Calls Tryd.prog 18 #[.int .i64 h1] W fun e w' => e = .returned (.bool (isAmtB h1)) ∧ w' = W) := fun W => isAmount_any h1 W
        cases g1 : isAmtB h1
        · have HE : Hid (PeEnd c l b cur pe w (.returned (.tuple #[.slice none 0 0, .iface 49 (.int .i64 1)])) Z) := HErr.out 1 Z (by decide) (HBr.out (by rw [HAt.out, g1]; exact rfl)) (HBw.out Z (Below.refl _ _)).2.1
          rw [g1] at HAm
          clear HBd HBr HEq HAt HNx HM HErr HCl HBw
          go_wp2_with fail
          refine (HAm.out _).mono ?_
          rintro e w' ⟨rfl, hw⟩
          rw [hw]; clear hw w' HAm
          go_wp2
          go_ret2
          exact HE.out
        rw [g1] at HAm
        have HN : Hid (firstTo (peAt b cur l) (k * 2 + 1 + 1) = 0) := HBd.out (by rw [HAt.out, g1]; exact rfl)
        have HP2 : Hid (peTo b cur pe l (k * 2 + 1 + 1) = peTo b cur pe l (k * 2 + 1) ++ [⟨refP k 1, x1, pe, mvL h1 cur x3 x4⟩]) := by
          rw [HNx.out, HEq.out, if_neg g0]; exact rfl
        have hamt2 := isAmtB_iff.1 g1
        unfold mostA at hamt2
        have HBg : Hid (∀ W, Calls Tryd.prog 20 #[.int .i64 h1, .string cur, .string x3, .string x4] W fun e w' => ∃ adr cap, e = .returned (.slice adr 2 cap) ∧ LnRow w' W.heap.size (.slice adr 2 cap) (mvL h1 cur x3 x4) ∧ Below W.heap.size W w') := fun W => moved_any h1 cur x3 x4 W (by omega) (by omega)
        have HIt : Hid (∀ W, Calls Tryd.prog 19 #[.int .i64 ((k : Nat) : Int)] W fun e w' => e = .returned (.string (digS k)) ∧ w' = W) := fun W => itoa_any k (by omega) W
        have HLen : Hid ((mvL h1 cur x3 x4).length = 2) := rfl
        have HRf : Hid (((⟨#[112, 97, 105, 114, 45]⟩ : ByteArray) ++ digS k) ++ ⟨#[98]⟩ = refP k 1) := rfl
        have hab : ∀ W, (Instr.slice 9 (.string ⟨#[97, 98]⟩) (some (.int .i64 1)) (some (.int .i64 2)) none).run Tryd.prog W = .ok (.string ⟨#[98]⟩) W := fun _ => by kernel_rfl
        have hd1 : ¬ 9223372036854775807 < 5 + (digS k).size := by have := digS_two k; omega
        have hd2 : ¬ 9223372036854775807 < 5 + (digS k).size + 1 := by have := digS_two k; omega
        generalize mvL h1 cur x3 x4 = gl at *
        clear HBd HBr HEq HAt HNx HErr g0 g1 hamt2
        go_wp2_with fail
        refine (HAm.out _).mono ?_
        rintro e w' ⟨rfl, hw⟩
        rw [hw]; clear hw w' HAm
        clear f0 f1 f2 f3
        go_wp2_with fail
        go_quiet ((go_at_call 19; exact Calls.quiet_of_same (HIt.out _)))
        rename Nat => nq
        try rw [HRf.out]
        generalize refP k 1 = RF at *
        have hdN : Below Z.heap.size Z (Z.drewN nq).drew := (ch_drewN (Below.refl _ Z) nq).drew
        have HCell : Hid (∀ u, Below (Z.drewN nq).drew.heap.size (Z.drewN nq).drew u → u.cell? ⟨G, 1, none⟩ = some (.int .i64 h1) ∧ u.cell? ⟨R, 0, none⟩ = some (.int .i64 x1) ∧ u.cell? ⟨R, 1, none⟩ = some (.string x3) ∧ u.cell? ⟨P, 4, none⟩ = some (.string x4)) := fun u hu => HCl.out u (hdN.trans hu)
        have HU1 : Hid (Below w.heap.size w (Z.drewN nq).drew ∧ Kp (Z.drewN nq).drew G P h0 h1 ⟨x0, x1, x2, x3, x4⟩) := ⟨(HBw.out _ hdN).2.1, (HBw.out _ hdN).1⟩
        have HU2 : Hid (Below wr.heap.size wr (Z.drewN nq).drew) := (HBw.out _ hdN).2.2
        clear hdN HCl HBw HIt hab hd1 hd2
        go_upto_region 21 with fail
        refine wp_region_drawn (by kernel_rfl) ?_
        generalize (Z.drewN nq).drew = U at *
        refine wpAny_take (i := 0) (v := .slice av L.length cv) rfl (by kernel_rfl) (by kernel_rfl) (by kernel_rfl) (fun _ _ _ h => h) (Or.inl ⟨by rfl, fun w => by go_simp⟩) ?_
        simp only [Act.put, List.getElem_toArray, List.getElem_cons_succ, List.getElem_cons_zero, List.setIfInBounds_toArray, List.set_cons_zero, List.set_cons_succ]
        refine wpAny_take (i := 1) (v := .string RF) rfl (by kernel_rfl) (by kernel_rfl) (by kernel_rfl) (fun _ _ _ h => h) (Or.inl ⟨by rfl, fun w => by go_simp⟩) ?_
        simp only [Act.put, List.getElem_toArray, List.getElem_cons_succ, List.getElem_cons_zero, List.setIfInBounds_toArray, List.set_cons_zero, List.set_cons_succ]
        refine wpAny_take (i := 2) (v := .pointer (some ⟨R, 0, none⟩)) rfl (by kernel_rfl) (by kernel_rfl) (by kernel_rfl) (fun _ _ _ h => h) (Or.inl ⟨by rfl, fun w => by go_simp⟩) ?_
        simp only [Act.put, List.getElem_toArray, List.getElem_cons_succ, List.getElem_cons_zero, List.setIfInBounds_toArray, List.set_cons_zero, List.set_cons_succ]
        refine wpAny_take (i := 4) (v := .int .i64 pe) rfl (by kernel_rfl) (by kernel_rfl) (by kernel_rfl) (fun _ _ _ h => h) (Or.inl ⟨by rfl, fun w => by go_simp⟩) ?_
        simp only [Act.put, List.getElem_toArray, List.getElem_cons_succ, List.getElem_cons_zero, List.setIfInBounds_toArray, List.set_cons_zero, List.set_cons_succ]
        refine wpAny_take (i := 5) (v := .int .i64 1) rfl (by kernel_rfl) (by kernel_rfl) (by kernel_rfl) (fun _ _ _ h => h) (Or.inl ⟨by rfl, fun w => by go_simp⟩) ?_
        simp only [Act.put, List.getElem_toArray, List.getElem_cons_succ, List.getElem_cons_zero, List.setIfInBounds_toArray, List.set_cons_zero, List.set_cons_succ]
        refine wpAny_take (i := 6) (v := .pointer (some ⟨G, 1, none⟩)) rfl (by kernel_rfl) (by kernel_rfl) (by kernel_rfl) (fun _ _ _ h => h) (Or.inl ⟨by rfl, fun w => by go_simp⟩) ?_
        simp only [Act.put, List.getElem_toArray, List.getElem_cons_succ, List.getElem_cons_zero, List.setIfInBounds_toArray, List.set_cons_zero, List.set_cons_succ]
        refine wpAny_take (i := 8) (v := .string cur) rfl (by kernel_rfl) (by kernel_rfl) (by kernel_rfl) (fun _ _ _ h => h) (Or.inl ⟨by rfl, fun w => by go_simp⟩) ?_
        simp only [Act.put, List.getElem_toArray, List.getElem_cons_succ, List.getElem_cons_zero, List.setIfInBounds_toArray, List.set_cons_zero, List.set_cons_succ]
        refine wpAny_take (i := 9) (v := .pointer (some ⟨R, 1, none⟩)) rfl (by kernel_rfl) (by kernel_rfl) (by kernel_rfl) (fun _ _ _ h => h) (Or.inl ⟨by rfl, fun w => by go_simp⟩) ?_
        simp only [Act.put, List.getElem_toArray, List.getElem_cons_succ, List.getElem_cons_zero, List.setIfInBounds_toArray, List.set_cons_zero, List.set_cons_succ]
        refine wpAny_take (i := 11) (v := .pointer (some ⟨P, 4, none⟩)) rfl (by kernel_rfl) (by kernel_rfl) (by kernel_rfl) (fun _ _ _ h => h) (Or.inl ⟨by rfl, fun w => by go_simp⟩) ?_
        simp only [Act.put, List.getElem_toArray, List.getElem_cons_succ, List.getElem_cons_zero, List.setIfInBounds_toArray, List.set_cons_zero, List.set_cons_succ]
        refine any_of_L (g := 16) (T := fun u => Below U.heap.size U u) _ _ _ _ ?_
        refine L_takeC [16, 15, 14] (i := 3) (v := .int .i64 x1) rfl (by kernel_rfl) (by kernel_rfl) (by decide) (by kernel_rfl) (by kernel_rfl) (by kernel_rfl) (by kernel_rfl) (fun _ _ _ h => h) (Or.inl ⟨by rfl, fun w' hw' => by have c0 := (HCell.out w' hw').2.1; clear hw'; go_simp⟩) (Below.refl _ _) ?_
        simp only [Act.put, List.getElem_toArray, List.getElem_cons_succ, List.getElem_cons_zero, List.setIfInBounds_toArray, List.set_cons_zero, List.set_cons_succ]
        refine L_takeC [16, 15, 14, 13] (i := 7) (v := .int .i64 h1) rfl (by kernel_rfl) (by kernel_rfl) (by decide) (by kernel_rfl) (by kernel_rfl) (by kernel_rfl) (by kernel_rfl) (fun _ _ _ h => h) (Or.inl ⟨by rfl, fun w' hw' => by have c0 := (HCell.out w' hw').1; clear hw'; go_simp⟩) (Below.refl _ _) ?_
        simp only [Act.put, List.getElem_toArray, List.getElem_cons_succ, List.getElem_cons_zero, List.setIfInBounds_toArray, List.set_cons_zero, List.set_cons_succ]
        refine L_takeC [16, 15, 14, 13] (i := 10) (v := .string x3) rfl (by kernel_rfl) (by kernel_rfl) (by decide) (by kernel_rfl) (by kernel_rfl) (by kernel_rfl) (by kernel_rfl) (fun _ _ _ h => h) (Or.inl ⟨by rfl, fun w' hw' => by have c0 := (HCell.out w' hw').2.2.1; clear hw'; go_simp⟩) (Below.refl _ _) ?_
        simp only [Act.put, List.getElem_toArray, List.getElem_cons_succ, List.getElem_cons_zero, List.setIfInBounds_toArray, List.set_cons_zero, List.set_cons_succ]
        refine L_takeC [16, 15, 14, 13] (i := 12) (v := .string x4) rfl (by kernel_rfl) (by kernel_rfl) (by decide) (by kernel_rfl) (by kernel_rfl) (by kernel_rfl) (by kernel_rfl) (fun _ _ _ h => h) (Or.inl ⟨by rfl, fun w' hw' => by have c0 := (HCell.out w' hw').2.2.2; clear hw'; go_simp⟩) (Below.refl _ _) ?_
        simp only [Act.put, List.getElem_toArray, List.getElem_cons_succ, List.getElem_cons_zero, List.setIfInBounds_toArray, List.set_cons_zero, List.set_cons_succ]
        refine L_one (i := 13) (by kernel_rfl) ?_
        refine wpOp_step rfl ?_
        intro K hK
        rw [if_pos (by rfl)]
        have hK' : Shut (∀ a w, _ → K a w) := hK
        clear hK
        go_wp2_with fail
        refine (HBg.out U).mono ?_
        rintro e W1 ⟨a4, c4, rfl, hr4, hb4⟩
        refine hK'.out _ _ ?_
        clear hK' K
        refine ⟨hb4, ?_⟩
        try simp only [Act.put, List.getElem_toArray, List.getElem_cons_succ, List.getElem_cons_zero, List.setIfInBounds_toArray, List.set_cons_zero, List.set_cons_succ]
        refine L_takeC [16, 15] (i := 14) (v := .agg #[.string RF, .int .i64 x1, .int .i64 pe, .slice a4 2 c4]) rfl (by kernel_rfl) (by kernel_rfl) (by decide) (by kernel_rfl) (by kernel_rfl) (by kernel_rfl) (by kernel_rfl) (fun _ _ _ h => h) ?_ hb4 ?_
        · exact yields_build_run (by rfl) 40 _ (by rfl) #[(0, .string RF), (1, .int .i64 x1), (2, .int .i64 pe), (3, .slice a4 2 c4)] (by simp [Act.eval]) (fun w' _ => pv_build_en _ _ _ _ _ _ w')
        simp only [Act.put, List.getElem_toArray, List.getElem_cons_succ, List.getElem_cons_zero, List.setIfInBounds_toArray, List.set_cons_zero, List.set_cons_succ]
        have HR4' : Hid (LnRow W1 U.heap.size (.slice a4 gl.length c4) gl) := by rw [HLen.out]; exact hr4
        have HB4 : Hid (Below U.heap.size U W1) := hb4
        have HAdd : Hid (∀ v' w6, World.ownsRow w6 w.heap.size 40 4 v' (L.length + 1) (jeRow L ++ (Je.mk RF x1 pe a4 c4 gl).cells.toList) → (W1.alloc (.cells #[.string RF, .int .i64 x1, .int .i64 pe, .slice a4 2 c4] 40)).grownBy w6 (Value.slice av L.length cv).ownBlock → (Made w6 w.heap.size v' (L ++ [Je.mk RF x1 pe a4 c4 gl]) ∧ (L ++ [Je.mk RF x1 pe a4 c4 gl]).map Je.ep = peTo b cur pe l (k * 2 + 1 + 1) ∧ (L ++ [Je.mk RF x1 pe a4 c4 gl]).length ≤ k * 2 + 1 + 1) ∧ Kp w6 G P h0 h1 ⟨x0, x1, x2, x3, x4⟩ ∧ Below w.heap.size w w6) := fun v' w6 h1 h2 => by
          obtain ⟨m1, m2, m3⟩ := HM.out
          have z1 := HU1.out.1.trans (HB4.out.mono HU1.out.1.size)
          have z2 := z1.alloc z1.size (.cells #[.string RF, .int .i64 x1, .int .i64 pe, .slice a4 2 c4] 40)
          have z3 : Below W1.heap.size W1 (W1.alloc (.cells #[.string RF, .int .i64 x1, .int .i64 pe, .slice a4 2 c4] 40)) := (Below.refl _ W1).alloc (Nat.le_refl _) _
          have m4 := ((m1.below HU2.out).below HB4.out).below z3
          refine ⟨⟨m4.add (x := Je.mk RF x1 pe a4 c4 gl) ((HR4'.out.below z3).mono HU1.out.1.size) h1 h2, ?_, ?_⟩, ((HU1.out.2.below HB4.out).below z3).grown m4.row h2, z2.grown h2 z2.size fun j e => m1.row.own j e⟩
          · rw [List.map_append, m2, HP2.out]; rfl
          · rw [List.length_append]; simp; exact m3
        have HRow : Hid (World.ownsRow (W1.alloc (.cells #[.string RF, .int .i64 x1, .int .i64 pe, .slice a4 2 c4] 40)) w.heap.size 40 4 (.slice av L.length cv) L.length (jeRow L)) := by
          have m4 := (HM.out.1.below HU2.out).below HB4.out
          exact World.ownsRow.alloc m4.row _
        have s2 : Hid (L.length + 1 ≤ maxLen ∧ (L.length + 1) * 56 ≤ 140737488355328) := by
          have := HM.out.2.2
          unfold Hid maxLen; omega
        have s4 : Hid (w.heap.size ≤ (W1.alloc (.cells #[.string RF, .int .i64 x1, .int .i64 pe, .slice a4 2 c4] 40)).heap.size) := by
          have z1 := HU1.out.1.size
          have z2 := HB4.out.size
          unfold Hid; simp; omega
        have HCe : Hid ((Je.mk RF x1 pe a4 c4 gl).cells.toList = [.string RF, .int .i64 x1, .int .i64 pe, .slice a4 2 c4]) := by unfold Je.cells Hid; simp only [HLen.out]
        have HOne : Hid (∀ u ∈ ([.string RF, .int .i64 x1, .int .i64 pe, .slice a4 2 c4] : List Value), u.oneCell' = true) := by rw [← HCe.out]; exact je_one _
        rw [HCe.out] at HAdd
        have hbA : Below U.heap.size U (W1.alloc (.cells #[.string RF, .int .i64 x1, .int .i64 pe, .slice a4 2 c4] 40)) := hb4.alloc hb4.size _
        clear hr4 hb4 HM HCe HBg HCell HU1 HU2 HR4' HB4
        refine L_one (i := 15) (by kernel_rfl) ?_
        refine wpOp_step rfl ?_
        intro K hK
        rw [if_pos (by rfl)]
        have hK' : Shut (∀ a w, _ → K a w) := hK
        clear hK
        go_wp2_with fail
        refine hK'.out _ _ ?_
        clear hK' K
        refine ⟨hbA, ?_⟩
        try simp only [Act.put, List.getElem_toArray, List.getElem_cons_succ, List.getElem_cons_zero, List.setIfInBounds_toArray, List.set_cons_zero, List.set_cons_succ]
        refine L_go (by kernel_rfl) (by kernel_rfl) ?_
        refine wpOp_step rfl (fun K hK => ?_)
        refine step_append_lies _ rfl (.tmp 77) (.tmp 92) 34 rfl w.heap.size 40 i0 (.agg #[.string ByteArray.empty, .int .i64 0, .int .i64 0, .slice none 0 0]) 4 56 Tryd.underlying34 hi hz0 hz1 hz2 rfl (Nat.zero_lt_succ _) (.slice av L.length cv) L.length (jeRow L) rfl HRow.out ⟨W1.heap.size, 0, none⟩ 1 1 [.string RF, .int .i64 x1, .int .i64 pe, .slice a4 2 c4] rfl rfl (World.news_of_block (four_cell W1 _ _ _ _ _)) HOne.out (Nat.zero_lt_one) s2.out.1 s2.out.2 s4.out (W1.heap.size + 1) (by simp) ?_
        intro g' cap' w6 hown' hgrow hat hlt2
        obtain ⟨hm6, hb6⟩ := HAdd.out _ w6 hown' hgrow
        have HM6 : Hid _ := hm6
        have HK7 : Hid (Kp w6 G P h0 h1 ⟨x0, x1, x2, x3, x4⟩) := hb6.1
        have HB7 : Hid (Below w.heap.size w w6) := hb6.2
        refine hK _ _ ?_
        clear hK K hown' hgrow hm6 hb6 HAdd HRow hat hlt2 hbA
        refine wpAny_take (i := 17) (v := .slice (some ⟨g', 0, none⟩) (L.length + 1) cap') rfl (by kernel_rfl) (by kernel_rfl) (by kernel_rfl) (fun _ _ _ h => h) (Or.inl ⟨by rfl, fun w => by go_simp⟩) ?_
        simp only [Act.put, List.getElem_toArray, List.getElem_cons_succ, List.getElem_cons_zero, List.setIfInBounds_toArray, List.set_cons_zero, List.set_cons_succ]
        refine wpAny_done (by kernel_rfl) ?_ _
        go_wp2
        go_roundw
        case rel => exact ⟨2, _, by omega, rfl, HM6, HN, HK7, HB7⟩
        case measure => simp [RowKit.intOf]
      · obtain ⟨av, cv, ev, _⟩ := HM.out.1.isJs
        subst ev
        have HM6 : Hid (Made wr w.heap.size (.slice av L.length cv) L ∧ L.map Je.ep = peTo b cur pe l ((k + 1) * 2) ∧ L.length ≤ (k + 1) * 2) := by
          rw [show (k + 1) * 2 = k * 2 + 2 by omega]; exact HM.out
        have HN : Hid (firstTo (peAt b cur l) ((k + 1) * 2) = 0) := by rw [show (k + 1) * 2 = k * 2 + 2 by omega]; exact H0.out
        have HB7 : Hid (Below w.heap.size w wr) := HB
        clear HM H0 HB HErr
        go_wp2
        go_roundw
        case rel => exact ⟨k + 1, L, by omega, by go_num, HM6, HN, HB7⟩
        case measure => simp [RowKit.intOf]; omega
    · have ek : k = l.length := by omega
      subst ek
      obtain ⟨m1, m2, m3⟩ := HM.out
      have HE : Hid (PeEnd c l b cur pe w (.returned (.tuple #[.slice av L.length cv, .nilIface])) wr) := HOk.out _ L wr (by rw [HB0.out, H0.out]) HB.out m1 m2 (by omega)
      have jn : ¬ (l.length : Int) < l.length := by omega
      clear m1 m2 m3 HM HErr HOk
      go_wp2
      go_ret2
      exact HE.out
end Go.Proofs.YtomgleknfknggaaDoor

namespace Go.Proofs.YtomgleknfknggaaDoor
set_option linter.unusedVariables false
set_option linter.unusedSimpArgs false
open Go.RowKit

def Bl.plus (y x : Bl) : Bl := ⟨y.ent, y.acc, y.cur, y.amt + x.amt⟩
theorem plus_key (y x : Bl) : (y.plus x).key = y.key := rfl
def putB : List Bl → Bl → List Bl
  | [], x => [x]
  | y :: l, x => if cmpB y x < 0 then y :: putB l x else if cmpB x y < 0 then x :: y :: l else y.plus x :: l
/-- How many stand ahead. -/
def putAt : List Bl → Bl → Nat
  | [], x => 0
  | y :: l, x => if cmpB y x < 0 then putAt l x + 1 else 0
theorem putAt_le : ∀ (l : List Bl) (x : Bl), putAt l x ≤ l.length
  | [], x => Nat.le_refl _
  | y :: l, x => by
    unfold putAt
    have := putAt_le l x
    split <;> simp <;> omega
theorem putAt_ahead : ∀ (l : List Bl) (x : Bl) (j : Nat), j < putAt l x → cmpB (l.getD j bl0) x < 0
  | [], x, j, h => by simp [putAt] at h
  | y :: l, x, j, h => by
    unfold putAt at h
    split at h
    · rename_i hy
      rcases j with _ | j
      · simpa using hy
      · have := putAt_ahead l x j (by omega)
        simpa using this
    · omega
theorem putAt_stop : ∀ (l : List Bl) (x : Bl), putAt l x < l.length → ¬ cmpB (l.getD (putAt l x) bl0) x < 0
  | [], x, h => by simp at h
  | y :: l, x, h => by
    unfold putAt at h ⊢
    split at h
    · rename_i hy
      rw [if_pos hy]
      have := putAt_stop l x (by simp at h; omega)
      simpa using this
    · rename_i hy
      rw [if_neg hy]
      simpa using hy
theorem putAt_eq {l : List Bl} {x : Bl} {k : Nat} (h1 : ∀ j, j < k → cmpB (l.getD j bl0) x < 0) (h2 : k < l.length → ¬ cmpB (l.getD k bl0) x < 0) (hk : k ≤ l.length) : k = putAt l x := by
  rcases (by omega : k < putAt l x ∨ k = putAt l x ∨ putAt l x < k) with h | h | h
  · exact absurd (putAt_ahead l x k h) (h2 (by have := putAt_le l x; omega))
  · exact h
  · exact absurd (h1 _ h) (putAt_stop l x (by omega))
theorem putB_eq : ∀ (l : List Bl) (x : Bl), putB l x = if putAt l x < l.length ∧ ¬ cmpB x (l.getD (putAt l x) bl0) < 0 then l.take (putAt l x) ++ (l.getD (putAt l x) bl0).plus x :: l.drop (putAt l x + 1) else l.take (putAt l x) ++ x :: l.drop (putAt l x)
  | [], x => by simp [putB, putAt]
  | y :: l, x => by
    unfold putB putAt
    by_cases h1 : cmpB y x < 0
    · simp only [h1, if_true, List.length_cons, Nat.add_lt_add_iff_right, List.getD_cons_succ, List.take_succ_cons, List.drop_succ_cons, putB_eq l x]
      split <;> simp
    · simp only [h1, if_false]
      by_cases h2 : cmpB x y < 0
      · simp [h2]
      · simp [h2]
theorem putB_tot (k : Pk) : ∀ (l : List Bl) (x : Bl), ltot k (putB l x) = ltot k l + if x.key = k then x.amt else 0
  | [], x => by simp [putB, ltot]
  | y :: l, x => by
    unfold putB
    split
    · rw [ltot, putB_tot k l x, ltot]; omega
    · split
      · rw [ltot]; omega
      · rename_i h1 h2
        have e : y.key = x.key := by
          false_or_by_contra
          rename_i hne
          exact h2 (cmpB_total h1 hne)
        rw [ltot, ltot, plus_key, e]
        simp only [Bl.plus]
        split <;> omega
theorem putB_keys (k : Pk) : ∀ (l : List Bl) (x : Bl), (∃ y ∈ putB l x, y.key = k) ↔ (∃ y ∈ l, y.key = k) ∨ x.key = k
  | [], x => by simp [putB]
  | y :: l, x => by
    have ih := putB_keys k l x
    simp only [List.mem_cons, exists_eq_or_imp] at ih ⊢
    unfold putB
    split
    · simp only [List.mem_cons, exists_eq_or_imp, ih, or_assoc]
    · split
      · simp only [List.mem_cons, exists_eq_or_imp]
        constructor
        · rintro (h | h)
          · exact .inr h
          · exact .inl h
        · rintro (h | h)
          · exact .inr h
          · exact .inl h
      · rename_i h1 h2
        have e : y.key = x.key := by
          false_or_by_contra
          rename_i hne
          exact h2 (cmpB_total h1 hne)
        simp only [List.mem_cons, exists_eq_or_imp, plus_key]
        constructor
        · intro h; exact .inl h
        · rintro (h | h)
          · exact h
          · exact .inl (e.trans h)
theorem cmpB_plus (y x z : Bl) : cmpB (y.plus x) z = cmpB y z ∧ cmpB z (y.plus x) = cmpB z y := ⟨rfl, rfl⟩
theorem putB_behind {y : Bl} : ∀ {l : List Bl} {x : Bl}, (∀ z ∈ l, cmpB y z < 0) → cmpB y x < 0 → ∀ z ∈ putB l x, cmpB y z < 0
  | [], x, _, hx, z, hz => by
    simp only [putB, List.mem_singleton] at hz
    rw [hz]; exact hx
  | q :: l, x, h, hx, z, hz => by
    have h1 := h q (List.mem_cons_self ..)
    have h2 : ∀ z ∈ l, cmpB y z < 0 := fun z hz => h z (List.mem_cons_of_mem _ hz)
    unfold putB at hz
    split at hz
    · rcases List.mem_cons.1 hz with rfl | hz
      · exact h1
      · exact putB_behind h2 hx z hz
    · split at hz
      · rcases List.mem_cons.1 hz with rfl | hz
        · exact hx
        · exact h z hz
      · rcases List.mem_cons.1 hz with rfl | hz
        · exact h1
        · exact h2 z hz
theorem putB_rises : ∀ {l : List Bl} {x : Bl}, Rises l → Rises (putB l x)
  | [], x, _ => List.pairwise_singleton _ _
  | y :: l, x, h => by
    obtain ⟨h1, h2⟩ := List.pairwise_cons.1 h
    unfold putB
    split
    · rename_i hy
      exact List.pairwise_cons.2 ⟨putB_behind h1 hy, putB_rises h2⟩
    · split
      · rename_i hy
        exact List.pairwise_cons.2 ⟨fun z hz => by
          rcases List.mem_cons.1 hz with rfl | hz
          · exact hy
          · exact cmpB_trans hy (h1 z hz), h⟩
      · exact List.pairwise_cons.2 ⟨h1, h2⟩
theorem putB_length : ∀ (l : List Bl) (x : Bl), (putB l x).length ≤ l.length + 1
  | [], x => by simp [putB]
  | y :: l, x => by
    have := putB_length l x
    unfold putB
    split
    · simp; exact this
    · split <;> simp
/-- All of some put into others. -/
def putL (l m : List Bl) : List Bl := m.foldl putB l
theorem putL_snoc (l m : List Bl) (k : Nat) (h : k < m.length) : putL l (m.take (k + 1)) = putB (putL l (m.take k)) (m.getD k bl0) := by
  rw [bls_take m k h, putL, List.foldl_append]; rfl
theorem putL_rises : ∀ {m l : List Bl}, Rises l → Rises (putL l m)
  | [], l, h => h
  | x :: m, l, h => putL_rises (m := m) (putB_rises h)
theorem putL_tot (k : Pk) : ∀ (m l : List Bl), ltot k (putL l m) = ltot k (l ++ m)
  | [], l => by simp [putL]
  | x :: m, l => by
    have h1 : ltot k (putL (putB l x) m) = ltot k (putB l x ++ m) := putL_tot k m (putB l x)
    show ltot k (putL (putB l x) m) = _
    rw [h1, ltot_append, putB_tot, ltot_append, ltot]
    omega
theorem putL_keys (k : Pk) : ∀ (m l : List Bl), (∃ y ∈ putL l m, y.key = k) ↔ ∃ y ∈ l ++ m, y.key = k
  | [], l => by simp [putL]
  | x :: m, l => by
    have h1 := putL_keys k m (putB l x)
    show (∃ y ∈ putL (putB l x) m, y.key = k) ↔ _
    rw [h1]
    have h2 := putB_keys k l x
    constructor
    · rintro ⟨y, hy, e⟩
      rcases List.mem_append.1 hy with hy | hy
      · rcases h2.1 ⟨y, hy, e⟩ with ⟨z, hz, ez⟩ | ez
        · exact ⟨z, List.mem_append_left _ hz, ez⟩
        · exact ⟨x, List.mem_append_right _ (List.mem_cons_self ..), ez⟩
      · exact ⟨y, List.mem_append_right _ (List.mem_cons_of_mem _ hy), e⟩
    · rintro ⟨y, hy, e⟩
      rcases List.mem_append.1 hy with hy | hy
      · obtain ⟨z, hz, ez⟩ := h2.2 (.inl ⟨y, hy, e⟩)
        exact ⟨z, List.mem_append_left _ hz, ez⟩
      · rcases List.mem_cons.1 hy with rfl | hy
        · obtain ⟨z, hz, ez⟩ := h2.2 (.inr e)
          exact ⟨z, List.mem_append_left _ hz, ez⟩
        · exact ⟨y, List.mem_append_right _ hy, e⟩
theorem putL_length : ∀ (m l : List Bl), (putL l m).length ≤ l.length + m.length
  | [], l => by simp [putL]
  | x :: m, l => by
    have h1 : (putL (putB l x) m).length ≤ _ := putL_length m (putB l x)
    have h2 := putB_length l x
    show (putL (putB l x) m).length ≤ _
    simp only [List.length_cons]
    omega
theorem Rises.nodup {l : List Bl} (h : Rises l) : (l.map Bl.key).Nodup := by
  rw [List.nodup_iff_pairwise_ne, List.pairwise_map]
  exact h.imp (fun {x y} hxy e => by have := cmpB_zero.2 e; omega)
/-- As many as there are places. -/
theorem putL_count {a b : List Bl} (ha : Rises a) : (putL a b).length = (parts (a ++ b)).length := by
  have h1 : ((putL a b).map Bl.key).Perm ((parts (a ++ b)).map Pt.key) := (List.perm_ext_iff_of_nodup (putL_rises ha).nodup (parts_nodup _)).2 (fun k => by
    rw [parts_keys, ← putL_keys k b a]
    simp)
  have := h1.length_eq
  simpa using this
theorem putL_sums {a b : List Bl} (ha : Rises a) : Sums (a ++ b) (full (putL a b)) :=
  ⟨(putL_rises ha).sublist List.filter_sublist, full_ne _, fun k => by rw [ltot_full, putL_tot]⟩
def inB (x : Bl) : Prop := -1000000000000000000 ≤ x.amt ∧ x.amt ≤ 1000000000000000000
/-- What is wrong with them, as it is looked for. -/
theorem mgE_put {a b : List Bl} (ha : chk a = 0) (hb : chk b = 0) (h2 : (putL a b).length ≤ 200) : ((∀ x ∈ full (putL a b), inB x) → mgE a b = 0) ∧ (¬ (∀ x ∈ full (putL a b), inB x) → mgE a b = 10) := by
  have fa := chk_zero.1 ha
  have fb := chk_zero.1 hb
  have hr := putL_rises (m := b) fa.rises
  have hc := putL_count (b := b) fa.rises
  have key : (∀ x ∈ full (putL a b), inB x) ↔ mgE a b = 0 := by
    rw [mgE_zero]
    constructor
    · intro h
      refine ⟨fa, fb, by omega, fun x hx => ?_⟩
      by_cases e : ltot x.key (a ++ b) = 0
      · rw [e]; omega
      · rw [← putL_tot, ← ltot_full] at e ⊢
        obtain ⟨y, hy, ey⟩ := ltot_ex e
        have h1 := ltot_mem (putL_sums (b := b) fa.rises).rises y hy
        rw [ey] at h1
        rw [h1]
        exact h y hy
    · intro h x hx
      have h1 := ltot_mem (putL_sums (b := b) fa.rises).rises x hx
      rw [ltot_full, putL_tot] at h1
      unfold inB
      rw [← h1]
      exact ltot_all h.2.2.2 _
  refine ⟨key.1, fun h => ?_⟩
  have h0 : mgE a b ≠ 0 := fun e => h (key.2 e)
  unfold mgE at h0 ⊢
  rw [if_neg (by simp [ha]), if_neg (by simp [hb]), if_neg (by omega)] at h0 ⊢
  split at h0
  · exact absurd rfl h0
  · rename_i h3
    rw [if_neg h3]
theorem mgE_put4 {a b : List Bl} (ha : chk a = 0) (hb : chk b = 0) (h2 : 200 < (putL a b).length) : mgE a b = 4 := by
  have hc := putL_count (b := b) (chk_zero.1 ha).rises
  unfold mgE
  rw [if_neg (by simp [ha]), if_neg (by simp [hb]), if_pos (by omega)]
end Go.Proofs.YtomgleknfknggaaDoor

namespace Go.Proofs.YtomgleknfknggaaDoor
set_option linter.unusedVariables false
set_option linter.unusedSimpArgs false
set_option maxRecDepth 100000
open Go.RowKit Go.Lib
theorem ldP_str : Tryd.prog.cellsOf 9 = 1 := by kernel_rfl
theorem ldP_int : Tryd.prog.cellsOf 3 = 1 := by kernel_rfl
/-- A place as it can be in memory. -/
structure PkOk (k : Pk) : Prop where
  ent : -9223372036854775808 ≤ k.1 ∧ k.1 ≤ 9223372036854775807
  acc : k.2.1.size ≤ maxLen
  cur : k.2.2.size ≤ maxLen
/-- A balance as it can be in memory. -/
structure BlOk (x : Bl) : Prop where
  key : PkOk x.key
  amt : -9223372036854775808 ≤ x.amt ∧ x.amt ≤ 9223372036854775807
end Go.Proofs.YtomgleknfknggaaDoor

namespace Go.Proofs.YtomgleknfknggaaDoor
set_option linter.unusedVariables false
set_option linter.unusedSimpArgs false
set_option maxRecDepth 100000
open Go.RowKit Go.Lib

/-- A line as a balance of an entity. -/
def lnB (en : Int) (x : Ln) : Bl := ⟨en, x.acc, x.cur, x.amt⟩
def lnsBs (en : Int) (l : List Ln) : List Bl := l.map (lnB en)
theorem hasB_key {en : Int} {acc cur : ByteArray} {x : Bl} : hasB en acc cur x = true ↔ x.key = (en, acc, cur) := by
  unfold hasB Bl.key
  simp only [Bool.and_eq_true, decide_eq_true_eq, Prod.mk.injEq]
theorem getB_tot {l : List Bl} (h : Rises l) (en : Int) (acc cur : ByteArray) : getB l en acc cur = ltot (en, acc, cur) l := by
  unfold getB
  cases hf : l.find? (hasB en acc cur) with
  | none =>
    rw [List.find?_eq_none] at hf
    rw [ltot_none _ _ (fun x hx e => hf x hx (hasB_key.2 e))]
    rfl
  | some x =>
    have h1 := hasB_key.1 (List.find?_some hf)
    have h2 := List.mem_of_find?_eq_some hf
    have h3 := ltot_mem h x h2
    rw [h1] at h3
    rw [h3]
    rfl
theorem tot_none_acc (en : Int) (acc cur : ByteArray) (l : List Ln) (h : ∀ x ∈ l, x.acc ≠ acc) : ltot (en, acc, cur) (lnsBs en l) = 0 := by
  refine ltot_none _ _ fun x hx => ?_
  obtain ⟨y, hy, rfl⟩ := List.mem_map.1 hx
  intro e
  simp only [lnB, Bl.key, Prod.mk.injEq] at e
  exact h y hy e.2.1
theorem ltot_bd (k : Pk) (M : Int) (hM : 0 ≤ M) : ∀ l : List Bl, (∀ x ∈ l, -M ≤ x.amt ∧ x.amt ≤ M) → -(M * l.length) ≤ ltot k l ∧ ltot k l ≤ M * l.length
  | [], _ => by simp [ltot]
  | x :: l, h => by
    have h1 := ltot_bd k M hM l fun y hy => h y (List.mem_cons_of_mem _ hy)
    have h2 := h x (List.mem_cons_self ..)
    rw [ltot, List.length_cons, Int.natCast_add, Int.mul_add]
    simp only [Int.natCast_one, Int.mul_one]
    split <;> omega
/-- What was put, one behind the other. -/
structure PutOk (m : List Bl) : Prop where
  len : m.length ≤ 150
  amt : ∀ x ∈ m, -1000000000000000 ≤ x.amt ∧ x.amt ≤ 1000000000000000
  key : ∀ x ∈ m, PkOk x.key
theorem put_rises (m : List Bl) : Rises (putL [] m) := putL_rises List.Pairwise.nil
theorem put_amt {m : List Bl} (h : PutOk m) : ∀ y ∈ putL [] m, -150000000000000000 ≤ y.amt ∧ y.amt ≤ 150000000000000000 := fun y hy => by
  have h1 := ltot_mem (put_rises m) y hy
  rw [putL_tot, List.nil_append] at h1
  have h2 := ltot_bd y.key 1000000000000000 (by omega) m h.amt
  have := h.len
  omega
theorem put_next {m : List Bl} (h : PutOk m) {x : Bl} (hx : -1000000000000000 ≤ x.amt ∧ x.amt ≤ 1000000000000000) : ∀ y ∈ putL [] m, y.key = x.key → -9223372036854775808 ≤ y.amt + x.amt ∧ y.amt + x.amt ≤ 9223372036854775807 := fun y hy _ => by
  have := put_amt h y hy
  omega
theorem put_ok {m : List Bl} (h : PutOk m) : ∀ x ∈ full (putL [] m), BlOk x := fun x hx => by
  have hx := (List.mem_filter.1 hx).1
  have h1 := put_amt h x hx
  obtain ⟨y, hy, e⟩ := (putL_keys x.key m []).1 ⟨x, hx, rfl⟩
  rw [List.nil_append] at hy
  exact ⟨e ▸ h.key y hy, by omega⟩
theorem PutOk.take {m : List Bl} (h : PutOk m) (k : Nat) : PutOk (m.take k) := ⟨by have := h.len; simp; omega, fun x hx => h.amt x (List.mem_of_mem_take hx), fun x hx => h.key x (List.mem_of_mem_take hx)⟩
end Go.Proofs.YtomgleknfknggaaDoor
