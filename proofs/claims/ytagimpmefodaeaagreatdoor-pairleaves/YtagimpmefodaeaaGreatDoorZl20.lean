/-
  The contracts of errors.As at a target of type *api.Errno, of plain.Told and of daysame.Error: what is told of nil, and of an api.Errno.
-/
import Derived.Test.YtagimpmefodaeaaGreatDoorZl9
import Derived.Test.YtagimpmefodaeaaGreatDoorZl15
import Derived.Test.YtagimpmefodaeaaGreatDoorZl4
import Derived.Laws.StructEq
import Derived.Deep.RegionWith
import Derived.Test.YtagimpmefodaeaaGreatDoorProg
import Derived.WalkKit
import Derived.WalkSpells
import Derived.LaidEql
import Derived.Stop.Asserts
import Derived.RowKitTokens
import Derived.Below
namespace Go.Proofs.YtagimpmefodaeaaGreatDoor
set_option linter.unusedVariables false
set_option linter.unusedSimpArgs false
set_option maxRecDepth 100000
open Go.RowKit Go.Lib Math

theorem pv_build_en (x0 : ByteArray) (x1 x2 : Int) (a : Option Addr) (n c : Nat) (w : World) : (Instr.build 73 #[(0, .string x0), (1, .int .i64 x1), (2, .int .i64 x2), (3, .slice a n c)]).run Tryz.prog w = .ok (.agg #[.string x0, .int .i64 x1, .int .i64 x2, .slice a n c]) w := by
  go_simp
/-- What stays while a pair's entries are made. -/
def Kp (W : World) (G P : Nat) (h0 h1 : Int) (p : Pr) : Prop := TwoAt W G h0 h1 ∧ W.heap[P]? = some (.cells p.cells 50 (0, 0))
theorem Kp.below {W W' : World} {G P : Nat} {h0 h1 : Int} {p : Pr} (h : Kp W G P h0 h1 p) (hb : Below W.heap.size W W') : Kp W' G P h0 h1 p :=
  ⟨h.1.below hb h.1.lt, (hb.block P (Array.getElem?_eq_some_iff.1 h.2).1).trans h.2⟩
theorem Kp.c4 {W : World} {G P : Nat} {h0 h1 : Int} {p : Pr} (h : Kp W G P h0 h1 p) : W.cell? ⟨P, 4, none⟩ = some (.string p.dif) := by
  have := h.2
  simp [World.cell?, this, Pr.cells]
theorem Kp.grown {W W1 : World} {G P n0 : Nat} {h0 h1 : Int} {p : Pr} {v : Value} {L : List Je} (h : Kp W G P h0 h1 p) (hm : JeRow W n0 v L) (hg : W.grownBy W1 v.ownBlock) : Kp W1 G P h0 h1 p := by
  refine ⟨(hg.block G (Array.getElem?_eq_some_iff.1 h.1).1 fun e => ?_).trans h.1, (hg.block P (Array.getElem?_eq_some_iff.1 h.2).1 fun e => ?_).trans h.2⟩
  · obtain ⟨cs, h2⟩ := made_typ hm G e.symm
    have h3 : W.heap[G]? = some (.cells #[.int .i64 h0, .int .i64 h1] 66 (0, 0)) := h.1
    rw [h3] at h2
    cases h2
  · obtain ⟨cs, h2⟩ := made_typ hm P e.symm
    rw [h.2] at h2
    cases h2
set_option maxHeartbeats 8000000 in
theorem peEntries_any (a a2 a3 : Option Addr) (cap cap2 cap3 : Nat) (c : List Ac) (l : List Pr) (b : List Bl) (cur : ByteArray) (pe : Int) (w : World) (h : IsSl w a c cap) (hl : IsPr w a2 l cap2) (hll : l.length ≤ 9223372036854775807) (hb : IsBl w a3 b cap3) (hbl : b.length ≤ 9223372036854775807) :
    Calls Tryz.prog 11 #[.slice a c.length cap, .slice a2 l.length cap2, .slice a3 b.length cap3, .string cur, .int .i64 pe] w (PeEnd c l b cur pe w) := by
  have HErr : Hid (∀ z W, z ≠ 0 → peBad c l b cur pe = z → Below w.heap.size w W → PeEnd c l b cur pe w (.returned (.tuple #[.slice none 0 0, .iface 43 (.int .i64 z)])) W) := fun z W h0 h1 h2 => by
    refine ⟨h2, fun _ => by rw [h1, chE_ne h0], fun e => absurd (h1.symm.trans e) h0⟩
  have HOk : Hid (∀ v L W, peBad c l b cur pe = 0 → Below w.heap.size w W → Made W w.heap.size v L → L.map Je.ep = peTo b cur pe l (l.length * 2) → L.length ≤ 40 → PeEnd c l b cur pe w (.returned (.tuple #[v, .nilIface])) W) := fun v L W h1 h2 h3 h4 h5 =>
    ⟨h2, fun h0 => absurd h1 h0, fun _ => ⟨v, L, rfl, h3, h4, h5⟩⟩
  have HC : Hid (Calls _ _ _ _ _) := prCheck_any a a2 cap cap2 c l w h hl hll
  by_cases c1 : prsBad c l ≠ 0
  · have HE : Hid (∀ W, Below w.heap.size w W → PeEnd c l b cur pe w (.returned (.tuple #[.slice none 0 0, .iface 43 (.int .i64 (prsBad c l))])) W) := fun W hW => HErr.out _ W c1 (by unfold peBad; rw [if_pos c1]) hW
    rw [chE_ne c1] at HC
    clear h hl hb HErr HOk
    generalize prsBad c l = z at *
    go_enter Tryz.func11, Tryz.ntmps11
    go_wp2_with fail
    refine HC.out.mono ?_
    rintro e w1 ⟨rfl, hb1⟩
    have HB1 : Hid (Below w.heap.size w w1) := hb1
    clear hb1
    go_wp2
    go_ret2
    exact HE.out _ HB1.out
  have c1' := Decidable.of_not_not c1
  rw [c1', chE_zero] at HC
  have l20 := (prsBad_ok c1').2.1
  have HLe : Hid (∀ W, Below w.heap.size w W → Calls Tryz.prog 8 #[.slice a2 l.length cap2, .slice a3 b.length cap3, .string cur] W (LeftEnd l b cur W)) := fun W hW => left_any a2 a3 cap2 cap3 l b cur W (hl.below hW) hll (hb.below hW) hbl
  by_cases c2 : lfE l b cur ≠ 0
  · have HE : Hid (∀ W, Below w.heap.size w W → PeEnd c l b cur pe w (.returned (.tuple #[.slice none 0 0, .iface 43 (.int .i64 (lfE l b cur))])) W) := fun W hW => HErr.out _ W c2 (by unfold peBad; rw [if_neg c1, if_pos c2]) hW
    have HLf : Hid (∀ W, Below w.heap.size w W → Calls Tryz.prog 8 #[.slice a2 l.length cap2, .slice a3 b.length cap3, .string cur] W fun e w' => e = .returned (.tuple #[.slice none 0 0, .iface 43 (.int .i64 (lfE l b cur))]) ∧ Below w.heap.size w w') := fun W hW => by
      refine (HLe.out W hW).mono ?_
      rintro e w' ⟨y1, y2, _⟩
      have := y2 c2
      rw [enE_ne c2] at this
      exact ⟨this, hW.trans (y1.mono hW.size)⟩
    clear h hl hb HErr HOk HLe
    generalize lfE l b cur = z at *
    go_enter Tryz.func11, Tryz.ntmps11
    go_wp2_with fail
    refine HC.out.mono ?_
    rintro e w1 ⟨rfl, hb1⟩
    go_wp2_with fail
    refine (HLf.out w1 hb1).mono ?_
    rintro e w2 ⟨rfl, hb2⟩
    have HB1 : Hid (Below w.heap.size w w2) := hb2
    clear hb1 hb2 HLf HC
    go_wp2
    go_ret2
    exact HE.out _ HB1.out
  have c2' := Decidable.of_not_not c2
  have HLf : Hid (∀ W, Below w.heap.size w W → Calls Tryz.prog 8 #[.slice a2 l.length cap2, .slice a3 b.length cap3, .string cur] W fun e w' => ∃ g, e = .returned (.tuple #[.slice (some ⟨g, 0, none⟩) l.length l.length, .nilIface]) ∧ Below w.heap.size w w') := fun W hW => by
    refine (HLe.out W hW).mono ?_
    rintro e w' ⟨y1, _, y3⟩
    obtain ⟨g, rfl, _, _⟩ := y3 c2'
    exact ⟨g, rfl, hW.trans (y1.mono hW.size)⟩
  have HPe : Hid (∀ W, Calls Tryz.prog 32 #[.int .i64 pe] W fun e w' => e = .returned (.bool (upTo pe 120)) ∧ w' = W) := fun W => isPeriod_any pe W
  cases c3 : upTo pe 120
  · have HE : Hid (∀ W, Below w.heap.size w W → PeEnd c l b cur pe w (.returned (.tuple #[.slice none 0 0, .iface 43 (.int .i64 1)])) W) := fun W hW => HErr.out _ W (by decide) (by unfold peBad; rw [if_neg c1, if_neg c2, if_pos c3]) hW
    rw [c3] at HPe
    clear h hl hb HErr HOk HLe
    go_enter Tryz.func11, Tryz.ntmps11
    go_wp2_with fail
    refine HC.out.mono ?_
    rintro e w1 ⟨rfl, hb1⟩
    go_wp2_with fail
    refine (HLf.out w1 hb1).mono ?_
    rintro e w2 ⟨g, rfl, hb2⟩
    go_wp2_with fail
    refine (HPe.out _).mono ?_
    rintro e w' ⟨rfl, hw⟩
    rw [hw]; clear hw w' HPe
    have HB1 : Hid (Below w.heap.size w w2) := hb2
    clear hb1 hb2 HLf HC
    go_wp2
    go_ret2
    exact HE.out _ HB1.out
  rw [c3] at HPe
  have HB0 : Hid (peBad c l b cur pe = firstTo (peAt b cur l) (l.length * 2)) := by unfold peBad; rw [if_neg c1, if_neg c2, c3, if_neg (by simp)]; exact rfl
  have HPr : Hid (IsPr w a2 l cap2) := hl
  have HHad : Hid (∀ (p : Pr) W, Below w.heap.size w W → Calls Tryz.prog 27 #[.agg p.cells, .slice a3 b.length cap3, .string cur] W fun e w' => e = .returned (.agg #[.int .i64 (getB b p.ea p.one cur), .int .i64 (getB b p.eb p.oth cur)]) ∧ Below W.heap.size W w') := fun p W hW => had_any a3 cap3 p b cur W (by omega) (hb.below hW)
  obtain ⟨i0, hi, hz0, hz1, hz2⟩ := info_parts je_info
  have l20i : (l.length : Int) ≤ 20 := by omega
  clear h hl hb hll c1 c1' c2 c2' c3 HLe
  go_enter Tryz.func11, Tryz.ntmps11
  go_wp2_with fail
  refine HC.out.mono ?_
  rintro e w1 ⟨rfl, hb1⟩
  go_wp2_with fail
  refine (HLf.out w1 hb1).mono ?_
  rintro e w2 ⟨gl0, rfl, hb2⟩
  go_wp2_with fail
  refine (HPe.out _).mono ?_
  rintro e w' ⟨rfl, hw⟩
  rw [hw]; clear hw w' HPe
  have HB2 : Hid (Below w.heap.size w w2) := hb2
  clear hb1 hb2 HLf HC
  go_wp2
  go_loopw [15, 44] (fun v i wr => ∃ (k : Nat) (L : List Je), k ≤ l.length ∧ i = .int .i64 k ∧ Hid (Made wr w.heap.size v L ∧ L.map Je.ep = peTo b cur pe l (k * 2) ∧ L.length ≤ k * 2) ∧ Hid (firstTo (peAt b cur l) (k * 2) = 0) ∧ Hid (Below w.heap.size w wr)) (fun _ i _ => l.length - (RowKit.intOf i).toNat)
  case atStart => exact ⟨0, [], Nat.zero_le _, rfl, ⟨Made.nil _ _, rfl, Nat.le_refl _⟩, rfl, HB2⟩
  case round =>
    obtain ⟨k, L, hk, rfl, HM, H0, HB⟩ := hrel
    obtain ⟨av, cv, ev, _⟩ := HM.out.1.isJs
    subst ev
    by_cases hkn : k < l.length
    · obtain ⟨bb, off, e, hblt, hcc⟩ := ((HPr.out).below HB.out).some hkn
      subst e
      have hc := hcc k hkn
      obtain ⟨p, hp⟩ : ∃ p, l.getD k pr0 = p := ⟨_, rfl⟩
      rw [hp] at hc
      obtain ⟨wa, hwa⟩ : ∃ wa, wr.alloc (.cells p.cells 50) = wa := ⟨_, rfl⟩
      have b11 : Below wr.heap.size wr wa := by rw [← hwa]; exact (Below.refl _ wr).alloc (Nat.le_refl _) _
      have BB2 : Below w.heap.size w wa := HB.out.trans (b11.mono HB.out.size)
      have hsa : wr.heap.size < wa.heap.size := by rw [← hwa]; simp
      have hx : PrAt wa wr.heap.size 0 p := by rw [← hwa]; exact PrAt.new wr p 50
      have HHa : Hid (Calls _ _ _ _ _) := HHad.out p wa BB2
      have HSi : Hid (∀ W, Calls Tryz.prog 16 #[.agg p.cells] W fun e w' => e = .returned (.agg #[.int .i64 p.ea, .string p.one, .int .i64 p.eb, .string p.oth]) ∧ Below W.heap.size W w') := fun W => sides_any p W
      obtain ⟨h0, e0⟩ : ∃ x, getB b p.ea p.one cur = x := ⟨_, rfl⟩
      obtain ⟨h1, e1⟩ : ∃ x, getB b p.eb p.oth cur = x := ⟨_, rfl⟩
      rw [e0, e1] at HHa
      have HE0 : Hid (getB b (l.getD k pr0).ea (l.getD k pr0).one cur = h0) := by rw [hp]; exact e0
      have HE1 : Hid (getB b (l.getD k pr0).eb (l.getD k pr0).oth cur = h1) := by rw [hp]; exact e1
      have HLk : Hid (l.getD k pr0 = p) := hp
      have HWa : Hid (wr.alloc (.cells p.cells 50) = wa) := hwa
      have hxb : wa.heap[wr.heap.size]? = some (.cells p.cells 50 (0, 0)) := by rw [← hwa]; unfold World.alloc; simp only [Array.getElem?_push_size]
      have HX : Hid (∀ W, Below wa.heap.size wa W → PrAt W wr.heap.size 0 p ∧ Below w.heap.size w W ∧ Below wr.heap.size wr W ∧ W.heap[wr.heap.size]? = some (.cells p.cells 50 (0, 0))) := fun W hW => ⟨hx.below hW hsa, BB2.trans (hW.mono BB2.size), b11.trans (hW.mono b11.size), (hW.block _ hsa).trans hxb⟩
      have hx2 := hx
      clear hcc hp hwa b11 BB2 hsa hx e0 e1 hxb
      obtain ⟨x0, x1, x2, x3, x4⟩ := p
      obtain ⟨d0, d1, d2, d3, d4⟩ := hc
      obtain ⟨f0, f1, f2, f3, f4⟩ := hx2
      obtain ⟨P, hP⟩ : ∃ P, wr.heap.size = P := ⟨_, rfl⟩
      have HPP : Hid (wr.heap.size = P) := hP
      rw [hP] at f0 f1 f2 f3 f4
      simp only [Pr.cells, Nat.zero_add] at d0 d1 d2 d3 d4 f0 f1 f2 f3 f4 HWa HX HHa HSi
      have j0 : (0 : Int) ≤ k := by omega
      have j1 : (k : Int) < l.length := by omega
      clear hP
      go_upto_region 13 with fail
      rw [HWa.out]
      try rw [HPP.out]
      clear HWa d0 d1 d2 d3 d4
      go_wp2_with fail
      refine HHa.out.mono ?_
      rintro e w3 ⟨rfl, hb3⟩
      clear f0 f1 f2 f3 f4 HHa
      obtain ⟨w4, hw4⟩ : ∃ w4, w3.alloc (.cells #[.int .i64 h0, .int .i64 h1] 66) = w4 := ⟨_, rfl⟩
      obtain ⟨G, hG⟩ : ∃ G, w3.heap.size = G := ⟨_, rfl⟩
      have ht4 : TwoAt w4 G h0 h1 := by rw [← hw4, ← hG]; exact TwoAt.new _ _ _
      have hb4 : Below wa.heap.size wa w4 := by rw [← hw4]; exact hb3.alloc hb3.size _
      have HW4 : Hid (w3.alloc (.cells #[.int .i64 h0, .int .i64 h1] 66) = w4) := hw4
      have HGG : Hid (w3.heap.size = G) := hG
      have HF : Hid (∀ W, Below w4.heap.size w4 W → Kp W G P h0 h1 ⟨x0, x1, x2, x3, x4⟩ ∧ PrAt W P 0 ⟨x0, x1, x2, x3, x4⟩ ∧ Below w.heap.size w W ∧ Below wr.heap.size wr W) := fun W hW => by
        have h := hb4.trans (hW.mono hb4.size)
        obtain ⟨q1, q2, q3, q4⟩ := HX.out W h
        rw [HPP.out] at q1 q4
        exact ⟨⟨ht4.below hW ht4.lt, q4⟩, q1, q2, q3⟩
      clear hb3 ht4 hb4 hw4 hG HX
      obtain ⟨_, ⟨f0, f1, f2, f3, f4⟩, _⟩ := HF.out w4 (Below.refl _ _)
      simp only [Nat.zero_add] at f0 f1 f2 f3 f4
      go_upto_region 14 with fail
      rw [HW4.out]
      try rw [HGG.out]
      clear HW4
      go_wp2_with fail
      refine (HSi.out w4).mono ?_
      rintro e w5 ⟨rfl, hb5⟩
      clear f0 f1 f2 f3 f4 HSi
      have HM5 : Hid (Made w5 w.heap.size (.slice av L.length cv) L ∧ L.map Je.ep = peTo b cur pe l (k * 2 + 0) ∧ L.length ≤ k * 2 + 0) := ⟨HM.out.1.below (HF.out w5 hb5).2.2.2, HM.out.2⟩
      have HB5 : Hid (Below w.heap.size w w5) := (HF.out w5 hb5).2.2.1
      have HK5 : Hid (Kp w5 G P h0 h1 ⟨x0, x1, x2, x3, x4⟩) := (HF.out w5 hb5).1
      have H05 : Hid (firstTo (peAt b cur l) (k * 2 + 0) = 0) := H0
      clear HF hb5 HM H0 HB HHad
      have ix0 : ∀ W, (Instr.index 54 (.agg #[.int .i64 x0, .string x2, .int .i64 x1, .string x3]) (.int .i64 0)).run Tryz.prog W = .ok (.agg #[.int .i64 x0, .string x2]) W := fun _ => by kernel_rfl
      have ix1 : ∀ W, (Instr.index 54 (.agg #[.int .i64 x0, .string x2, .int .i64 x1, .string x3]) (.int .i64 1)).run Tryz.prog W = .ok (.agg #[.int .i64 x1, .string x3]) W := fun _ => by kernel_rfl
      go_wp2
      obtain ⟨wE, hwE⟩ : ∃ wE, wE = wr := ⟨_, rfl⟩
      subst hwE
      go_loopw [15, 55] (fun v j wr => ∃ (q : Nat) (L : List Je), q ≤ 2 ∧ j = .int .i64 q ∧ Hid (Made wr w.heap.size v L ∧ L.map Je.ep = peTo b cur pe l (k * 2 + q) ∧ L.length ≤ k * 2 + q) ∧ Hid (firstTo (peAt b cur l) (k * 2 + q) = 0) ∧ Hid (Kp wr G P h0 h1 ⟨x0, x1, x2, x3, x4⟩) ∧ Hid (Below w.heap.size w wr)) (fun _ j _ => 2 - (RowKit.intOf j).toNat)
      case atStart => exact ⟨0, L, by omega, rfl, HM5, H05, HK5, HB5⟩
      case round =>
      obtain ⟨q, L, hq, rfl, HM, H0, HK, HB⟩ := hrel
      clear HM5 H05 HK5
      rcases (by omega : q = 0 ∨ q = 1 ∨ q = 2) with rfl | rfl | rfl
      · have HI : Hid (phas b cur l (k * 2 + 0) = h0) := by unfold phas; rw [(psd_even l k).2]; exact HE0.out
        have HPd : Hid ((psd l (k * 2 + 0)) = ⟨x0, x2⟩ ∧ (pdA l (k * 2 + 0)).dif = x4) := by rw [(psd_even l k).1, (psd_even l k).2, HLk.out]; exact ⟨rfl, rfl⟩
        have HEq : Hid (peE b cur pe l (k * 2 + 0) = if h0 = 0 then [] else [⟨refP k 0, x0, pe, mvL h0 cur x2 x4⟩]) := by
          unfold peE
          rw [HI.out, HPd.out.1, HPd.out.2, show (k * 2 + 0) / 2 = k by omega, show (k * 2 + 0) % 2 = 0 by omega]
          exact rfl
        have HAt : Hid (peAt b cur l (k * 2 + 0) = if isAmtB h0 = true then 0 else 1) := by unfold peAt; rw [HI.out]; exact rfl
        have HNx : Hid (peTo b cur pe l (k * 2 + 0 + 1) = peTo b cur pe l (k * 2 + 0) ++ peE b cur pe l (k * 2 + 0)) := peTo_next b cur pe l _
        have HBd : Hid (peAt b cur l (k * 2 + 0) = 0 → firstTo (peAt b cur l) (k * 2 + 0 + 1) = 0) := fun h => by rw [firstTo_next H0.out, h]
        have HBr : Hid (peAt b cur l (k * 2 + 0) = 1 → peBad c l b cur pe = 1) := fun h => by
          rw [HB0.out, firstTo_first H0.out (by rw [h]; decide) (by omega), h]
        obtain ⟨av, cv, ev, _⟩ := HM.out.1.isJs
        subst ev
        obtain ⟨Z, hZ⟩ : ∃ Z, wr.alloc (.cells #[.int .i64 x0, .string x2] 53) = Z := ⟨_, rfl⟩
        have hbZ : Below wr.heap.size wr Z := by rw [← hZ]; exact (Below.refl _ _).alloc (Nat.le_refl _) _
        have hsz : wr.heap.size < Z.heap.size := by rw [← hZ]; simp
        have hst : SdAt Z wr.heap.size 0 ⟨x0, x2⟩ := by rw [← hZ]; exact SdAt.new wr ⟨x0, x2⟩ 53
        have HB6 : Hid (Below w.heap.size w Z) := HB.out.trans (hbZ.mono HB.out.size)
        have HKZ : Hid (Kp Z G P h0 h1 ⟨x0, x1, x2, x3, x4⟩) := HK.out.below hbZ
        have HCl : Hid (∀ W, Below Z.heap.size Z W → W.cell? ⟨G, 0, none⟩ = some (.int .i64 h0) ∧ W.cell? ⟨wr.heap.size, 0, none⟩ = some (.int .i64 x0) ∧ W.cell? ⟨wr.heap.size, 1, none⟩ = some (.string x2) ∧ W.cell? ⟨P, 4, none⟩ = some (.string x4)) := fun W hW => by
          have t := HKZ.out.below hW
          have s := hst.below hW hsz
          exact ⟨t.1.c0, s.c0, s.c1, t.c4⟩
        have HBw : Hid (∀ W, Below Z.heap.size Z W → Kp W G P h0 h1 ⟨x0, x1, x2, x3, x4⟩ ∧ Below w.heap.size w W ∧ Below wr.heap.size wr W) := fun W hW => ⟨HKZ.out.below hW, HB6.out.trans (hW.mono HB6.out.size), hbZ.trans (hW.mono hbZ.size)⟩
        have HZ : Hid (wr.alloc (.cells #[.int .i64 x0, .string x2] 53) = Z) := hZ
        obtain ⟨f0, f1, f2, f3⟩ := HCl.out Z (Below.refl _ _)
        obtain ⟨R, hR⟩ : ∃ R, wr.heap.size = R := ⟨_, rfl⟩
        rw [hR] at f1 f2 HCl
        have HRR : Hid (wr.heap.size = R) := hR
        clear hbZ hsz hst hZ HI HPd hR
        go_upto_region 17 with fail
        rw [HZ.out]
        try rw [HRR.out]
        clear HZ
        by_cases g0 : h0 = 0
        · have HM2 : Hid (Made Z w.heap.size (.slice av L.length cv) L ∧ L.map Je.ep = peTo b cur pe l (k * 2 + 0 + 1) ∧ L.length ≤ k * 2 + 0 + 1) := by
            obtain ⟨m1, m2, m3⟩ := HM.out
            refine ⟨m1.below (HBw.out Z (Below.refl _ _)).2.2, ?_, by omega⟩
            rw [HNx.out, HEq.out, if_pos g0, List.append_nil, m2]
          have HN : Hid (firstTo (peAt b cur l) (k * 2 + 0 + 1) = 0) := HBd.out (by rw [HAt.out, g0]; exact rfl)
          rw [g0] at f0
          clear HBd HBr HEq HAt HNx HM HErr HCl HBw
          go_wp2
          go_roundw
          case rel => exact ⟨1, L, by omega, rfl, HM2, HN, HKZ, HB6⟩
          case measure => simp [RowKit.intOf]
        have g0' : (h0 == 0) = false := by rw [beq_eq_false_iff_ne]; exact g0
        have HAm : Hid (∀ W, Calls Tryz.prog 33 #[.int .i64 h0] W fun e w' => e = .returned (.bool (isAmtB h0)) ∧ w' = W) := fun W => isAmount_any h0 W
        cases g1 : isAmtB h0
        · have HE : Hid (PeEnd c l b cur pe w (.returned (.tuple #[.slice none 0 0, .iface 43 (.int .i64 1)])) Z) := HErr.out 1 Z (by decide) (HBr.out (by rw [HAt.out, g1]; exact rfl)) (HBw.out Z (Below.refl _ _)).2.1
          rw [g1] at HAm
          clear HBd HBr HEq HAt HNx HM HErr HCl HBw
          go_wp2_with fail
          refine (HAm.out _).mono ?_
          rintro e w' ⟨rfl, hw⟩
          rw [hw]; clear hw w' HAm
          go_wp2
          go_ret2
          exact HE.out
        rw [g1] at HAm
        have HN : Hid (firstTo (peAt b cur l) (k * 2 + 0 + 1) = 0) := HBd.out (by rw [HAt.out, g1]; exact rfl)
        have HP2 : Hid (peTo b cur pe l (k * 2 + 0 + 1) = peTo b cur pe l (k * 2 + 0) ++ [⟨refP k 0, x0, pe, mvL h0 cur x2 x4⟩]) := by
          rw [HNx.out, HEq.out, if_neg g0]; exact rfl
        have hamt2 := isAmtB_iff.1 g1
        unfold mostA at hamt2
        have HBg : Hid (∀ W, Calls Tryz.prog 35 #[.int .i64 h0, .string cur, .string x2, .string x4] W fun e w' => ∃ adr cap, e = .returned (.slice adr 2 cap) ∧ LnRow w' W.heap.size (.slice adr 2 cap) (mvL h0 cur x2 x4) ∧ Below W.heap.size W w') := fun W => moved_any h0 cur x2 x4 W (by omega) (by omega)
        have HIt : Hid (∀ W, Calls Tryz.prog 34 #[.int .i64 ((k : Nat) : Int)] W fun e w' => e = .returned (.string (digS k)) ∧ w' = W) := fun W => itoa_any k (by omega) W
        have HLen : Hid ((mvL h0 cur x2 x4).length = 2) := rfl
        have HRf : Hid (((⟨#[112, 97, 105, 114, 45]⟩ : ByteArray) ++ digS k) ++ ⟨#[97]⟩ = refP k 0) := rfl
        have hab : ∀ W, (Instr.slice 9 (.string ⟨#[97, 98]⟩) (some (.int .i64 0)) (some (.int .i64 1)) none).run Tryz.prog W = .ok (.string ⟨#[97]⟩) W := fun _ => by kernel_rfl
        have hd1 : ¬ 9223372036854775807 < 5 + (digS k).size := by have := digS_two k; omega
        have hd2 : ¬ 9223372036854775807 < 5 + (digS k).size + 1 := by have := digS_two k; omega
        generalize mvL h0 cur x2 x4 = gl at *
        clear HBd HBr HEq HAt HNx HErr g0 g1 hamt2
        go_wp2_with fail
        refine (HAm.out _).mono ?_
        rintro e w' ⟨rfl, hw⟩
        rw [hw]; clear hw w' HAm
        clear f0 f1 f2 f3
        go_wp2_with fail
        go_quiet ((go_at_call 34; exact Calls.quiet_of_same (HIt.out _)))
        rename Nat => nq
        try rw [HRf.out]
        generalize refP k 0 = RF at *
        have hdN : Below Z.heap.size Z (Z.drewN nq).drew := (ch_drewN (Below.refl _ Z) nq).drew
        have HCell : Hid (∀ u, Below (Z.drewN nq).drew.heap.size (Z.drewN nq).drew u → u.cell? ⟨G, 0, none⟩ = some (.int .i64 h0) ∧ u.cell? ⟨R, 0, none⟩ = some (.int .i64 x0) ∧ u.cell? ⟨R, 1, none⟩ = some (.string x2) ∧ u.cell? ⟨P, 4, none⟩ = some (.string x4)) := fun u hu => HCl.out u (hdN.trans hu)
        have HU1 : Hid (Below w.heap.size w (Z.drewN nq).drew ∧ Kp (Z.drewN nq).drew G P h0 h1 ⟨x0, x1, x2, x3, x4⟩) := ⟨(HBw.out _ hdN).2.1, (HBw.out _ hdN).1⟩
        have HU2 : Hid (Below wr.heap.size wr (Z.drewN nq).drew) := (HBw.out _ hdN).2.2
        clear hdN HCl HBw HIt hab hd1 hd2
        go_upto_region 21 with fail
        refine wp_region_drawn (by kernel_rfl) ?_
        generalize (Z.drewN nq).drew = U at *
        refine wpAny_take (i := 0) (v := .slice av L.length cv) rfl (by kernel_rfl) (by kernel_rfl) (by kernel_rfl) (fun _ _ _ h => h) (Or.inl ⟨by rfl, fun w => by go_simp⟩) ?_
        simp only [Act.put, List.getElem_toArray, List.getElem_cons_succ, List.getElem_cons_zero, List.setIfInBounds_toArray, List.set_cons_zero, List.set_cons_succ]
        refine wpAny_take (i := 1) (v := .string RF) rfl (by kernel_rfl) (by kernel_rfl) (by kernel_rfl) (fun _ _ _ h => h) (Or.inl ⟨by rfl, fun w => by go_simp⟩) ?_
        simp only [Act.put, List.getElem_toArray, List.getElem_cons_succ, List.getElem_cons_zero, List.setIfInBounds_toArray, List.set_cons_zero, List.set_cons_succ]
        refine wpAny_take (i := 2) (v := .pointer (some ⟨R, 0, none⟩)) rfl (by kernel_rfl) (by kernel_rfl) (by kernel_rfl) (fun _ _ _ h => h) (Or.inl ⟨by rfl, fun w => by go_simp⟩) ?_
        simp only [Act.put, List.getElem_toArray, List.getElem_cons_succ, List.getElem_cons_zero, List.setIfInBounds_toArray, List.set_cons_zero, List.set_cons_succ]
        refine wpAny_take (i := 4) (v := .int .i64 pe) rfl (by kernel_rfl) (by kernel_rfl) (by kernel_rfl) (fun _ _ _ h => h) (Or.inl ⟨by rfl, fun w => by go_simp⟩) ?_
        simp only [Act.put, List.getElem_toArray, List.getElem_cons_succ, List.getElem_cons_zero, List.setIfInBounds_toArray, List.set_cons_zero, List.set_cons_succ]
        refine wpAny_take (i := 5) (v := .int .i64 0) rfl (by kernel_rfl) (by kernel_rfl) (by kernel_rfl) (fun _ _ _ h => h) (Or.inl ⟨by rfl, fun w => by go_simp⟩) ?_
        simp only [Act.put, List.getElem_toArray, List.getElem_cons_succ, List.getElem_cons_zero, List.setIfInBounds_toArray, List.set_cons_zero, List.set_cons_succ]
        refine wpAny_take (i := 6) (v := .pointer (some ⟨G, 0, none⟩)) rfl (by kernel_rfl) (by kernel_rfl) (by kernel_rfl) (fun _ _ _ h => h) (Or.inl ⟨by rfl, fun w => by go_simp⟩) ?_
        simp only [Act.put, List.getElem_toArray, List.getElem_cons_succ, List.getElem_cons_zero, List.setIfInBounds_toArray, List.set_cons_zero, List.set_cons_succ]
        refine wpAny_take (i := 8) (v := .string cur) rfl (by kernel_rfl) (by kernel_rfl) (by kernel_rfl) (fun _ _ _ h => h) (Or.inl ⟨by rfl, fun w => by go_simp⟩) ?_
        simp only [Act.put, List.getElem_toArray, List.getElem_cons_succ, List.getElem_cons_zero, List.setIfInBounds_toArray, List.set_cons_zero, List.set_cons_succ]
        refine wpAny_take (i := 9) (v := .pointer (some ⟨R, 1, none⟩)) rfl (by kernel_rfl) (by kernel_rfl) (by kernel_rfl) (fun _ _ _ h => h) (Or.inl ⟨by rfl, fun w => by go_simp⟩) ?_
        simp only [Act.put, List.getElem_toArray, List.getElem_cons_succ, List.getElem_cons_zero, List.setIfInBounds_toArray, List.set_cons_zero, List.set_cons_succ]
        refine wpAny_take (i := 11) (v := .pointer (some ⟨P, 4, none⟩)) rfl (by kernel_rfl) (by kernel_rfl) (by kernel_rfl) (fun _ _ _ h => h) (Or.inl ⟨by rfl, fun w => by go_simp⟩) ?_
        simp only [Act.put, List.getElem_toArray, List.getElem_cons_succ, List.getElem_cons_zero, List.setIfInBounds_toArray, List.set_cons_zero, List.set_cons_succ]
        refine any_of_L (g := 16) (T := fun u => Below U.heap.size U u) _ _ _ _ ?_
        refine L_takeC [16, 15, 14] (i := 3) (v := .int .i64 x0) rfl (by kernel_rfl) (by kernel_rfl) (by decide) (by kernel_rfl) (by kernel_rfl) (by kernel_rfl) (by kernel_rfl) (fun _ _ _ h => h) (Or.inl ⟨by rfl, fun w' hw' => by have c0 := (HCell.out w' hw').2.1; clear hw'; go_simp⟩) (Below.refl _ _) ?_
        simp only [Act.put, List.getElem_toArray, List.getElem_cons_succ, List.getElem_cons_zero, List.setIfInBounds_toArray, List.set_cons_zero, List.set_cons_succ]
        refine L_takeC [16, 15, 14, 13] (i := 7) (v := .int .i64 h0) rfl (by kernel_rfl) (by kernel_rfl) (by decide) (by kernel_rfl) (by kernel_rfl) (by kernel_rfl) (by kernel_rfl) (fun _ _ _ h => h) (Or.inl ⟨by rfl, fun w' hw' => by have c0 := (HCell.out w' hw').1; clear hw'; go_simp⟩) (Below.refl _ _) ?_
        simp only [Act.put, List.getElem_toArray, List.getElem_cons_succ, List.getElem_cons_zero, List.setIfInBounds_toArray, List.set_cons_zero, List.set_cons_succ]
        refine L_takeC [16, 15, 14, 13] (i := 10) (v := .string x2) rfl (by kernel_rfl) (by kernel_rfl) (by decide) (by kernel_rfl) (by kernel_rfl) (by kernel_rfl) (by kernel_rfl) (fun _ _ _ h => h) (Or.inl ⟨by rfl, fun w' hw' => by have c0 := (HCell.out w' hw').2.2.1; clear hw'; go_simp⟩) (Below.refl _ _) ?_
        simp only [Act.put, List.getElem_toArray, List.getElem_cons_succ, List.getElem_cons_zero, List.setIfInBounds_toArray, List.set_cons_zero, List.set_cons_succ]
        refine L_takeC [16, 15, 14, 13] (i := 12) (v := .string x4) rfl (by kernel_rfl) (by kernel_rfl) (by decide) (by kernel_rfl) (by kernel_rfl) (by kernel_rfl) (by kernel_rfl) (fun _ _ _ h => h) (Or.inl ⟨by rfl, fun w' hw' => by have c0 := (HCell.out w' hw').2.2.2; clear hw'; go_simp⟩) (Below.refl _ _) ?_
        simp only [Act.put, List.getElem_toArray, List.getElem_cons_succ, List.getElem_cons_zero, List.setIfInBounds_toArray, List.set_cons_zero, List.set_cons_succ]
        refine L_one (i := 13) (by kernel_rfl) ?_
        refine wpOp_step rfl ?_
        intro K hK
        rw [if_pos (by rfl)]
        have hK' : Shut (∀ a w, _ → K a w) := hK
        clear hK
        go_wp2_with fail
        refine (HBg.out U).mono ?_
        rintro e W1 ⟨a4, c4, rfl, hr4, hb4⟩
        refine hK'.out _ _ ?_
        clear hK' K
        refine ⟨hb4, ?_⟩
        try simp only [Act.put, List.getElem_toArray, List.getElem_cons_succ, List.getElem_cons_zero, List.setIfInBounds_toArray, List.set_cons_zero, List.set_cons_succ]
        refine L_takeC [16, 15] (i := 14) (v := .agg #[.string RF, .int .i64 x0, .int .i64 pe, .slice a4 2 c4]) rfl (by kernel_rfl) (by kernel_rfl) (by decide) (by kernel_rfl) (by kernel_rfl) (by kernel_rfl) (by kernel_rfl) (fun _ _ _ h => h) ?_ hb4 ?_
        · exact yields_build_run (by rfl) 73 _ (by rfl) #[(0, .string RF), (1, .int .i64 x0), (2, .int .i64 pe), (3, .slice a4 2 c4)] (by simp [Act.eval]) (fun w' _ => pv_build_en _ _ _ _ _ _ w')
        simp only [Act.put, List.getElem_toArray, List.getElem_cons_succ, List.getElem_cons_zero, List.setIfInBounds_toArray, List.set_cons_zero, List.set_cons_succ]
        have HR4' : Hid (LnRow W1 U.heap.size (.slice a4 gl.length c4) gl) := by rw [HLen.out]; exact hr4
        have HB4 : Hid (Below U.heap.size U W1) := hb4
        have HAdd : Hid (∀ v' w6, World.ownsRow w6 w.heap.size 73 4 v' (L.length + 1) (jeRow L ++ (Je.mk RF x0 pe a4 c4 gl).cells.toList) → (W1.alloc (.cells #[.string RF, .int .i64 x0, .int .i64 pe, .slice a4 2 c4] 73)).grownBy w6 (Value.slice av L.length cv).ownBlock → (Made w6 w.heap.size v' (L ++ [Je.mk RF x0 pe a4 c4 gl]) ∧ (L ++ [Je.mk RF x0 pe a4 c4 gl]).map Je.ep = peTo b cur pe l (k * 2 + 0 + 1) ∧ (L ++ [Je.mk RF x0 pe a4 c4 gl]).length ≤ k * 2 + 0 + 1) ∧ Kp w6 G P h0 h1 ⟨x0, x1, x2, x3, x4⟩ ∧ Below w.heap.size w w6) := fun v' w6 h1 h2 => by
          obtain ⟨m1, m2, m3⟩ := HM.out
          have z1 := HU1.out.1.trans (HB4.out.mono HU1.out.1.size)
          have z2 := z1.alloc z1.size (.cells #[.string RF, .int .i64 x0, .int .i64 pe, .slice a4 2 c4] 73)
          have z3 : Below W1.heap.size W1 (W1.alloc (.cells #[.string RF, .int .i64 x0, .int .i64 pe, .slice a4 2 c4] 73)) := (Below.refl _ W1).alloc (Nat.le_refl _) _
          have m4 := ((m1.below HU2.out).below HB4.out).below z3
          refine ⟨⟨m4.add (x := Je.mk RF x0 pe a4 c4 gl) ((HR4'.out.below z3).mono HU1.out.1.size) h1 h2, ?_, ?_⟩, ((HU1.out.2.below HB4.out).below z3).grown m4.row h2, z2.grown h2 z2.size fun j e => m1.row.own j e⟩
          · rw [List.map_append, m2, HP2.out]; rfl
          · rw [List.length_append]; simp; exact m3
        have HRow : Hid (World.ownsRow (W1.alloc (.cells #[.string RF, .int .i64 x0, .int .i64 pe, .slice a4 2 c4] 73)) w.heap.size 73 4 (.slice av L.length cv) L.length (jeRow L)) := by
          have m4 := (HM.out.1.below HU2.out).below HB4.out
          exact World.ownsRow.alloc m4.row _
        have s2 : Hid (L.length + 1 ≤ maxLen ∧ (L.length + 1) * 56 ≤ 140737488355328) := by
          have := HM.out.2.2
          unfold Hid maxLen; omega
        have s4 : Hid (w.heap.size ≤ (W1.alloc (.cells #[.string RF, .int .i64 x0, .int .i64 pe, .slice a4 2 c4] 73)).heap.size) := by
          have z1 := HU1.out.1.size
          have z2 := HB4.out.size
          unfold Hid; simp; omega
        have HCe : Hid ((Je.mk RF x0 pe a4 c4 gl).cells.toList = [.string RF, .int .i64 x0, .int .i64 pe, .slice a4 2 c4]) := by unfold Je.cells Hid; simp only [HLen.out]
        have HOne : Hid (∀ u ∈ ([.string RF, .int .i64 x0, .int .i64 pe, .slice a4 2 c4] : List Value), u.oneCell' = true) := by rw [← HCe.out]; exact je_one _
        rw [HCe.out] at HAdd
        have hbA : Below U.heap.size U (W1.alloc (.cells #[.string RF, .int .i64 x0, .int .i64 pe, .slice a4 2 c4] 73)) := hb4.alloc hb4.size _
        clear hr4 hb4 HM HCe HBg HCell HU1 HU2 HR4' HB4
        refine L_one (i := 15) (by kernel_rfl) ?_
        refine wpOp_step rfl ?_
        intro K hK
        rw [if_pos (by rfl)]
        have hK' : Shut (∀ a w, _ → K a w) := hK
        clear hK
        go_wp2_with fail
        refine hK'.out _ _ ?_
        clear hK' K
        refine ⟨hbA, ?_⟩
        try simp only [Act.put, List.getElem_toArray, List.getElem_cons_succ, List.getElem_cons_zero, List.setIfInBounds_toArray, List.set_cons_zero, List.set_cons_succ]
        refine L_go (by kernel_rfl) (by kernel_rfl) ?_
        refine wpOp_step rfl (fun K hK => ?_)
        refine step_append_lies _ rfl (.tmp 77) (.tmp 92) 36 rfl w.heap.size 73 i0 (.agg #[.string ByteArray.empty, .int .i64 0, .int .i64 0, .slice none 0 0]) 4 56 Tryz.underlying36 hi hz0 hz1 hz2 rfl (Nat.zero_lt_succ _) (.slice av L.length cv) L.length (jeRow L) rfl HRow.out ⟨W1.heap.size, 0, none⟩ 1 1 [.string RF, .int .i64 x0, .int .i64 pe, .slice a4 2 c4] rfl rfl (World.news_of_block (four_cell W1 _ _ _ _ _)) HOne.out (Nat.zero_lt_one) s2.out.1 s2.out.2 s4.out (W1.heap.size + 1) (by simp) ?_
        intro g' cap' w6 hown' hgrow hat hlt2
        obtain ⟨hm6, hb6⟩ := HAdd.out _ w6 hown' hgrow
        have HM6 : Hid _ := hm6
        have HK7 : Hid (Kp w6 G P h0 h1 ⟨x0, x1, x2, x3, x4⟩) := hb6.1
        have HB7 : Hid (Below w.heap.size w w6) := hb6.2
        refine hK _ _ ?_
        clear hK K hown' hgrow hm6 hb6 HAdd HRow hat hlt2 hbA
        refine wpAny_take (i := 17) (v := .slice (some ⟨g', 0, none⟩) (L.length + 1) cap') rfl (by kernel_rfl) (by kernel_rfl) (by kernel_rfl) (fun _ _ _ h => h) (Or.inl ⟨by rfl, fun w => by go_simp⟩) ?_
        simp only [Act.put, List.getElem_toArray, List.getElem_cons_succ, List.getElem_cons_zero, List.setIfInBounds_toArray, List.set_cons_zero, List.set_cons_succ]
        refine wpAny_done (by kernel_rfl) ?_ _
        go_wp2
        go_roundw
        case rel => exact ⟨1, _, by omega, rfl, HM6, HN, HK7, HB7⟩
        case measure => simp [RowKit.intOf]
      · have HI : Hid (phas b cur l (k * 2 + 1) = h1) := by unfold phas; rw [(psd_odd l k).2]; exact HE1.out
        have HPd : Hid ((psd l (k * 2 + 1)) = ⟨x1, x3⟩ ∧ (pdA l (k * 2 + 1)).dif = x4) := by rw [(psd_odd l k).1, (psd_odd l k).2, HLk.out]; exact ⟨rfl, rfl⟩
        have HEq : Hid (peE b cur pe l (k * 2 + 1) = if h1 = 0 then [] else [⟨refP k 1, x1, pe, mvL h1 cur x3 x4⟩]) := by
          unfold peE
          rw [HI.out, HPd.out.1, HPd.out.2, show (k * 2 + 1) / 2 = k by omega, show (k * 2 + 1) % 2 = 1 by omega]
          exact rfl
        have HAt : Hid (peAt b cur l (k * 2 + 1) = if isAmtB h1 = true then 0 else 1) := by unfold peAt; rw [HI.out]; exact rfl
        have HNx : Hid (peTo b cur pe l (k * 2 + 1 + 1) = peTo b cur pe l (k * 2 + 1) ++ peE b cur pe l (k * 2 + 1)) := peTo_next b cur pe l _
        have HBd : Hid (peAt b cur l (k * 2 + 1) = 0 → firstTo (peAt b cur l) (k * 2 + 1 + 1) = 0) := fun h => by rw [firstTo_next H0.out, h]
        have HBr : Hid (peAt b cur l (k * 2 + 1) = 1 → peBad c l b cur pe = 1) := fun h => by
          rw [HB0.out, firstTo_first H0.out (by rw [h]; decide) (by omega), h]
        obtain ⟨av, cv, ev, _⟩ := HM.out.1.isJs
        subst ev
        obtain ⟨Z, hZ⟩ : ∃ Z, wr.alloc (.cells #[.int .i64 x1, .string x3] 53) = Z := ⟨_, rfl⟩
        have hbZ : Below wr.heap.size wr Z := by rw [← hZ]; exact (Below.refl _ _).alloc (Nat.le_refl _) _
        have hsz : wr.heap.size < Z.heap.size := by rw [← hZ]; simp
        have hst : SdAt Z wr.heap.size 0 ⟨x1, x3⟩ := by rw [← hZ]; exact SdAt.new wr ⟨x1, x3⟩ 53
        have HB6 : Hid (Below w.heap.size w Z) := HB.out.trans (hbZ.mono HB.out.size)
        have HKZ : Hid (Kp Z G P h0 h1 ⟨x0, x1, x2, x3, x4⟩) := HK.out.below hbZ
        have HCl : Hid (∀ W, Below Z.heap.size Z W → W.cell? ⟨G, 1, none⟩ = some (.int .i64 h1) ∧ W.cell? ⟨wr.heap.size, 0, none⟩ = some (.int .i64 x1) ∧ W.cell? ⟨wr.heap.size, 1, none⟩ = some (.string x3) ∧ W.cell? ⟨P, 4, none⟩ = some (.string x4)) := fun W hW => by
          have t := HKZ.out.below hW
          have s := hst.below hW hsz
          exact ⟨t.1.c1, s.c0, s.c1, t.c4⟩
        have HBw : Hid (∀ W, Below Z.heap.size Z W → Kp W G P h0 h1 ⟨x0, x1, x2, x3, x4⟩ ∧ Below w.heap.size w W ∧ Below wr.heap.size wr W) := fun W hW => ⟨HKZ.out.below hW, HB6.out.trans (hW.mono HB6.out.size), hbZ.trans (hW.mono hbZ.size)⟩
        have HZ : Hid (wr.alloc (.cells #[.int .i64 x1, .string x3] 53) = Z) := hZ
        obtain ⟨f0, f1, f2, f3⟩ := HCl.out Z (Below.refl _ _)
        obtain ⟨R, hR⟩ : ∃ R, wr.heap.size = R := ⟨_, rfl⟩
        rw [hR] at f1 f2 HCl
        have HRR : Hid (wr.heap.size = R) := hR
        clear hbZ hsz hst hZ HI HPd hR
        go_upto_region 17 with fail
        rw [HZ.out]
        try rw [HRR.out]
        clear HZ
        by_cases g0 : h1 = 0
        · have HM2 : Hid (Made Z w.heap.size (.slice av L.length cv) L ∧ L.map Je.ep = peTo b cur pe l (k * 2 + 1 + 1) ∧ L.length ≤ k * 2 + 1 + 1) := by
            obtain ⟨m1, m2, m3⟩ := HM.out
            refine ⟨m1.below (HBw.out Z (Below.refl _ _)).2.2, ?_, by omega⟩
            rw [HNx.out, HEq.out, if_pos g0, List.append_nil, m2]
          have HN : Hid (firstTo (peAt b cur l) (k * 2 + 1 + 1) = 0) := HBd.out (by rw [HAt.out, g0]; exact rfl)
          rw [g0] at f0
          clear HBd HBr HEq HAt HNx HM HErr HCl HBw
          go_wp2
          go_roundw
          case rel => exact ⟨2, L, by omega, rfl, HM2, HN, HKZ, HB6⟩
          case measure => simp [RowKit.intOf]
        have g0' : (h1 == 0) = false := by rw [beq_eq_false_iff_ne]; exact g0
        have HAm : Hid (∀ W, Calls Tryz.prog 33 #[.int .i64 h1] W fun e w' => e = .returned (.bool (isAmtB h1)) ∧ w' = W) := fun W => isAmount_any h1 W
        cases g1 : isAmtB h1
        · have HE : Hid (PeEnd c l b cur pe w (.returned (.tuple #[.slice none 0 0, .iface 43 (.int .i64 1)])) Z) := HErr.out 1 Z (by decide) (HBr.out (by rw [HAt.out, g1]; exact rfl)) (HBw.out Z (Below.refl _ _)).2.1
          rw [g1] at HAm
          clear HBd HBr HEq HAt HNx HM HErr HCl HBw
          go_wp2_with fail
          refine (HAm.out _).mono ?_
          rintro e w' ⟨rfl, hw⟩
          rw [hw]; clear hw w' HAm
          go_wp2
          go_ret2
          exact HE.out
        rw [g1] at HAm
        have HN : Hid (firstTo (peAt b cur l) (k * 2 + 1 + 1) = 0) := HBd.out (by rw [HAt.out, g1]; exact rfl)
        have HP2 : Hid (peTo b cur pe l (k * 2 + 1 + 1) = peTo b cur pe l (k * 2 + 1) ++ [⟨refP k 1, x1, pe, mvL h1 cur x3 x4⟩]) := by
          rw [HNx.out, HEq.out, if_neg g0]; exact rfl
        have hamt2 := isAmtB_iff.1 g1
        unfold mostA at hamt2
        have HBg : Hid (∀ W, Calls Tryz.prog 35 #[.int .i64 h1, .string cur, .string x3, .string x4] W fun e w' => ∃ adr cap, e = .returned (.slice adr 2 cap) ∧ LnRow w' W.heap.size (.slice adr 2 cap) (mvL h1 cur x3 x4) ∧ Below W.heap.size W w') := fun W => moved_any h1 cur x3 x4 W (by omega) (by omega)
        have HIt : Hid (∀ W, Calls Tryz.prog 34 #[.int .i64 ((k : Nat) : Int)] W fun e w' => e = .returned (.string (digS k)) ∧ w' = W) := fun W => itoa_any k (by omega) W
        have HLen : Hid ((mvL h1 cur x3 x4).length = 2) := rfl
        have HRf : Hid (((⟨#[112, 97, 105, 114, 45]⟩ : ByteArray) ++ digS k) ++ ⟨#[98]⟩ = refP k 1) := rfl
        have hab : ∀ W, (Instr.slice 9 (.string ⟨#[97, 98]⟩) (some (.int .i64 1)) (some (.int .i64 2)) none).run Tryz.prog W = .ok (.string ⟨#[98]⟩) W := fun _ => by kernel_rfl
        have hd1 : ¬ 9223372036854775807 < 5 + (digS k).size := by have := digS_two k; omega
        have hd2 : ¬ 9223372036854775807 < 5 + (digS k).size + 1 := by have := digS_two k; omega
        generalize mvL h1 cur x3 x4 = gl at *
        clear HBd HBr HEq HAt HNx HErr g0 g1 hamt2
        go_wp2_with fail
        refine (HAm.out _).mono ?_
        rintro e w' ⟨rfl, hw⟩
        rw [hw]; clear hw w' HAm
        clear f0 f1 f2 f3
        go_wp2_with fail
        go_quiet ((go_at_call 34; exact Calls.quiet_of_same (HIt.out _)))
        rename Nat => nq
        try rw [HRf.out]
        generalize refP k 1 = RF at *
        have hdN : Below Z.heap.size Z (Z.drewN nq).drew := (ch_drewN (Below.refl _ Z) nq).drew
        have HCell : Hid (∀ u, Below (Z.drewN nq).drew.heap.size (Z.drewN nq).drew u → u.cell? ⟨G, 1, none⟩ = some (.int .i64 h1) ∧ u.cell? ⟨R, 0, none⟩ = some (.int .i64 x1) ∧ u.cell? ⟨R, 1, none⟩ = some (.string x3) ∧ u.cell? ⟨P, 4, none⟩ = some (.string x4)) := fun u hu => HCl.out u (hdN.trans hu)
        have HU1 : Hid (Below w.heap.size w (Z.drewN nq).drew ∧ Kp (Z.drewN nq).drew G P h0 h1 ⟨x0, x1, x2, x3, x4⟩) := ⟨(HBw.out _ hdN).2.1, (HBw.out _ hdN).1⟩
        have HU2 : Hid (Below wr.heap.size wr (Z.drewN nq).drew) := (HBw.out _ hdN).2.2
        clear hdN HCl HBw HIt hab hd1 hd2
        go_upto_region 21 with fail
        refine wp_region_drawn (by kernel_rfl) ?_
        generalize (Z.drewN nq).drew = U at *
        refine wpAny_take (i := 0) (v := .slice av L.length cv) rfl (by kernel_rfl) (by kernel_rfl) (by kernel_rfl) (fun _ _ _ h => h) (Or.inl ⟨by rfl, fun w => by go_simp⟩) ?_
        simp only [Act.put, List.getElem_toArray, List.getElem_cons_succ, List.getElem_cons_zero, List.setIfInBounds_toArray, List.set_cons_zero, List.set_cons_succ]
        refine wpAny_take (i := 1) (v := .string RF) rfl (by kernel_rfl) (by kernel_rfl) (by kernel_rfl) (fun _ _ _ h => h) (Or.inl ⟨by rfl, fun w => by go_simp⟩) ?_
        simp only [Act.put, List.getElem_toArray, List.getElem_cons_succ, List.getElem_cons_zero, List.setIfInBounds_toArray, List.set_cons_zero, List.set_cons_succ]
        refine wpAny_take (i := 2) (v := .pointer (some ⟨R, 0, none⟩)) rfl (by kernel_rfl) (by kernel_rfl) (by kernel_rfl) (fun _ _ _ h => h) (Or.inl ⟨by rfl, fun w => by go_simp⟩) ?_
        simp only [Act.put, List.getElem_toArray, List.getElem_cons_succ, List.getElem_cons_zero, List.setIfInBounds_toArray, List.set_cons_zero, List.set_cons_succ]
        refine wpAny_take (i := 4) (v := .int .i64 pe) rfl (by kernel_rfl) (by kernel_rfl) (by kernel_rfl) (fun _ _ _ h => h) (Or.inl ⟨by rfl, fun w => by go_simp⟩) ?_
        simp only [Act.put, List.getElem_toArray, List.getElem_cons_succ, List.getElem_cons_zero, List.setIfInBounds_toArray, List.set_cons_zero, List.set_cons_succ]
        refine wpAny_take (i := 5) (v := .int .i64 1) rfl (by kernel_rfl) (by kernel_rfl) (by kernel_rfl) (fun _ _ _ h => h) (Or.inl ⟨by rfl, fun w => by go_simp⟩) ?_
        simp only [Act.put, List.getElem_toArray, List.getElem_cons_succ, List.getElem_cons_zero, List.setIfInBounds_toArray, List.set_cons_zero, List.set_cons_succ]
        refine wpAny_take (i := 6) (v := .pointer (some ⟨G, 1, none⟩)) rfl (by kernel_rfl) (by kernel_rfl) (by kernel_rfl) (fun _ _ _ h => h) (Or.inl ⟨by rfl, fun w => by go_simp⟩) ?_
        simp only [Act.put, List.getElem_toArray, List.getElem_cons_succ, List.getElem_cons_zero, List.setIfInBounds_toArray, List.set_cons_zero, List.set_cons_succ]
        refine wpAny_take (i := 8) (v := .string cur) rfl (by kernel_rfl) (by kernel_rfl) (by kernel_rfl) (fun _ _ _ h => h) (Or.inl ⟨by rfl, fun w => by go_simp⟩) ?_
        simp only [Act.put, List.getElem_toArray, List.getElem_cons_succ, List.getElem_cons_zero, List.setIfInBounds_toArray, List.set_cons_zero, List.set_cons_succ]
        refine wpAny_take (i := 9) (v := .pointer (some ⟨R, 1, none⟩)) rfl (by kernel_rfl) (by kernel_rfl) (by kernel_rfl) (fun _ _ _ h => h) (Or.inl ⟨by rfl, fun w => by go_simp⟩) ?_
        simp only [Act.put, List.getElem_toArray, List.getElem_cons_succ, List.getElem_cons_zero, List.setIfInBounds_toArray, List.set_cons_zero, List.set_cons_succ]
        refine wpAny_take (i := 11) (v := .pointer (some ⟨P, 4, none⟩)) rfl (by kernel_rfl) (by kernel_rfl) (by kernel_rfl) (fun _ _ _ h => h) (Or.inl ⟨by rfl, fun w => by go_simp⟩) ?_
        simp only [Act.put, List.getElem_toArray, List.getElem_cons_succ, List.getElem_cons_zero, List.setIfInBounds_toArray, List.set_cons_zero, List.set_cons_succ]
        refine any_of_L (g := 16) (T := fun u => Below U.heap.size U u) _ _ _ _ ?_
        refine L_takeC [16, 15, 14] (i := 3) (v := .int .i64 x1) rfl (by kernel_rfl) (by kernel_rfl) (by decide) (by kernel_rfl) (by kernel_rfl) (by kernel_rfl) (by kernel_rfl) (fun _ _ _ h => h) (Or.inl ⟨by rfl, fun w' hw' => by have c0 := (HCell.out w' hw').2.1; clear hw'; go_simp⟩) (Below.refl _ _) ?_
        simp only [Act.put, List.getElem_toArray, List.getElem_cons_succ, List.getElem_cons_zero, List.setIfInBounds_toArray, List.set_cons_zero, List.set_cons_succ]
        refine L_takeC [16, 15, 14, 13] (i := 7) (v := .int .i64 h1) rfl (by kernel_rfl) (by kernel_rfl) (by decide) (by kernel_rfl) (by kernel_rfl) (by kernel_rfl) (by kernel_rfl) (fun _ _ _ h => h) (Or.inl ⟨by rfl, fun w' hw' => by have c0 := (HCell.out w' hw').1; clear hw'; go_simp⟩) (Below.refl _ _) ?_
        simp only [Act.put, List.getElem_toArray, List.getElem_cons_succ, List.getElem_cons_zero, List.setIfInBounds_toArray, List.set_cons_zero, List.set_cons_succ]
        refine L_takeC [16, 15, 14, 13] (i := 10) (v := .string x3) rfl (by kernel_rfl) (by kernel_rfl) (by decide) (by kernel_rfl) (by kernel_rfl) (by kernel_rfl) (by kernel_rfl) (fun _ _ _ h => h) (Or.inl ⟨by rfl, fun w' hw' => by have c0 := (HCell.out w' hw').2.2.1; clear hw'; go_simp⟩) (Below.refl _ _) ?_
        simp only [Act.put, List.getElem_toArray, List.getElem_cons_succ, List.getElem_cons_zero, List.setIfInBounds_toArray, List.set_cons_zero, List.set_cons_succ]
        refine L_takeC [16, 15, 14, 13] (i := 12) (v := .string x4) rfl (by kernel_rfl) (by kernel_rfl) (by decide) (by kernel_rfl) (by kernel_rfl) (by kernel_rfl) (by kernel_rfl) (fun _ _ _ h => h) (Or.inl ⟨by rfl, fun w' hw' => by have c0 := (HCell.out w' hw').2.2.2; clear hw'; go_simp⟩) (Below.refl _ _) ?_
        simp only [Act.put, List.getElem_toArray, List.getElem_cons_succ, List.getElem_cons_zero, List.setIfInBounds_toArray, List.set_cons_zero, List.set_cons_succ]
        refine L_one (i := 13) (by kernel_rfl) ?_
        refine wpOp_step rfl ?_
        intro K hK
        rw [if_pos (by rfl)]
        have hK' : Shut (∀ a w, _ → K a w) := hK
        clear hK
        go_wp2_with fail
        refine (HBg.out U).mono ?_
        rintro e W1 ⟨a4, c4, rfl, hr4, hb4⟩
        refine hK'.out _ _ ?_
        clear hK' K
        refine ⟨hb4, ?_⟩
        try simp only [Act.put, List.getElem_toArray, List.getElem_cons_succ, List.getElem_cons_zero, List.setIfInBounds_toArray, List.set_cons_zero, List.set_cons_succ]
        refine L_takeC [16, 15] (i := 14) (v := .agg #[.string RF, .int .i64 x1, .int .i64 pe, .slice a4 2 c4]) rfl (by kernel_rfl) (by kernel_rfl) (by decide) (by kernel_rfl) (by kernel_rfl) (by kernel_rfl) (by kernel_rfl) (fun _ _ _ h => h) ?_ hb4 ?_
        · exact yields_build_run (by rfl) 73 _ (by rfl) #[(0, .string RF), (1, .int .i64 x1), (2, .int .i64 pe), (3, .slice a4 2 c4)] (by simp [Act.eval]) (fun w' _ => pv_build_en _ _ _ _ _ _ w')
        simp only [Act.put, List.getElem_toArray, List.getElem_cons_succ, List.getElem_cons_zero, List.setIfInBounds_toArray, List.set_cons_zero, List.set_cons_succ]
        have HR4' : Hid (LnRow W1 U.heap.size (.slice a4 gl.length c4) gl) := by rw [HLen.out]; exact hr4
        have HB4 : Hid (Below U.heap.size U W1) := hb4
        have HAdd : Hid (∀ v' w6, World.ownsRow w6 w.heap.size 73 4 v' (L.length + 1) (jeRow L ++ (Je.mk RF x1 pe a4 c4 gl).cells.toList) → (W1.alloc (.cells #[.string RF, .int .i64 x1, .int .i64 pe, .slice a4 2 c4] 73)).grownBy w6 (Value.slice av L.length cv).ownBlock → (Made w6 w.heap.size v' (L ++ [Je.mk RF x1 pe a4 c4 gl]) ∧ (L ++ [Je.mk RF x1 pe a4 c4 gl]).map Je.ep = peTo b cur pe l (k * 2 + 1 + 1) ∧ (L ++ [Je.mk RF x1 pe a4 c4 gl]).length ≤ k * 2 + 1 + 1) ∧ Kp w6 G P h0 h1 ⟨x0, x1, x2, x3, x4⟩ ∧ Below w.heap.size w w6) := fun v' w6 h1 h2 => by
          obtain ⟨m1, m2, m3⟩ := HM.out
          have z1 := HU1.out.1.trans (HB4.out.mono HU1.out.1.size)
          have z2 := z1.alloc z1.size (.cells #[.string RF, .int .i64 x1, .int .i64 pe, .slice a4 2 c4] 73)
          have z3 : Below W1.heap.size W1 (W1.alloc (.cells #[.string RF, .int .i64 x1, .int .i64 pe, .slice a4 2 c4] 73)) := (Below.refl _ W1).alloc (Nat.le_refl _) _
          have m4 := ((m1.below HU2.out).below HB4.out).below z3
          refine ⟨⟨m4.add (x := Je.mk RF x1 pe a4 c4 gl) ((HR4'.out.below z3).mono HU1.out.1.size) h1 h2, ?_, ?_⟩, ((HU1.out.2.below HB4.out).below z3).grown m4.row h2, z2.grown h2 z2.size fun j e => m1.row.own j e⟩
          · rw [List.map_append, m2, HP2.out]; rfl
          · rw [List.length_append]; simp; exact m3
        have HRow : Hid (World.ownsRow (W1.alloc (.cells #[.string RF, .int .i64 x1, .int .i64 pe, .slice a4 2 c4] 73)) w.heap.size 73 4 (.slice av L.length cv) L.length (jeRow L)) := by
          have m4 := (HM.out.1.below HU2.out).below HB4.out
          exact World.ownsRow.alloc m4.row _
        have s2 : Hid (L.length + 1 ≤ maxLen ∧ (L.length + 1) * 56 ≤ 140737488355328) := by
          have := HM.out.2.2
          unfold Hid maxLen; omega
        have s4 : Hid (w.heap.size ≤ (W1.alloc (.cells #[.string RF, .int .i64 x1, .int .i64 pe, .slice a4 2 c4] 73)).heap.size) := by
          have z1 := HU1.out.1.size
          have z2 := HB4.out.size
          unfold Hid; simp; omega
        have HCe : Hid ((Je.mk RF x1 pe a4 c4 gl).cells.toList = [.string RF, .int .i64 x1, .int .i64 pe, .slice a4 2 c4]) := by unfold Je.cells Hid; simp only [HLen.out]
        have HOne : Hid (∀ u ∈ ([.string RF, .int .i64 x1, .int .i64 pe, .slice a4 2 c4] : List Value), u.oneCell' = true) := by rw [← HCe.out]; exact je_one _
        rw [HCe.out] at HAdd
        have hbA : Below U.heap.size U (W1.alloc (.cells #[.string RF, .int .i64 x1, .int .i64 pe, .slice a4 2 c4] 73)) := hb4.alloc hb4.size _
        clear hr4 hb4 HM HCe HBg HCell HU1 HU2 HR4' HB4
        refine L_one (i := 15) (by kernel_rfl) ?_
        refine wpOp_step rfl ?_
        intro K hK
        rw [if_pos (by rfl)]
        have hK' : Shut (∀ a w, _ → K a w) := hK
        clear hK
        go_wp2_with fail
        refine hK'.out _ _ ?_
        clear hK' K
        refine ⟨hbA, ?_⟩
        try simp only [Act.put, List.getElem_toArray, List.getElem_cons_succ, List.getElem_cons_zero, List.setIfInBounds_toArray, List.set_cons_zero, List.set_cons_succ]
        refine L_go (by kernel_rfl) (by kernel_rfl) ?_
        refine wpOp_step rfl (fun K hK => ?_)
        refine step_append_lies _ rfl (.tmp 77) (.tmp 92) 36 rfl w.heap.size 73 i0 (.agg #[.string ByteArray.empty, .int .i64 0, .int .i64 0, .slice none 0 0]) 4 56 Tryz.underlying36 hi hz0 hz1 hz2 rfl (Nat.zero_lt_succ _) (.slice av L.length cv) L.length (jeRow L) rfl HRow.out ⟨W1.heap.size, 0, none⟩ 1 1 [.string RF, .int .i64 x1, .int .i64 pe, .slice a4 2 c4] rfl rfl (World.news_of_block (four_cell W1 _ _ _ _ _)) HOne.out (Nat.zero_lt_one) s2.out.1 s2.out.2 s4.out (W1.heap.size + 1) (by simp) ?_
        intro g' cap' w6 hown' hgrow hat hlt2
        obtain ⟨hm6, hb6⟩ := HAdd.out _ w6 hown' hgrow
        have HM6 : Hid _ := hm6
        have HK7 : Hid (Kp w6 G P h0 h1 ⟨x0, x1, x2, x3, x4⟩) := hb6.1
        have HB7 : Hid (Below w.heap.size w w6) := hb6.2
        refine hK _ _ ?_
        clear hK K hown' hgrow hm6 hb6 HAdd HRow hat hlt2 hbA
        refine wpAny_take (i := 17) (v := .slice (some ⟨g', 0, none⟩) (L.length + 1) cap') rfl (by kernel_rfl) (by kernel_rfl) (by kernel_rfl) (fun _ _ _ h => h) (Or.inl ⟨by rfl, fun w => by go_simp⟩) ?_
        simp only [Act.put, List.getElem_toArray, List.getElem_cons_succ, List.getElem_cons_zero, List.setIfInBounds_toArray, List.set_cons_zero, List.set_cons_succ]
        refine wpAny_done (by kernel_rfl) ?_ _
        go_wp2
        go_roundw
        case rel => exact ⟨2, _, by omega, rfl, HM6, HN, HK7, HB7⟩
        case measure => simp [RowKit.intOf]
      · obtain ⟨av, cv, ev, _⟩ := HM.out.1.isJs
        subst ev
        have HM6 : Hid (Made wr w.heap.size (.slice av L.length cv) L ∧ L.map Je.ep = peTo b cur pe l ((k + 1) * 2) ∧ L.length ≤ (k + 1) * 2) := by
          rw [show (k + 1) * 2 = k * 2 + 2 by omega]; exact HM.out
        have HN : Hid (firstTo (peAt b cur l) ((k + 1) * 2) = 0) := by rw [show (k + 1) * 2 = k * 2 + 2 by omega]; exact H0.out
        have HB7 : Hid (Below w.heap.size w wr) := HB
        clear HM H0 HB HErr
        go_wp2
        go_roundw
        case rel => exact ⟨k + 1, L, by omega, by go_num, HM6, HN, HB7⟩
        case measure => simp [RowKit.intOf]; omega
    · have ek : k = l.length := by omega
      subst ek
      obtain ⟨m1, m2, m3⟩ := HM.out
      have HE : Hid (PeEnd c l b cur pe w (.returned (.tuple #[.slice av L.length cv, .nilIface])) wr) := HOk.out _ L wr (by rw [HB0.out, H0.out]) HB.out m1 m2 (by omega)
      have jn : ¬ (l.length : Int) < l.length := by omega
      clear m1 m2 m3 HM HErr HOk
      go_wp2
      go_ret2
      exact HE.out
end Go.Proofs.YtagimpmefodaeaaGreatDoor

namespace Go.Proofs.YtagimpmefodaeaaGreatDoor
set_option linter.unusedVariables false
set_option linter.unusedSimpArgs false
set_option maxRecDepth 100000
open Go.RowKit

theorem line_struct : Tryz.prog.underlying 75 = some (.struct (Tryz.prog.fieldsOf 75)) := by kernel_rfl
theorem line_stood : Tryz.prog.stoodInHeld 75 = false := by kernel_rfl

theorem line_same (x0 x1 : ByteArray) (x2 : Int) (W : World) : (binOp .neq 75 (.agg #[.string x0, .string x1, .int .i64 x2]) (.agg #[.string x0, .string x1, .int .i64 x2])).run Tryz.prog W = .ok (.bool false) W := by
  rw [run_neq_struct, show (10000 : Nat) = 9998 + 1 + 1 from rfl, run_equalIn_agg W (9998 + 1) 75 _ _ line_struct line_stood]
  unfold Program.fieldsOf
  rw [Tryz.underlying75]
  simp [Op.eqFields, part, go_sem, run_equalIn_string W 9998 9 _ _ Tryz.underlying9, run_equalIn_int W 9998 3 .i64 .i64 _ _ Tryz.underlying3, Tryz.isAgg9, Tryz.isAgg3]

set_option maxHeartbeats 1000000 in
theorem sameLines_any (a1 a2 : Option Addr) (c1 c2 : Nat) (l : List Ln) (w : World) (hlen : l.length ≤ 1000) (h1 : IsLn w a1 l c1) (h2 : IsLn w a2 l c2) :
    Calls Tryz.prog 59 #[.slice a1 l.length c1, .slice a2 l.length c2] w fun e w' => e = .returned (.bool true) ∧ Below w.heap.size w w' := by
  have Hlen : (l.length : Int) ≤ 1000 := by omega
  have H1 : Hid (l = [] ∨ _) := h1.lies
  have H2 : Hid (l = [] ∨ _) := h2.lies
  clear h1 h2
  have hS := line_same
  go_enter Tryz.func59, Tryz.ntmps59
  go_wp2
  go_loopw [5] (fun i wr => ∃ k : Nat, k ≤ l.length ∧ i = .int .i64 k ∧ ∃ n, wr = w.drewN n) (fun i _ => l.length - (RowKit.intOf i).toNat)
  case atStart => exact ⟨0, Nat.zero_le _, rfl, 0, rfl⟩
  case round =>
    obtain ⟨k, hk, rfl, nd, rfl⟩ := hrel
    by_cases hlt : k < l.length
    · rcases H1.out with h | ⟨g1, o1, rfl, _, q1⟩
      · rw [h] at hlt; simp at hlt
      rcases H2.out with h | ⟨g2, o2, rfl, _, q2⟩
      · rw [h] at hlt; simp at hlt
      have d1 := q1 k hlt
      have d2 := q2 k hlt
      clear q1 q2 H1 H2
      generalize l.getD k ln0 = x at *
      obtain ⟨x0, x1, x2⟩ := x
      obtain ⟨e0, e1, e2⟩ := d1
      obtain ⟨f0, f1, f2⟩ := d2
      simp only at e0 e1 e2 f0 f1 f2
      have i0 : (0 : Int) ≤ k := by omega
      have i1 : (k : Int) < l.length := by omega
      go_wp2_with fail
      go_quiet (fail)
      go_wp2
      go_roundw
      case rel => exact ⟨k + 1, by omega, by go_num, _, rfl⟩
      case measure => simp [RowKit.intOf]; omega
    · have hk2 : k = l.length := by omega
      subst hk2
      go_wp2
      go_ret
      exact ⟨rfl, en_drewN (Below.refl _ _) _⟩

set_option maxHeartbeats 1000000 in
theorem sameEntry_any (r : ByteArray) (en pe : Int) (a1 a2 : Option Addr) (c1 c2 : Nat) (l : List Ln) (w : World) (hlen : l.length ≤ 1000) (h1 : IsLn w a1 l c1) (h2 : IsLn w a2 l c2) :
    Calls Tryz.prog 36 #[.agg #[.string r, .int .i64 en, .int .i64 pe, .slice a1 l.length c1], .agg #[.string r, .int .i64 en, .int .i64 pe, .slice a2 l.length c2]] w fun e w' => e = .returned (.bool true) ∧ Below w.heap.size w w' := by
  have b0 : Below w.heap.size w ((w.alloc (.cells #[.string r, .int .i64 en, .int .i64 pe, .slice a1 l.length c1] 73)).alloc (.cells #[.string r, .int .i64 en, .int .i64 pe, .slice a2 l.length c2] 73)) := ((Below.refl _ w).alloc (Nat.le_refl _) _).alloc (by simp) _
  have x1 := (Box4.new w r en pe (.slice a1 l.length c1)).alloc (.cells #[.string r, .int .i64 en, .int .i64 pe, .slice a2 l.length c2] 73)
  have x2 := Box4.new (w.alloc (.cells #[.string r, .int .i64 en, .int .i64 pe, .slice a1 l.length c1] 73)) r en pe (.slice a2 l.length c2)
  rw [World.size_alloc] at x2
  have hs0 : ((w.alloc (.cells #[.string r, .int .i64 en, .int .i64 pe, .slice a1 l.length c1] 73)).alloc (.cells #[.string r, .int .i64 en, .int .i64 pe, .slice a2 l.length c2] 73)).heap.size = w.heap.size + 2 := by simp
  have hL := sameLines_any a1 a2 c1 c2 l _ hlen (h1.below b0) (h2.below b0)
  have HL : Hid (Calls _ _ _ _ _) := hL
  clear hL h1 h2
  go_enter Tryz.func36, Tryz.ntmps36
  go_wp2_with fail
  refine HL.out.mono ?_
  rintro e w1 ⟨rfl, hb1⟩
  rw [hs0] at hb1
  have B1 := b0.trans (hb1.mono (by omega))
  have y1 := x1.below hb1 (by omega)
  have y2 := x2.below hb1 (by omega)
  have d0 := y1.c0
  have d1 := y1.c1
  have d2 := y1.c2
  have e0 := y2.c0
  have e1 := y2.c1
  have e2 := y2.c2
  clear HL hb1 x1 x2 y1 y2 b0 hs0
  go_wp2
  go_ret
  exact ⟨rfl, B1⟩
end Go.Proofs.YtagimpmefodaeaaGreatDoor

namespace Go.Proofs.YtagimpmefodaeaaGreatDoor
set_option linter.unusedVariables false
set_option linter.unusedSimpArgs false
set_option maxRecDepth 100000
open Go.RowKit Go.Lib

theorem ep_at {L1 L2 : List Je} (h : L1.map Je.ep = L2.map Je.ep) {k : Nat} (hk : k < L1.length) : (L1.getD k je0).ep = (L2.getD k je0).ep := by
  have hl : L1.length = L2.length := by have := congrArg List.length h; simpa using this
  have := congrArg (fun l => l[k]?) h
  simp only [List.getElem?_map, List.getElem?_eq_getElem hk, List.getElem?_eq_getElem (by omega : k < L2.length), Option.map_some, Option.some.injEq] at this
  rw [List.getD_eq_getElem?_getD, List.getD_eq_getElem?_getD, List.getElem?_eq_getElem hk, List.getElem?_eq_getElem (by omega : k < L2.length)]
  exact this
set_option maxHeartbeats 4000000 in
theorem sameEntries_any (a1 a2 : Option Addr) (c1 c2 : Nat) (L1 L2 : List Je) (w : World) (hlen : L1.length ≤ 1000) (he : L1.map Je.ep = L2.map Je.ep) (hln : ∀ x ∈ L1, x.lns.length ≤ 1000) (h1 : IsJs w a1 L1 c1) (h2 : IsJs w a2 L2 c2) :
    Calls Tryz.prog 12 #[.slice a1 L1.length c1, .slice a2 L2.length c2] w fun e w' => e = .returned (.bool true) ∧ Below w.heap.size w w' := by
  have hl : L2.length = L1.length := by have := congrArg List.length he; simpa using this.symm
  rw [hl]
  have H1 : Hid (IsJs w a1 L1 c1) := h1
  have H2 : Hid (IsJs w a2 L2 c2) := h2
  have HE : Hid (∀ k, k < L1.length → (L1.getD k je0).ep = (L2.getD k je0).ep ∧ (L1.getD k je0).lns.length ≤ 1000) := fun k hk => ⟨ep_at he hk, hln _ (jes_mem L1 k hk)⟩
  have HL : Hid (L2.length = L1.length) := hl
  have hl1 : (L1.length : Int) ≤ 1000 := by omega
  clear h1 h2 he hl hln
  go_enter Tryz.func12, Tryz.ntmps12
  go_wp2
  go_loopw [5] (fun i wr => ∃ k : Nat, k ≤ L1.length ∧ i = .int .i64 k ∧ Hid (Below w.heap.size w wr)) (fun i _ => L1.length - (RowKit.intOf i).toNat)
  case atStart => exact ⟨0, Nat.zero_le _, rfl, Below.refl _ _⟩
  case round =>
    obtain ⟨k, hk, rfl, HB⟩ := hrel
    by_cases hlt : k < L1.length
    · have j1 := H1.out.below HB.out
      have j2 := H2.out.below HB.out
      rcases j1.lies with h0 | ⟨b1, o1, e1, hb1, hat1⟩
      · rw [h0] at hlt; simp at hlt
      rcases j2.lies with h0 | ⟨b2, o2, e2, hb2, hat2⟩
      · rw [← HL.out, h0] at hlt; simp at hlt
      subst e1
      subst e2
      have y1 := hat1 k hlt
      have y2 := hat2 k (by rw [HL.out]; exact hlt)
      have l1 := j1.lns _ (jes_mem L1 k hlt)
      have l2 := j2.lns _ (jes_mem L2 k (by rw [HL.out]; exact hlt))
      obtain ⟨hee, hll⟩ := HE.out k hlt
      clear hat1 hat2 j1 j2
      generalize L1.getD k je0 = x at *
      generalize L2.getD k je0 = y at *
      obtain ⟨x0, x1, x2, x3, x4, x5⟩ := x
      obtain ⟨y0, y1', y2', y3, y4, y5⟩ := y
      simp only [Je.ep, Ep.mk.injEq] at hee
      obtain ⟨rfl, rfl, rfl, rfl⟩ := hee
      obtain ⟨d0, d1, d2, d3⟩ := y1
      obtain ⟨f0, f1, f2, f3⟩ := y2
      simp only at d0 d1 d2 d3 f0 f1 f2 f3 l1 l2 hll
      have HS : Hid (∀ W, Below wr.heap.size wr W → Calls Tryz.prog 36 #[.agg #[.string x0, .int .i64 x1, .int .i64 x2, .slice x3 x5.length x4], .agg #[.string x0, .int .i64 x1, .int .i64 x2, .slice y3 x5.length y4]] W fun e w' => e = .returned (.bool true) ∧ Below w.heap.size w w') := fun W hW => by
        refine (sameEntry_any x0 x1 x2 x3 y3 x4 y4 x5 W hll (l1.below hW) (l2.below hW)).mono ?_
        rintro e w' ⟨rfl, hb⟩
        have z := HB.out.trans (hW.mono HB.out.size)
        exact ⟨rfl, z.trans (hb.mono z.size)⟩
      have i0 : (0 : Int) ≤ k := by omega
      have i1 : (k : Int) < L1.length := by omega
      clear l1 l2
      go_wp2_with fail
      go_region_with (go_at_call 36; refine (HS.out _ (by first | exact Below.refl _ _ | exact (Below.refl _ _).drew | exact en_drewN (Below.refl _ _) _)).mono ?_; rintro e w2 ⟨rfl, hb2⟩)
      all_goals
        have HB2 : Hid (Below w.heap.size w w2) := hb2
        clear hb2 HS d0 d1 d2 d3 f0 f1 f2 f3
        go_wp2
        go_roundw
        case rel => exact ⟨k + 1, by omega, by go_num, HB2⟩
        case measure => simp [RowKit.intOf]; omega
    · have ek : k = L1.length := by omega
      subst ek
      have i1 : ¬ (L1.length : Int) < L1.length := by omega
      go_wp2
      go_ret
      exact ⟨rfl, HB.out⟩
end Go.Proofs.YtagimpmefodaeaaGreatDoor

namespace Go.Proofs.YtagimpmefodaeaaGreatDoor
set_option linter.unusedVariables false
open Go.RowKit Go.Extern.Stop Go.Stop Go.Extern

theorem valueOfP (t : Addr) (w : World) : (ReflectliteValue.unpack (.iface 79 (.pointer (some t)))).run Tryz.prog w
    = .ok (.agg #[.pointer (some ⟨4, 79, none⟩), .pointer (some ⟨w.heap.size, 0, none⟩), .int .u64 150]) (w.alloc (.cells #[.pointer (some t)] 79)) := by kernel_rfl
theorem typeP (a : Addr) (w : World) : (ReflectliteValue.methodAny (ReflectliteValue.valueError "reflectlite.Value.Type" 0) (fun t _ _ _ => ReflectliteType.toType t) #[.agg #[.pointer (some ⟨4, 79, none⟩), .pointer (some a), .int .u64 150]]).run Tryz.prog w
    = .ok (.iface 142 (.agg #[.pointer (some ⟨4, 79, none⟩)])) w := by kernel_rfl
theorem methodKind (h : Value) (w : World) : (Go.method 311 142 (.agg #[h]) "Kind").run Tryz.prog w = .ok (135, h) w := by kernel_rfl
theorem kindP (w : World) : ((ReflectliteType.abiMethod fun t => Functor.map (fun a : Nat => Value.int IntKind.u8 (a : Int)) (Rtype.kind t)) #[.pointer (some ⟨4, 79, none⟩)]).run Tryz.prog w = .ok (.int .u8 22) w := by kernel_rfl
theorem kindE (w : World) : ((ReflectliteType.abiMethod fun t => Functor.map (fun a : Nat => Value.int IntKind.u8 (a : Int)) (Rtype.kind t)) #[.pointer (some ⟨4, 43, none⟩)]).run Tryz.prog w = .ok (.int .u8 2) w := by kernel_rfl
theorem rlm (z : Sem Value) (f : TypeId → Addr → Nat → Nat → Sem Value) (v : Value) :
    ReflectliteValue.method z f #[v] = (do match ← ReflectliteValue.parts v with | none => z | some (t, a, fl) => f t a fl (fl % 32)) := rfl
theorem partsP (a : Addr) (w : World) : (ReflectliteValue.parts (.agg #[.pointer (some ⟨4, 79, none⟩), .pointer (some a), .int .u64 150])).run Tryz.prog w = .ok (some (79, a, 150)) w := by kernel_rfl
theorem isNilP (a p : Addr) (W : World) (ha : W.cell? a = some (.pointer (some p))) :
    (ReflectliteValue.method (ReflectliteValue.valueError "reflectlite.Value.IsNil" 0) ReflectliteValue.isNil #[.agg #[.pointer (some ⟨4, 79, none⟩), .pointer (some a), .int .u64 150]]).run Tryz.prog W = .ok (.bool false) W := by
  rw [rlm]
  simp only [Sem.run_bind, partsP, Result.andThen]
  simp [ReflectliteValue.isNil, loadVar, isAgg, underlying, Tryz.underlying79, ha, Result.andThen]
theorem methodElem (h : Value) (w : World) : (Go.method 311 142 (.agg #[h]) "Elem").run Tryz.prog w = .ok (146, .agg #[h]) w := by kernel_rfl
theorem methodImplements (h : Value) (w : World) : (Go.method 311 142 (.agg #[h]) "Implements").run Tryz.prog w = .ok (147, .agg #[h]) w := by kernel_rfl
theorem methodAssignableTo (h : Value) (w : World) : (Go.method 311 142 (.agg #[h]) "AssignableTo").run Tryz.prog w = .ok (144, .agg #[h]) w := by kernel_rfl
theorem elemP (w : World) : (ReflectliteType.method ReflectliteType.elem #[.agg #[.pointer (some ⟨4, 79, none⟩)]]).run Tryz.prog w = .ok (.iface 142 (.agg #[.pointer (some ⟨4, 43, none⟩)])) w := by kernel_rfl
theorem implementsE (w : World) : (ReflectliteType.relation "Implements" ReflectliteType.implements_ #[.agg #[.pointer (some ⟨4, 43, none⟩)], .iface 142 (.agg #[.pointer (some ⟨4, 27, none⟩)])]).run Tryz.prog w = .ok (.bool true) w := by kernel_rfl
theorem typeOfE (v : Value) (w : World) : (ReflectliteType.typeOf #[.iface 43 v]).run Tryz.prog w = .ok (.iface 142 (.agg #[.pointer (some ⟨4, 43, none⟩)])) w := by kernel_rfl
theorem assignableE (w : World) : (ReflectliteType.relation "AssignableTo" ReflectliteType.assignableTo #[.agg #[.pointer (some ⟨4, 43, none⟩)], .iface 142 (.agg #[.pointer (some ⟨4, 43, none⟩)])]).run Tryz.prog w = .ok (.bool true) w := by kernel_rfl
theorem valueOfE (n : Int) (w : World) : (ReflectliteValue.unpack (.iface 43 (.int .i64 n))).run Tryz.prog w
    = .ok (.agg #[.pointer (some ⟨4, 43, none⟩), .pointer (some ⟨w.heap.size, 0, none⟩), .int .u64 130]) (w.alloc (.cells #[.int .i64 n] 43)) := by kernel_rfl
theorem elemOfP (w : World) : (Rtype.elem? 79).run Tryz.prog w = .ok (some 43) w := by kernel_rfl
theorem mkE (p : Addr) (w : World) : (ReflectliteValue.mk 43 p ReflectliteValue.flagAddr).run Tryz.prog w = .ok (.agg #[.pointer (some ⟨4, 43, none⟩), .pointer (some p), .int .u64 386]) w := by kernel_rfl
theorem elemVP (a p : Addr) (W : World) (ha : W.cell? a = some (.pointer (some p))) :
    (ReflectliteValue.method (ReflectliteValue.valueError "reflectlite.Value.Elem" 0) ReflectliteValue.elem #[.agg #[.pointer (some ⟨4, 79, none⟩), .pointer (some a), .int .u64 150]]).run Tryz.prog W
      = .ok (.agg #[.pointer (some ⟨4, 43, none⟩), .pointer (some p), .int .u64 386]) W := by
  rw [rlm]
  simp only [Sem.run_bind, partsP, Result.andThen]
  simp [ReflectliteValue.elem, loadVar, isAgg, underlying, Tryz.underlying79, ha, Result.andThen, elemOfP, mkE]
theorem rls (v x : Value) : ∃ s1 s2 s3 s4 s5 : String, ReflectliteValue.set #[v, x] = (do
    let (some (dst, a, fl), some (src, b, _)) := (← ReflectliteValue.parts v, ← ReflectliteValue.parts x)
      | unsupported (.noEntry s1)
    if fl / ReflectliteValue.flagAddr % 2 == 0 then unsupported (.noEntry s2)
    let val ← loadVar src b
    if ← Rtype.directlyAssignable dst src then storeVar dst a val
    else if ← Rtype.implements dst src then
      if (← Rtype.kind src) == 20 then
        match val with
        | .nilIface => unsupported (.noEntry s3)
        | _ => storeVar dst a val
      else storeVar dst a (.iface src val)
    else panicString (s4 ++ (← Rtype.spelt src) ++ s5 ++ (← Rtype.spelt dst))
    pure (.tuple #[])) := ⟨_, _, _, _, _, rfl⟩
theorem partsEa (a : Addr) (w : World) : (ReflectliteValue.parts (.agg #[.pointer (some ⟨4, 43, none⟩), .pointer (some a), .int .u64 386])).run Tryz.prog w = .ok (some (43, a, 386)) w := by kernel_rfl
theorem partsE (a : Addr) (w : World) : (ReflectliteValue.parts (.agg #[.pointer (some ⟨4, 43, none⟩), .pointer (some a), .int .u64 130])).run Tryz.prog w = .ok (some (43, a, 130)) w := by kernel_rfl
theorem directE (w : World) : (Rtype.directlyAssignable 43 43).run Tryz.prog w = .ok true w := by kernel_rfl
theorem setE (ta b : Addr) (n : Int) (old : Value) (W : World) (hb : W.cell? b = some (.int .i64 n)) (ht : W.cell? ta = some old) (hf : W.frozen? ta = false) :
    (ReflectliteValue.set #[.agg #[.pointer (some ⟨4, 43, none⟩), .pointer (some ta), .int .u64 386], .agg #[.pointer (some ⟨4, 43, none⟩), .pointer (some b), .int .u64 130]]).run Tryz.prog W
      = .ok (.tuple #[]) (W.setCell ta (.int .i64 n)) := by
  obtain ⟨s1, s2, s3, s4, s5, h⟩ := rls (.agg #[.pointer (some ⟨4, 43, none⟩), .pointer (some ta), .int .u64 386]) (.agg #[.pointer (some ⟨4, 43, none⟩), .pointer (some b), .int .u64 130])
  rw [h]
  simp only [Sem.run_bind, partsEa, partsE, Result.andThen]
  simp [ReflectliteValue.flagAddr, loadVar, isAgg, underlying, Tryz.underlying43, hb, Result.andThen, directE, storeVar, Value.cells, storeCells, Addr.add]
  rw [run_store Tryz.prog W ta _ _ (by rfl)]
  simp [ht, hf]
end Go.Proofs.YtagimpmefodaeaaGreatDoor
