/-
  The contracts of cmp.Compare at texts, cmp.Or at two numbers, entry.compare.
-/
import Derived.Test.YtioegjmcpjnmnaaGreatDoorZp3
import Derived.Deep.RegionHeld3
import Derived.Deep.RegionWith
import Derived.Maps.AppendAt
import Derived.Deep.AppendLies
import Derived.Deep.RegionHeldLaw
import Derived.RangeFuncBox
import Derived.Laws.Cover1
import Derived.BigRegion
import Derived.Laws.NewBlocks
namespace Go.Proofs.YtioegjmcpjnmnaaGreatDoor
set_option linter.unusedVariables false
set_option linter.unusedSimpArgs false
set_option maxRecDepth 100000
open Go.RowKit Go.Lib

/-- What is wrong with both accounts of a plan. -/
def accBad (c : List Ac) (p : Pn) : Int := if leafBad c p.src ≠ 0 then leafBad c p.src else if leafBad c p.dst ≠ 0 then leafBad c p.dst else if p.src = p.dst then 8 else 0
/-- What is wrong with the k-th plan. -/
def pnBad (c : List Ac) (l : List Pn) (k : Nat) : Int :=
  if refBad (l.take k) (l.getD k pn0).ref ≠ 0 then refBad (l.take k) (l.getD k pn0).ref
  else if (upTo (l.getD k pn0).ent 12 && spreadB (l.getD k pn0).amt (l.getD k pn0).fst (l.getD k pn0).per) = false then 1
  else if accBad c (l.getD k pn0) ≠ 0 then accBad c (l.getD k pn0)
  else if isCur (l.getD k pn0).cur = false then 2 else 0
/-- What is wrong with plans. -/
def pnsBad (c : List Ac) (l : List Pn) : Int :=
  if chBad c ≠ 0 then chBad c else if 20 < l.length then 4 else firstTo (pnBad c l) l.length

set_option maxHeartbeats 2000000 in
theorem checkAccounts_any (c : List Ac) (p : Pn) (B1 B2 : Nat) (w : World) (hL : Lfs w B1 B2 c) :
    Calls Tryz.prog 19 #[.agg p.cells, .func (.func 40) #[] #[.pointer (some ⟨B1, 0, none⟩), .pointer (some ⟨B2, 0, none⟩)]] w fun e w' => e = .returned (chE (accBad c p)) ∧ Below w.heap.size w w' := by
  have eg : ∀ args W, (callFunc 40 args).run Tryz.prog W = .ok (.enter 40 args) W := fun args W => en_enters Tryz.func40 (by kernel_rfl) ⟨_, rfl⟩ args W
  obtain ⟨w0, hw0⟩ : ∃ w0, w.alloc (.cells p.cells 37) = w0 := ⟨_, rfl⟩
  have B0 : Below w.heap.size w w0 := by rw [← hw0]; exact (Below.refl _ w).alloc (Nat.le_refl _) _
  have hs0 : w.heap.size < w0.heap.size := by rw [← hw0]; simp
  have HA : Hid (∀ W, Below w0.heap.size w0 W → PnAt W w.heap.size 0 p ∧ Below w.heap.size w W) := fun W hW =>
    ⟨(by rw [← hw0]; exact PnAt.new w p _ : PnAt w0 w.heap.size 0 p).below hW hs0, B0.trans (hW.mono (by omega))⟩
  have HLf : Hid (∀ code W, Below w0.heap.size w0 W → Calls Tryz.prog 40 #[.string code, .pointer (some ⟨B1, 0, none⟩), .pointer (some ⟨B2, 0, none⟩)] W fun e w' => e = .returned (chE (leafBad c code)) ∧ Below w0.heap.size w0 w') := fun code W hW => by
    refine (leaf1_any c code B1 B2 W ((hL.below B0).below hW)).mono ?_
    rintro e w' ⟨rfl, hb⟩
    exact ⟨rfl, hW.trans (hb.mono hW.size)⟩
  obtain ⟨res, hres⟩ : ∃ res, chE (accBad c p) = res := ⟨_, rfl⟩
  have Hres : Hid (chE (accBad c p) = res) := hres
  rw [hres]
  have HW0 : Hid (w.alloc (.cells p.cells 37) = w0) := hw0
  clear hres hL hw0 B0
  obtain ⟨ref, en, fr, tw, cu, am, fs, pr⟩ := p
  obtain ⟨⟨d0, d1, d2, d3, d4, d5, d6, d7⟩, _⟩ := HA.out w0 (Below.refl _ _)
  simp only [Pn.cells, Nat.zero_add] at HW0 HA d0 d1 d2 d3 d4 d5 d6 d7 ⊢
  have HF : Hid (Calls _ _ _ _ _) := HLf.out fr w0 (Below.refl _ _)
  have HR0 : Hid (chE (if leafBad c fr ≠ 0 then leafBad c fr else if leafBad c tw ≠ 0 then leafBad c tw else if fr = tw then 8 else 0) = res) := Hres.out
  clear Hres
  by_cases c1 : leafBad c fr ≠ 0
  · have er : res = chE (leafBad c fr) := by rw [← HR0.out, if_pos c1]
    rw [chE_ne c1] at HF er
    subst er
    clear HR0 HLf
    generalize leafBad c fr = z at *
    go_enter Tryz.func19, Tryz.ntmps19
    go_upto_region 1 with fail
    rw [HW0.out]
    clear HW0
    go_wp2_with (go_at_fn 40; refine HF.out.mono ?_; rintro e w' ⟨rfl, hb'⟩)
    go_ret
    exact ⟨rfl, (HA.out _ hb').2⟩
  have c1' := Decidable.of_not_not c1
  rw [c1', chE_zero] at HF
  have HR1 : Hid (chE (if leafBad c tw ≠ 0 then leafBad c tw else if fr = tw then 8 else 0) = res) := by
    have := HR0.out; rw [if_neg c1] at this; exact this
  clear HR0 c1 c1'
  go_enter Tryz.func19, Tryz.ntmps19
  go_upto_region 1 with fail
  rw [HW0.out]
  clear HW0
  go_wp2_with fail
  go_at_fn 40
  refine HF.out.mono ?_
  rintro e w1 ⟨rfl, hb1⟩
  clear HF d0 d1 d2 d3 d4 d5 d6 d7
  obtain ⟨⟨d0, d1, d2, d3, d4, d5, d6, d7⟩, _⟩ := HA.out w1 hb1
  simp only [Nat.zero_add] at d0 d1 d2 d3 d4 d5 d6 d7
  have HF : Hid (Calls _ _ _ _ _) := HLf.out tw w1 hb1
  clear HLf hb1
  by_cases c2 : leafBad c tw ≠ 0
  · have er : res = chE (leafBad c tw) := by rw [← HR1.out, if_pos c2]
    rw [chE_ne c2] at HF er
    subst er
    clear HR1
    go_wp2_with (go_at_fn 40; refine HF.out.mono ?_; rintro e w' ⟨rfl, hb'⟩)
    go_ret
    exact ⟨rfl, (HA.out _ hb').2⟩
  have c2' := Decidable.of_not_not c2
  rw [c2', chE_zero] at HF
  have HR2 : Hid (chE (if fr = tw then 8 else 0) = res) := by
    have := HR1.out; rw [if_neg c2] at this; exact this
  clear HR1 c2 c2'
  go_wp2_with fail
  go_at_fn 40
  refine HF.out.mono ?_
  rintro e w2 ⟨rfl, hb2⟩
  clear HF d0 d1 d2 d3 d4 d5 d6 d7
  obtain ⟨⟨d0, d1, d2, d3, d4, d5, d6, d7⟩, hbw⟩ := HA.out w2 hb2
  simp only [Nat.zero_add] at d0 d1 d2 d3 d4 d5 d6 d7
  clear HA hb2
  by_cases c3 : fr = tw
  · have er : res = chE 8 := by rw [← HR2.out, if_pos c3]
    rw [chE_ne (by decide)] at er
    subst er
    subst c3
    clear HR2
    go_wp2
    go_ret
    exact ⟨rfl, hbw⟩
  · have er : res = chE 0 := by rw [← HR2.out, if_neg c3]
    rw [chE_zero] at er
    subst er
    have c3' := ch_ne c3
    clear HR2
    go_wp2
    go_ret
    exact ⟨rfl, hbw⟩
set_option maxHeartbeats 8000000 in
theorem plCheck_any (a a2 : Option Addr) (cap cap2 : Nat) (c : List Ac) (l : List Pn) (w : World) (h : IsSl w a c cap) (hl : IsPn w a2 l cap2) (hll : l.length ≤ 9223372036854775807) :
    Calls Tryz.prog 5 #[.slice a c.length cap, .slice a2 l.length cap2] w fun e w' => e = .returned (chE (pnsBad c l)) ∧ Below w.heap.size w w' := by
  by_cases c0 : chBad c ≠ 0
  · have HC : Hid (Calls _ _ _ _ _) := leafCheck_bad a cap c w h c0
    have e0 : pnsBad c l = chBad c := by unfold pnsBad; rw [if_pos c0]
    rw [e0]
    rw [chE_ne c0] at HC ⊢
    clear h hl e0 c0
    generalize chBad c = z at *
    go_enter Tryz.func5, Tryz.ntmps5
    go_wp2_with (go_at_call 15; refine HC.out.mono ?_; rintro e w1 ⟨rfl, hb1⟩)
    go_ret
    exact ⟨rfl, hb1⟩
  have HC : Hid (Calls _ _ _ _ _) := leafCheck_ok a cap c w h (Decidable.of_not_not c0)
  obtain ⟨res, hres⟩ : ∃ res, chE (pnsBad c l) = res := ⟨_, rfl⟩
  have HR1 : Hid (chE (if 20 < l.length then 4 else firstTo (pnBad c l) l.length) = res) := by
    rw [← hres]; unfold pnsBad; rw [if_neg c0]; exact rfl
  rw [hres]
  have HL : Hid (IsPn w a2 l cap2) := hl
  have hcap := hl.cap
  clear hres h hl c0
  go_enter Tryz.func5, Tryz.ntmps5
  go_wp2_with fail
  refine HC.out.mono ?_
  rintro e w1 ⟨B1, B2, rfl, hlf, hb1⟩
  have HLf : Hid (Lfs w1 B1 B2 c) := hlf
  have HB1 : Hid (Below w.heap.size w w1) := hb1
  clear hlf hb1 HC
  by_cases c1 : 20 < l.length
  · have er : res = chE 4 := by rw [← HR1.out, if_pos c1]
    rw [chE_ne (by decide)] at er
    subst er
    have i1 : (20 : Int) < l.length := by omega
    clear HR1
    go_wp2
    go_ret
    exact ⟨rfl, HB1.out⟩
  have HR2 : Hid (chE (firstTo (pnBad c l) l.length) = res) := by
    have := HR1.out; rw [if_neg c1] at this; exact this
  have i1 : ¬ (20 : Int) < l.length := by omega
  have i2 : (l.length : Int) ≤ 20 := by omega
  have i3 : l.length ≤ 20 := by omega
  clear HR1 c1 hll
  go_wp2
  go_loopw [25] (fun i wr => ∃ k : Nat, k ≤ l.length ∧ i = .int .i64 k ∧ Hid (firstTo (pnBad c l) k = 0) ∧ Hid (Below w1.heap.size w1 wr)) (fun i _ => l.length - (RowKit.intOf i).toNat)
  case atStart => exact ⟨0, Nat.zero_le _, rfl, rfl, Below.refl _ _⟩
  case round =>
    obtain ⟨k, hk, rfl, H0, HB⟩ := hrel
    by_cases hkn : k < l.length
    · have hbw : Below w.heap.size w wr := HB1.out.trans (HB.out.mono HB1.out.size)
      obtain ⟨b, off, e, hbl, hc⟩ := ((HL.out).below hbw).at hkn
      subst e
      have HRet : Hid (∀ z, z ≠ 0 → pnBad c l k = z → res = chE z) := fun z h0 h1 => by
        rw [← HR2.out, firstTo_first H0.out (by rw [h1]; exact h0) hkn, h1]
      have HNx : Hid (pnBad c l k = 0 → firstTo (pnBad c l) (k + 1) = 0) := fun h => by rw [firstTo_next H0.out, h]
      obtain ⟨wa, hwa⟩ : ∃ wa, wr.alloc (.cells (l.getD k pn0).cells 37) = wa := ⟨_, rfl⟩
      have b11 : Below wr.heap.size wr wa := by rw [← hwa]; exact (Below.refl _ wr).alloc (Nat.le_refl _) _
      have BB2 : Below w1.heap.size w1 wa := HB.out.trans (b11.mono HB.out.size)
      have hsa : wr.heap.size < wa.heap.size := by rw [← hwa]; simp
      have hx : PnAt wa wr.heap.size 0 (l.getD k pn0) := by rw [← hwa]; exact PnAt.new wr (l.getD k pn0) 37
      have HP : Hid (∀ W, Below wa.heap.size wa W → PnAt W wr.heap.size 0 (l.getD k pn0) ∧ Below w1.heap.size w1 W ∧ Below w.heap.size w W) := fun W hW => by
        have h3 := BB2.trans (hW.mono BB2.size)
        exact ⟨hx.below hW hsa, h3, HB1.out.trans (h3.mono HB1.out.size)⟩
      have HCr : Hid (∀ W, Below wa.heap.size wa W → Calls Tryz.prog 16 #[.slice (some ⟨b, off, none⟩) k cap2, .string (l.getD k pn0).ref] W fun e w' => e = .returned (chE (refBad (l.take k) (l.getD k pn0).ref)) ∧ Below wa.heap.size wa w') := fun W hd => by
        have ht := (((HL.out).below hbw).below b11).take k
        have := checkRef_any (some ⟨b, off, none⟩) cap2 (l.take k) (l.getD k pn0).ref W (by rw [List.length_take]; omega) (ht.below hd)
        rw [List.length_take, Nat.min_eq_left hk] at this
        refine this.mono ?_
        rintro e w' ⟨rfl, hb⟩
        exact ⟨rfl, hd.trans (hb.mono hd.size)⟩
      have HEn : Hid (∀ W, Calls Tryz.prog 17 #[.int .i64 (l.getD k pn0).ent] W fun e w' => e = .returned (.bool (upTo (l.getD k pn0).ent 12)) ∧ w' = W) := fun W => isEntity_any _ W
      have HSp : Hid (∀ W, Below wa.heap.size wa W → Calls Tryz.prog 18 #[.agg (l.getD k pn0).cells] W fun e w' => e = .returned (.bool (spreadB (l.getD k pn0).amt (l.getD k pn0).fst (l.getD k pn0).per)) ∧ Below wa.heap.size wa w') := fun W hW => by
        refine (isSpread_any _ W).mono ?_
        rintro e w' ⟨rfl, hb⟩
        exact ⟨rfl, hW.trans (hb.mono hW.size)⟩
      have HAc : Hid (∀ W, Below wa.heap.size wa W → Calls Tryz.prog 19 #[.agg (l.getD k pn0).cells, .func (.func 40) #[] #[.pointer (some ⟨B1, 0, none⟩), .pointer (some ⟨B2, 0, none⟩)]] W fun e w' => e = .returned (chE (accBad c (l.getD k pn0))) ∧ Below wa.heap.size wa w') := fun W hW => by
        refine (checkAccounts_any c _ B1 B2 W ((HLf.out.below BB2).below hW)).mono ?_
        rintro e w' ⟨rfl, hb⟩
        exact ⟨rfl, hW.trans (hb.mono hW.size)⟩
      have HCu : Hid (∀ W, Below wa.heap.size wa W → Calls Tryz.prog 20 #[.string (l.getD k pn0).cur] W fun e w' => e = .returned (.bool (isCur (l.getD k pn0).cur)) ∧ Below wa.heap.size wa w') := fun W hW => by
        refine (cur_any _ W).mono ?_
        rintro e w' ⟨rfl, hb⟩
        exact ⟨rfl, hW.trans (hb.mono hW.size)⟩
      have HE : Hid (pnBad c l k = if refBad (l.take k) (l.getD k pn0).ref ≠ 0 then refBad (l.take k) (l.getD k pn0).ref else if (upTo (l.getD k pn0).ent 12 && spreadB (l.getD k pn0).amt (l.getD k pn0).fst (l.getD k pn0).per) = false then 1 else if accBad c (l.getD k pn0) ≠ 0 then accBad c (l.getD k pn0) else if isCur (l.getD k pn0).cur = false then 2 else 0) := rfl
      have HWa : Hid (wr.alloc (.cells (l.getD k pn0).cells 37) = wa) := hwa
      have hx2 := hx
      clear BB2 b11 hwa hx hsa hbw
      generalize refBad (l.take k) (l.getD k pn0).ref = rb at *
      generalize accBad c (l.getD k pn0) = ab at *
      generalize l.getD k pn0 = p at *
      obtain ⟨ref, en, fr, tw, cu, am, fs, pr⟩ := p
      obtain ⟨d0, d1, d2, d3, d4, d5, d6, d7⟩ := hc
      obtain ⟨f0, f1, f2, f3, f4, f5, f6, f7⟩ := hx2
      simp only [Pn.cells, Nat.zero_add] at d0 d1 d2 d3 d4 d5 d6 d7 f0 f1 f2 f3 f4 f5 f6 f7 HWa HP HCr HEn HSp HAc HCu HE
      have j0 : (0 : Int) ≤ k := by omega
      have j1 : (k : Int) < l.length := by omega
      have j2 : (k : Int) ≤ cap2 := by omega
      go_upto_region 9 with fail
      rw [HWa.out]
      clear HWa d0 d1 d2 d3 d4 d5 d6 d7
      by_cases c2 : rb ≠ 0
      · have er : res = chE rb := HRet.out rb c2 (by rw [HE.out, if_pos c2])
        rw [chE_ne c2] at er HCr
        subst er
        clear HE HRet HNx HEn HSp HAc HCu HR2
        go_region_with (go_at_call 16; refine (HCr.out _ (by first | exact Below.refl _ _ | exact (Below.refl _ _).drew | exact en_drewN (Below.refl _ _) _)).mono ?_; rintro e w2 ⟨rfl, hb2⟩)
        have hbw2 := (HP.out _ hb2).2.2
        clear HP HCr f0 f1 f2 f3 f4 f5 f6 f7 hb2
        go_wp2
        go_ret
        exact ⟨rfl, hbw2⟩
      have c2' := Decidable.of_not_not c2
      have HE2 : Hid (pnBad c l k = if (upTo en 12 && spreadB am fs pr) = false then 1 else if ab ≠ 0 then ab else if isCur cu = false then 2 else 0) := by
        have := HE.out; rw [if_neg c2] at this; exact this
      rw [c2', chE_zero] at HCr
      clear HE c2 c2'
      go_region_with (go_at_call 16; refine (HCr.out _ (by first | exact Below.refl _ _ | exact (Below.refl _ _).drew | exact en_drewN (Below.refl _ _) _)).mono ?_; rintro e w2 ⟨rfl, hb2⟩)
      have HB2 : Hid (Below wa.heap.size wa w2) := hb2
      clear f0 f1 f2 f3 f4 f5 f6 f7 HCr hb2
      obtain ⟨⟨f0, f1, f2, f3, f4, f5, f6, f7⟩, _, hbw2⟩ := HP.out w2 HB2.out
      simp only [Nat.zero_add] at f0 f1 f2 f3 f4 f5 f6 f7
      cases u1 : upTo en 12
      · have er : res = chE 1 := HRet.out 1 (by decide) (by rw [HE2.out, u1, Bool.false_and, if_pos rfl])
        rw [chE_ne (by decide)] at er
        subst er
        rw [u1] at HEn
        clear HE2 HRet HNx HSp HAc HCu HR2
        go_wp2_with (go_at_call 17; refine (HEn.out _).mono ?_; rintro e w' ⟨rfl, rfl⟩)
        go_ret
        exact ⟨rfl, hbw2⟩
      rw [u1] at HEn HE2
      have HSp2 : Hid (Calls _ _ _ _ _) := HSp.out w2 HB2.out
      clear HSp u1
      cases u2 : spreadB am fs pr
      · have er : res = chE 1 := HRet.out 1 (by decide) (by rw [HE2.out, u2, Bool.and_false, if_pos rfl])
        rw [chE_ne (by decide)] at er
        subst er
        rw [u2] at HSp2
        clear HE2 HRet HNx HAc HCu HR2
        go_wp2_with fail
        refine (HEn.out _).mono ?_
        rintro e w' ⟨rfl, hw⟩
        rw [hw]; clear hw w' HEn
        go_wp2_with fail
        refine HSp2.out.mono ?_
        rintro e w3 ⟨rfl, hb3⟩
        have hbw3 := (HP.out _ hb3).2.2
        clear HP HSp2 f0 f1 f2 f3 f4 f5 f6 f7 hb3 HB2 hbw2
        go_wp2
        go_ret
        exact ⟨rfl, hbw3⟩
      rw [u2] at HSp2 HE2
      have HE3 : Hid (pnBad c l k = if ab ≠ 0 then ab else if isCur cu = false then 2 else 0) := HE2.out
      clear HE2 u2
      go_wp2_with fail
      refine (HEn.out _).mono ?_
      rintro e w' ⟨rfl, hw⟩
      rw [hw]; clear hw w' HEn
      go_wp2_with fail
      refine HSp2.out.mono ?_
      rintro e w3 ⟨rfl, hb3⟩
      have HB3 : Hid (Below wa.heap.size wa w3) := hb3
      clear f0 f1 f2 f3 f4 f5 f6 f7 HSp2 hb3 HB2 hbw2
      obtain ⟨⟨f0, f1, f2, f3, f4, f5, f6, f7⟩, _, hbw3⟩ := HP.out w3 HB3.out
      simp only [Nat.zero_add] at f0 f1 f2 f3 f4 f5 f6 f7
      have HAc3 : Hid (Calls _ _ _ _ _) := HAc.out w3 HB3.out
      clear HAc
      by_cases c3 : ab ≠ 0
      · have er : res = chE ab := HRet.out ab c3 (by rw [HE3.out, if_pos c3])
        rw [chE_ne c3] at er HAc3
        subst er
        clear HE3 HRet HNx HCu HR2
        go_wp2_with fail
        refine HAc3.out.mono ?_
        rintro e w4 ⟨rfl, hb4⟩
        have hbw4 := (HP.out _ hb4).2.2
        clear HP HAc3 f0 f1 f2 f3 f4 f5 f6 f7 hb4 HB3 hbw3
        go_wp2
        go_ret
        exact ⟨rfl, hbw4⟩
      have c3' := Decidable.of_not_not c3
      have HE4 : Hid (pnBad c l k = if isCur cu = false then 2 else 0) := by
        have := HE3.out; rw [if_neg c3] at this; exact this
      rw [c3', chE_zero] at HAc3
      clear HE3 c3 c3'
      go_wp2_with fail
      refine HAc3.out.mono ?_
      rintro e w4 ⟨rfl, hb4⟩
      have HB4 : Hid (Below wa.heap.size wa w4) := hb4
      clear f0 f1 f2 f3 f4 f5 f6 f7 HAc3 hb4 HB3 hbw3
      obtain ⟨⟨f0, f1, f2, f3, f4, f5, f6, f7⟩, _, _⟩ := HP.out w4 HB4.out
      simp only [Nat.zero_add] at f0 f1 f2 f3 f4 f5 f6 f7
      have HCu4 : Hid (Calls _ _ _ _ _) := HCu.out w4 HB4.out
      clear HCu
      cases u3 : isCur cu
      · have er : res = chE 2 := HRet.out 2 (by decide) (by rw [HE4.out, if_pos u3])
        rw [chE_ne (by decide)] at er
        subst er
        rw [u3] at HCu4
        clear HE4 HRet HNx HR2
        go_wp2_with fail
        refine HCu4.out.mono ?_
        rintro e w5 ⟨rfl, hb5⟩
        have hbw5 := (HP.out _ hb5).2.2
        clear HP HCu4 f0 f1 f2 f3 f4 f5 f6 f7 hb5 HB4
        go_wp2
        go_ret
        exact ⟨rfl, hbw5⟩
      · have HN : Hid (firstTo (pnBad c l) (k + 1) = 0) := HNx.out (by rw [HE4.out, if_neg (by rw [u3]; simp)])
        rw [u3] at HCu4
        clear HE4 HRet HNx
        go_wp2_with fail
        refine HCu4.out.mono ?_
        rintro e w5 ⟨rfl, hb5⟩
        have HB5 : Hid (Below w1.heap.size w1 w5) := (HP.out _ hb5).2.1
        clear HP HCu4 f0 f1 f2 f3 f4 f5 f6 f7 hb5 HB4
        go_wp2
        go_roundw
        case rel => exact ⟨k + 1, by omega, by go_num, HN, HB5⟩
        case measure => simp [RowKit.intOf]; omega
    · have ek : k = l.length := by omega
      subst ek
      have er : res = chE 0 := by rw [← HR2.out, H0.out]
      rw [chE_zero] at er
      subst er
      have hbw : Below w.heap.size w wr := HB1.out.trans (HB.out.mono HB1.out.size)
      clear HR2
      go_wp2
      go_ret
      exact ⟨rfl, hbw⟩
end Go.Proofs.YtioegjmcpjnmnaaGreatDoor

namespace Go.Proofs.YtioegjmcpjnmnaaGreatDoor
set_option linter.unusedVariables false
set_option linter.unusedSimpArgs false
set_option maxRecDepth 100000
open Go.RowKit Go.Lib

structure LnAt (w : World) (b off : Nat) (x : Ln) : Prop where
  c0 : w.cell? ⟨b, off, none⟩ = some (.string x.acc)
  c1 : w.cell? ⟨b, off + 1, none⟩ = some (.string x.cur)
  c2 : w.cell? ⟨b, off + 2, none⟩ = some (.int .i64 x.amt)

theorem LnAt.below {w w' : World} {b off n : Nat} {a : Ln} (h : LnAt w b off a) (hb : Below n w w') (hn : b < n) : LnAt w' b off a :=
  ⟨(hb.cell (p := ⟨b, off, none⟩) hn).trans h.c0, (hb.cell (p := ⟨b, off + 1, none⟩) hn).trans h.c1, (hb.cell (p := ⟨b, off + 2, none⟩) hn).trans h.c2⟩
theorem LnAt.new (w : World) (a : Ln) (t : TypeId) : LnAt (w.alloc (.cells a.cells t)) w.heap.size 0 a :=
  ⟨by simp [Ln.cells], by simp [Ln.cells], by simp [Ln.cells]⟩

/-- Lines in memory. -/
def LnsAt (w : World) (b off : Nat) (l : List Ln) : Prop := ∀ k, k < l.length → LnAt w b (off + k * 3) (l.getD k ln0)

/-- A slice of lines. -/
structure IsLn (w : World) (a : Option Addr) (l : List Ln) (cap : Nat) : Prop where
  cap : l.length ≤ cap
  lies : l = [] ∨ ∃ b off, a = some ⟨b, off, none⟩ ∧ b < w.heap.size ∧ LnsAt w b off l

theorem IsLn.below {w w' : World} {a : Option Addr} {l : List Ln} {cap : Nat} (h : IsLn w a l cap) (hb : Below w.heap.size w w') : IsLn w' a l cap := by
  refine ⟨h.cap, ?_⟩
  rcases h.lies with h | ⟨b, off, e, hlt, hc⟩
  · exact .inl h
  · exact .inr ⟨b, off, e, by have := hb.size; omega, fun k hk => (hc k hk).below hb hlt⟩

theorem lns_drop (l : List Ln) (k : Nat) (h : k < l.length) : l.drop k = l.getD k ln0 :: l.drop (k + 1) := by
  rw [List.drop_eq_getElem_cons h, List.getD_eq_getElem?_getD, List.getElem?_eq_getElem h]
  rfl
theorem lns_take (l : List Ln) (k : Nat) (h : k < l.length) : l.take (k + 1) = l.take k ++ [l.getD k ln0] := by
  rw [List.take_add_one, List.getElem?_eq_getElem h, List.getD_eq_getElem?_getD, List.getElem?_eq_getElem h]
  rfl
theorem lns_mem (l : List Ln) (k : Nat) (h : k < l.length) : l.getD k ln0 ∈ l := by
  rw [List.getD_eq_getElem?_getD, List.getElem?_eq_getElem h]
  exact List.getElem_mem h

/-- The cells of lines, one behind the other. -/
def lnRow (l : List Ln) : List Value := l.flatMap fun x => x.cells.toList
theorem Ln.cells_length (x : Ln) : x.cells.toList.length = 3 := rfl
theorem lnRow_length : ∀ l : List Ln, (lnRow l).length = l.length * 3
  | [] => rfl
  | x :: l => by
    have := lnRow_length l
    unfold lnRow at *
    simp only [List.flatMap_cons, List.length_append, Ln.cells_length, this, List.length_cons]
    omega
theorem lnRow_append (l m : List Ln) : lnRow (l ++ m) = lnRow l ++ lnRow m := by simp [lnRow]
theorem lnRow_one (x : Ln) : lnRow [x] = x.cells.toList := by simp [lnRow]
theorem lnRow_get : ∀ (l : List Ln) (k j : Nat), k < l.length → j < 3 → (lnRow l)[k * 3 + j]? = (l.getD k ln0).cells.toList[j]?
  | [], _, _, h, _ => absurd h (by simp)
  | x :: l, 0, j, _, hj => by
    simp only [lnRow, List.flatMap_cons, Nat.zero_mul, Nat.zero_add, List.getD_cons_zero]
    rw [List.getElem?_append_left (by rw [Ln.cells_length]; exact hj)]
  | x :: l, k + 1, j, h, hj => by
    have ih := lnRow_get l k j (by simpa using h) hj
    simp only [lnRow, List.flatMap_cons, List.getD_cons_succ] at ih ⊢
    rw [List.getElem?_append_right (by rw [Ln.cells_length]; omega), Ln.cells_length, ← ih]
    congr 1
    omega
theorem lnRow_one_cell (l : List Ln) : ∀ u ∈ lnRow l, u.oneCell' = true := by
  intro u hu
  simp only [lnRow, List.mem_flatMap] at hu
  obtain ⟨x, _, hx⟩ := hu
  simp [Ln.cells] at hx
  rcases hx with rfl | rfl | rfl <;> rfl
theorem lnRow_take (l : List Ln) (k : Nat) : lnRow (l.take k) = (lnRow l).take (k * 3) := by
  have h := lnRow_append (l.take k) (l.drop k)
  rw [List.take_append_drop] at h
  rw [h]
  by_cases hk : k ≤ l.length
  · have : (lnRow (l.take k)).length = k * 3 := by rw [lnRow_length, List.length_take, Nat.min_eq_left hk]
    rw [← this, List.take_left]
  · rw [List.take_of_length_le (by omega), List.drop_eq_nil_of_le (by omega)]
    rw [List.take_of_length_le]
    · show lnRow l = lnRow l ++ []
      simp
    · show (lnRow l ++ []).length ≤ _
      rw [List.append_nil, lnRow_length]
      omega
theorem lnRow_drop (l : List Ln) (k : Nat) : lnRow (l.drop k) = (lnRow l).drop (k * 3) := by
  have h := lnRow_append (l.take k) (l.drop k)
  rw [List.take_append_drop] at h
  have h2 := lnRow_take l k
  have h3 : lnRow l = (lnRow l).take (k * 3) ++ (lnRow l).drop (k * 3) := (List.take_append_drop _ _).symm
  rw [← h2] at h3
  rw [h] at h3
  have := List.append_cancel_left h3
  rw [this]
  rw [h]

/-- Lines in a row of one's own. -/
def LnRow (w : World) (n : Nat) (v : Value) (l : List Ln) : Prop := w.ownsRow n 60 3 v l.length (lnRow l)

theorem LnRow.nil (w : World) (n : Nat) : LnRow w n (.slice none 0 0) [] := World.ownsRow_nil _ _ _ _
theorem LnRow.isLn {W : World} {n0 : Nat} {v : Value} {l : List Ln} (h : LnRow W n0 v l) :
    ∃ a cap, v = .slice a l.length cap ∧ IsLn W a l cap := by
  obtain ⟨hlen, ⟨rfl, h0⟩ | ⟨g, cap, cur, rfl, hb, hg, hc, hm, hs, ht⟩⟩ := h
  · have : l = [] := List.eq_nil_of_length_eq_zero h0
    subst this
    exact ⟨none, 0, rfl, Nat.le_refl _, .inl rfl⟩
  · refine ⟨_, cap, rfl, hc, .inr ⟨g, 0, rfl, (Array.getElem?_eq_some_iff.1 hg).1, ?_⟩⟩
    intro k hk
    have C : ∀ j, j < 3 → W.cell? ⟨g, 0 + k * 3 + j, none⟩ = (l.getD k ln0).cells.toList[j]? := fun j hj => by
      have e1 : (lnRow l)[k * 3 + j]? = cur[k * 3 + j]? := by
        rw [← ht, List.getElem?_take, if_pos (by omega)]
        simp
      rw [← lnRow_get l k j hk hj, e1]
      simp [World.cell?, hg]
    exact ⟨C 0 (by omega), C 1 (by omega), C 2 (by omega)⟩
theorem LnRow.below {w w' : World} {n : Nat} {v : Value} {l : List Ln} (h : LnRow w n v l) (hb : Below w.heap.size w w') : LnRow w' n v l := by
  rcases h.2 with ⟨hv, hn⟩ | ⟨g1, c1, cur, hv, hb1, hh, r⟩
  · exact ⟨h.1, .inl ⟨hv, hn⟩⟩
  · exact ⟨h.1, .inr ⟨g1, c1, cur, hv, hb1, (hb.block g1 (Array.getElem?_eq_some_iff.1 hh).1).trans hh, r⟩⟩
theorem LnRow.mono {w : World} {n m : Nat} {v : Value} {l : List Ln} (h : LnRow w n v l) (hm : m ≤ n) : LnRow w m v l := by
  rcases h.2 with ⟨hv, hn⟩ | ⟨g1, c1, cur, hv, hb1, r⟩
  · exact ⟨h.1, .inl ⟨hv, hn⟩⟩
  · exact ⟨h.1, .inr ⟨g1, c1, cur, hv, by omega, r⟩⟩
theorem LnRow.own {w : World} {n : Nat} {v : Value} {xs : List Ln} (h : LnRow w n v xs) : ∀ j, v.ownBlock = some j → n ≤ j := fun j ej => by
  rcases h.2 with ⟨rfl, _⟩ | ⟨g1, c1, cur, rfl, hg1, _⟩
  · cases ej
  · cases ej; exact hg1

/-- The place of the first line for which something holds, counted from a number on; else -1. -/
def lidxFrom (p : Ln → Bool) : Nat → List Ln → Int
  | _, [] => -1
  | k, a :: l => if p a = true then (k : Int) else lidxFrom p (k + 1) l
theorem lidx_any (p : Ln → Bool) : ∀ (l : List Ln) (k : Nat), decide (0 ≤ lidxFrom p k l) = l.any p
  | [], k => by simp [lidxFrom]
  | x :: l, k => by
    rw [lidxFrom]
    cases h : p x
    · rw [if_neg (by simp), lidx_any p l (k + 1)]; simp [h]
    · rw [if_pos rfl]; simp [h]
theorem lidx_spec (p : Ln → Bool) : ∀ (l : List Ln) (k : Nat), (lidxFrom p k l = -1 ∧ l.any p = false) ∨ ∃ j, j < l.length ∧ lidxFrom p k l = ((k + j : Nat) : Int) ∧ p (l.getD j ln0) = true ∧ (l.take j).any p = false
  | [], k => .inl ⟨rfl, rfl⟩
  | x :: l, k => by
    cases h : p x
    · rcases lidx_spec p l (k + 1) with ⟨e, ha⟩ | ⟨j, hj, e, hp, ha⟩
      · exact .inl ⟨by rw [lidxFrom, if_neg (by simp [h]), e], by simp [h, ha]⟩
      · exact .inr ⟨j + 1, by simpa using hj, by rw [lidxFrom, if_neg (by simp [h]), e]; congr 1; omega, by simpa using hp, by simp [h, ha]⟩
    · exact .inr ⟨0, by simp, by rw [lidxFrom, if_pos h]; simp, by simpa using h, by simp⟩

/-- What is asked of a function that is told a line and says yes or no. -/
structure LTells (g : Nat) (p : Ln → Bool) : Prop where
  eg : ∀ args W, (callFunc g args).run Tryz.prog W = .ok (.enter g args) W
  call : ∀ (x : Ln) W, Calls Tryz.prog g #[.agg x.cells] W fun e w' => e = .returned (.bool (p x)) ∧ Below W.heap.size W w'

/-- A line whose amount is none. -/
def wrongA (x : Ln) : Bool := !isAmtB x.amt

/-- What stands against adding lines up. -/
def fewBad (l : List Ln) : Int := if 20 < l.length then 4 else if l.any wrongA = true then 1 else 0
theorem fewBad_zero {l : List Ln} (h : fewBad l = 0) : l.length ≤ 20 ∧ Within mostA l := by
  unfold fewBad at h
  split at h
  · omega
  · split at h
    · omega
    · rename_i h1 h2
      refine ⟨by omega, fun x hx => isAmtB_iff.1 ?_⟩
      have h3 : l.any wrongA = false := by simpa using h2
      rw [List.any_eq_false] at h3
      have := h3 x hx
      simpa [wrongA] using this
theorem fewBad_of {l : List Ln} (h1 : l.length ≤ 20) (h2 : Within mostA l) : fewBad l = 0 := by
  unfold fewBad
  rw [if_neg (by omega), if_neg]
  rw [Bool.not_eq_true, List.any_eq_false]
  intro x hx
  have := isAmtB_iff.2 (h2 x hx)
  simp [wrongA, this]

end Go.Proofs.YtioegjmcpjnmnaaGreatDoor

namespace Go.Proofs.YtioegjmcpjnmnaaGreatDoor
set_option linter.unusedVariables false
set_option linter.unusedSimpArgs false
set_option maxRecDepth 100000
open Go.RowKit Go.Lib

/-- What is asked of a function that makes a line of a line. -/
structure LMakes (g : Nat) (f : Ln → Ln) (ok : Ln → Prop) : Prop where
  eg : ∀ args W, (callFunc g args).run Tryz.prog W = .ok (.enter g args) W
  call : ∀ (x : Ln) W, ok x → Calls Tryz.prog g #[.agg x.cells] W fun e w' => e = .returned (.agg (f x).cells) ∧ Below W.heap.size W w'

theorem ln_info : (Tryz.prog.info? 60).map (fun i => (i.zero, i.size, i.bytes)) = some (some (.agg #[.string ByteArray.empty, .string ByteArray.empty, .int .i64 0]), 3, 40) := by kernel_rfl

theorem cells_three (W : World) (y0 y1 : ByteArray) (y2 : Int) (b : Nat) (t : TypeId) (hb : b = W.heap.size) : ∀ j u, ([.string y0, .string y1, .int .i64 y2] : List Value)[j]? = some u → (W.alloc (.cells #[.string y0, .string y1, .int .i64 y2] t)).cell? ((⟨b, 0, none⟩ : Addr).add j) = some u := by
  subst hb
  intro j u hj
  have h := World.alloc_heap_new W (.cells #[.string y0, .string y1, .int .i64 y2] t)
  generalize W.alloc (.cells #[.string y0, .string y1, .int .i64 y2] t) = V at *
  generalize W.heap.size = b at *
  by_cases h0 : j = 0
  · subst h0
    simp [World.cell?, Addr.add, h] at hj ⊢
    exact hj
  · simp [World.cell?, Addr.add, h, h0]
    exact hj

/-- A line without its account. -/
def bareL (x : Ln) : Ln := ⟨ByteArray.empty, x.cur, x.amt⟩
/-- A line turned round. -/
def turnL (x : Ln) : Ln := ⟨x.acc, x.cur, -x.amt⟩

end Go.Proofs.YtioegjmcpjnmnaaGreatDoor

namespace Go.Proofs.YtioegjmcpjnmnaaGreatDoor
set_option linter.unusedVariables false
set_option linter.unusedSimpArgs false
set_option maxRecDepth 100000
open Go.RowKit Go.Lib

/-- Two texts held against each other. -/
def cmpS (a b : ByteArray) : Int := if Op.bytesLess a.toList b.toList = true then -1 else if (a.toList == b.toList) = true then 0 else 1
/-- Two lines held against each other. -/
def cmpL (a b : Ln) : Int := if cmpS a.acc b.acc ≠ 0 then cmpS a.acc b.acc else cmpS a.cur b.cur

theorem cmpS_zero {a b : ByteArray} : cmpS a b = 0 ↔ (a.toList == b.toList) = true := by
  unfold cmpS
  split
  · rename_i h
    refine ⟨fun h => by omega, fun e => ?_⟩
    rw [beq_iff_eq] at e
    rw [e, bl_self] at h
    cases h
  · split
    · simp_all
    · simp_all
theorem cmpS_neg {a b : ByteArray} : cmpS a b < 0 ↔ Op.bytesLess a.toList b.toList = true := by
  unfold cmpS
  split
  · simp_all
  · split
    · simp_all
    · simp_all
theorem cmpL_neg (a b : Ln) : decide (cmpL a b < 0) = lnLt a b := by
  unfold cmpL lnLt
  by_cases h : cmpS a.acc b.acc = 0
  · rw [if_neg (by simp [h])]
    have e := cmpS_zero.1 h
    have h2 : Op.bytesLess a.acc.toList b.acc.toList = false := by
      cases hh : Op.bytesLess a.acc.toList b.acc.toList
      · rfl
      · have := cmpS_neg.2 hh; omega
    rw [h2, e, Bool.false_or, Bool.true_and]
    rw [Bool.eq_iff_iff, decide_eq_true_eq, cmpS_neg]
  · rw [if_pos h]
    have e : (a.acc.toList == b.acc.toList) = false := by
      cases hh : (a.acc.toList == b.acc.toList)
      · rfl
      · exact absurd (cmpS_zero.2 hh) h
    rw [e, Bool.false_and, Bool.or_false]
    rw [Bool.eq_iff_iff, decide_eq_true_eq, cmpS_neg]
theorem cmpL_zero (a b : Ln) : decide (cmpL a b = 0) = lnEq a b := by
  unfold cmpL lnEq
  by_cases h : cmpS a.acc b.acc = 0
  · rw [if_neg (by simp [h]), cmpS_zero.1 h, Bool.true_and]
    rw [Bool.eq_iff_iff, decide_eq_true_eq, cmpS_zero]
  · rw [if_pos h]
    have e : (a.acc.toList == b.acc.toList) = false := by
      cases hh : (a.acc.toList == b.acc.toList)
      · rfl
      · exact absurd (cmpS_zero.2 hh) h
    rw [e, Bool.false_and]
    simp [h]
theorem cmpS_range (a b : ByteArray) : cmpS a b = -1 ∨ cmpS a b = 0 ∨ cmpS a b = 1 := by
  unfold cmpS
  split
  · simp
  · split <;> simp
theorem cmpL_range (a b : Ln) : cmpL a b = -1 ∨ cmpL a b = 0 ∨ cmpL a b = 1 := by
  unfold cmpL
  split
  · exact cmpS_range _ _
  · exact cmpS_range _ _

theorem cell_new (W : World) (ROW : Array Value) (t : TypeId) (b j : Nat) (v : Value) (hb : b = W.heap.size) (hv : ROW[j]? = some v) : ((W.alloc (.cells ROW t)).drew).cell? ⟨b, j, none⟩ = some v :=
  (World.cell?_alloc_at (w := W) ROW t b j hb).trans hv

end Go.Proofs.YtioegjmcpjnmnaaGreatDoor
