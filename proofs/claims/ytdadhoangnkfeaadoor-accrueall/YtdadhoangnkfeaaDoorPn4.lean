/-
  The contracts of accrue.checkAccounts and accrue.Check.
-/
import Derived.Test.YtdadhoangnkfeaaDoorPn3
import Derived.Deep.RegionHeld3
import Derived.Deep.RegionWith
namespace Go.Proofs.YtdadhoangnkfeaaDoor
set_option linter.unusedVariables false
set_option linter.unusedSimpArgs false
set_option maxRecDepth 100000
open Go.RowKit Go.Lib

/-- What is wrong with both accounts of a plan. -/
def accBad (c : List Ac) (p : Pn) : Int := if leafBad c p.src ≠ 0 then leafBad c p.src else if leafBad c p.dst ≠ 0 then leafBad c p.dst else if p.src = p.dst then 8 else 0
/-- What is wrong with the k-th plan. -/
def pnBad (c : List Ac) (l : List Pn) (k : Nat) : Int :=
  if refBad (l.take k) (l.getD k pn0).ref ≠ 0 then refBad (l.take k) (l.getD k pn0).ref
  else if (upTo (l.getD k pn0).ent 12 && spreadB (l.getD k pn0).amt (l.getD k pn0).fst (l.getD k pn0).per) = false then 1
  else if accBad c (l.getD k pn0) ≠ 0 then accBad c (l.getD k pn0)
  else if isCur (l.getD k pn0).cur = false then 2 else 0
/-- What is wrong with plans. -/
def pnsBad (c : List Ac) (l : List Pn) : Int :=
  if chBad c ≠ 0 then chBad c else if 20 < l.length then 4 else firstTo (pnBad c l) l.length

set_option maxHeartbeats 2000000 in
theorem checkAccounts_any (c : List Ac) (p : Pn) (B1 B2 : Nat) (w : World) (hL : Lfs w B1 B2 c) :
    Calls Tryd.prog 17 #[.agg p.cells, .func (.func 23) #[] #[.pointer (some ⟨B1, 0, none⟩), .pointer (some ⟨B2, 0, none⟩)]] w fun e w' => e = .returned (chE (accBad c p)) ∧ Below w.heap.size w w' := by
  have eg : ∀ args W, (callFunc 23 args).run Tryd.prog W = .ok (.enter 23 args) W := fun args W => en_enters Tryd.func23 (by kernel_rfl) ⟨_, rfl⟩ args W
  obtain ⟨w0, hw0⟩ : ∃ w0, w.alloc (.cells p.cells 23) = w0 := ⟨_, rfl⟩
  have B0 : Below w.heap.size w w0 := by rw [← hw0]; exact (Below.refl _ w).alloc (Nat.le_refl _) _
  have hs0 : w.heap.size < w0.heap.size := by rw [← hw0]; simp
  have HA : Hid (∀ W, Below w0.heap.size w0 W → PnAt W w.heap.size 0 p ∧ Below w.heap.size w W) := fun W hW =>
    ⟨(by rw [← hw0]; exact PnAt.new w p _ : PnAt w0 w.heap.size 0 p).below hW hs0, B0.trans (hW.mono (by omega))⟩
  have HLf : Hid (∀ code W, Below w0.heap.size w0 W → Calls Tryd.prog 23 #[.string code, .pointer (some ⟨B1, 0, none⟩), .pointer (some ⟨B2, 0, none⟩)] W fun e w' => e = .returned (chE (leafBad c code)) ∧ Below w0.heap.size w0 w') := fun code W hW => by
    refine (leaf1_any c code B1 B2 W ((hL.below B0).below hW)).mono ?_
    rintro e w' ⟨rfl, hb⟩
    exact ⟨rfl, hW.trans (hb.mono hW.size)⟩
  obtain ⟨res, hres⟩ : ∃ res, chE (accBad c p) = res := ⟨_, rfl⟩
  have Hres : Hid (chE (accBad c p) = res) := hres
  rw [hres]
  have HW0 : Hid (w.alloc (.cells p.cells 23) = w0) := hw0
  clear hres hL hw0 B0
  obtain ⟨ref, en, fr, tw, cu, am, fs, pr⟩ := p
  obtain ⟨⟨d0, d1, d2, d3, d4, d5, d6, d7⟩, _⟩ := HA.out w0 (Below.refl _ _)
  simp only [Pn.cells, Nat.zero_add] at HW0 HA d0 d1 d2 d3 d4 d5 d6 d7 ⊢
  have HF : Hid (Calls _ _ _ _ _) := HLf.out fr w0 (Below.refl _ _)
  have HR0 : Hid (chE (if leafBad c fr ≠ 0 then leafBad c fr else if leafBad c tw ≠ 0 then leafBad c tw else if fr = tw then 8 else 0) = res) := Hres.out
  clear Hres
  by_cases c1 : leafBad c fr ≠ 0
  · have er : res = chE (leafBad c fr) := by rw [← HR0.out, if_pos c1]
    rw [chE_ne c1] at HF er
    subst er
    clear HR0 HLf
    generalize leafBad c fr = z at *
    go_enter Tryd.func17, Tryd.ntmps17
    go_upto_region 1 with fail
    rw [HW0.out]
    clear HW0
    go_wp2_with (go_at_fn 23; refine HF.out.mono ?_; rintro e w' ⟨rfl, hb'⟩)
    go_ret
    exact ⟨rfl, (HA.out _ hb').2⟩
  have c1' := Decidable.of_not_not c1
  rw [c1', chE_zero] at HF
  have HR1 : Hid (chE (if leafBad c tw ≠ 0 then leafBad c tw else if fr = tw then 8 else 0) = res) := by
    have := HR0.out; rw [if_neg c1] at this; exact this
  clear HR0 c1 c1'
  go_enter Tryd.func17, Tryd.ntmps17
  go_upto_region 1 with fail
  rw [HW0.out]
  clear HW0
  go_wp2_with fail
  go_at_fn 23
  refine HF.out.mono ?_
  rintro e w1 ⟨rfl, hb1⟩
  clear HF d0 d1 d2 d3 d4 d5 d6 d7
  obtain ⟨⟨d0, d1, d2, d3, d4, d5, d6, d7⟩, _⟩ := HA.out w1 hb1
  simp only [Nat.zero_add] at d0 d1 d2 d3 d4 d5 d6 d7
  have HF : Hid (Calls _ _ _ _ _) := HLf.out tw w1 hb1
  clear HLf hb1
  by_cases c2 : leafBad c tw ≠ 0
  · have er : res = chE (leafBad c tw) := by rw [← HR1.out, if_pos c2]
    rw [chE_ne c2] at HF er
    subst er
    clear HR1
    go_wp2_with (go_at_fn 23; refine HF.out.mono ?_; rintro e w' ⟨rfl, hb'⟩)
    go_ret
    exact ⟨rfl, (HA.out _ hb').2⟩
  have c2' := Decidable.of_not_not c2
  rw [c2', chE_zero] at HF
  have HR2 : Hid (chE (if fr = tw then 8 else 0) = res) := by
    have := HR1.out; rw [if_neg c2] at this; exact this
  clear HR1 c2 c2'
  go_wp2_with fail
  go_at_fn 23
  refine HF.out.mono ?_
  rintro e w2 ⟨rfl, hb2⟩
  clear HF d0 d1 d2 d3 d4 d5 d6 d7
  obtain ⟨⟨d0, d1, d2, d3, d4, d5, d6, d7⟩, hbw⟩ := HA.out w2 hb2
  simp only [Nat.zero_add] at d0 d1 d2 d3 d4 d5 d6 d7
  clear HA hb2
  by_cases c3 : fr = tw
  · have er : res = chE 8 := by rw [← HR2.out, if_pos c3]
    rw [chE_ne (by decide)] at er
    subst er
    subst c3
    clear HR2
    go_wp2
    go_ret
    exact ⟨rfl, hbw⟩
  · have er : res = chE 0 := by rw [← HR2.out, if_neg c3]
    rw [chE_zero] at er
    subst er
    have c3' := ch_ne c3
    clear HR2
    go_wp2
    go_ret
    exact ⟨rfl, hbw⟩
set_option maxHeartbeats 8000000 in
theorem plCheck_any (a a2 : Option Addr) (cap cap2 : Nat) (c : List Ac) (l : List Pn) (w : World) (h : IsSl w a c cap) (hl : IsPn w a2 l cap2) (hll : l.length ≤ 9223372036854775807) :
    Calls Tryd.prog 10 #[.slice a c.length cap, .slice a2 l.length cap2] w fun e w' => e = .returned (chE (pnsBad c l)) ∧ Below w.heap.size w w' := by
  by_cases c0 : chBad c ≠ 0
  · have HC : Hid (Calls _ _ _ _ _) := leafCheck_bad a cap c w h c0
    have e0 : pnsBad c l = chBad c := by unfold pnsBad; rw [if_pos c0]
    rw [e0]
    rw [chE_ne c0] at HC ⊢
    clear h hl e0 c0
    generalize chBad c = z at *
    go_enter Tryd.func10, Tryd.ntmps10
    go_wp2_with (go_at_call 15; refine HC.out.mono ?_; rintro e w1 ⟨rfl, hb1⟩)
    go_ret
    exact ⟨rfl, hb1⟩
  have HC : Hid (Calls _ _ _ _ _) := leafCheck_ok a cap c w h (Decidable.of_not_not c0)
  obtain ⟨res, hres⟩ : ∃ res, chE (pnsBad c l) = res := ⟨_, rfl⟩
  have HR1 : Hid (chE (if 20 < l.length then 4 else firstTo (pnBad c l) l.length) = res) := by
    rw [← hres]; unfold pnsBad; rw [if_neg c0]; exact rfl
  rw [hres]
  have HL : Hid (IsPn w a2 l cap2) := hl
  have hcap := hl.cap
  clear hres h hl c0
  go_enter Tryd.func10, Tryd.ntmps10
  go_wp2_with fail
  refine HC.out.mono ?_
  rintro e w1 ⟨B1, B2, rfl, hlf, hb1⟩
  have HLf : Hid (Lfs w1 B1 B2 c) := hlf
  have HB1 : Hid (Below w.heap.size w w1) := hb1
  clear hlf hb1 HC
  by_cases c1 : 20 < l.length
  · have er : res = chE 4 := by rw [← HR1.out, if_pos c1]
    rw [chE_ne (by decide)] at er
    subst er
    have i1 : (20 : Int) < l.length := by omega
    clear HR1
    go_wp2
    go_ret
    exact ⟨rfl, HB1.out⟩
  have HR2 : Hid (chE (firstTo (pnBad c l) l.length) = res) := by
    have := HR1.out; rw [if_neg c1] at this; exact this
  have i1 : ¬ (20 : Int) < l.length := by omega
  have i2 : (l.length : Int) ≤ 20 := by omega
  have i3 : l.length ≤ 20 := by omega
  clear HR1 c1 hll
  go_wp2
  go_loopw [25] (fun i wr => ∃ k : Nat, k ≤ l.length ∧ i = .int .i64 k ∧ Hid (firstTo (pnBad c l) k = 0) ∧ Hid (Below w1.heap.size w1 wr)) (fun i _ => l.length - (RowKit.intOf i).toNat)
  case atStart => exact ⟨0, Nat.zero_le _, rfl, rfl, Below.refl _ _⟩
  case round =>
    obtain ⟨k, hk, rfl, H0, HB⟩ := hrel
    by_cases hkn : k < l.length
    · have hbw : Below w.heap.size w wr := HB1.out.trans (HB.out.mono HB1.out.size)
      obtain ⟨b, off, e, hbl, hc⟩ := ((HL.out).below hbw).at hkn
      subst e
      have HRet : Hid (∀ z, z ≠ 0 → pnBad c l k = z → res = chE z) := fun z h0 h1 => by
        rw [← HR2.out, firstTo_first H0.out (by rw [h1]; exact h0) hkn, h1]
      have HNx : Hid (pnBad c l k = 0 → firstTo (pnBad c l) (k + 1) = 0) := fun h => by rw [firstTo_next H0.out, h]
      obtain ⟨wa, hwa⟩ : ∃ wa, wr.alloc (.cells (l.getD k pn0).cells 23) = wa := ⟨_, rfl⟩
      have b11 : Below wr.heap.size wr wa := by rw [← hwa]; exact (Below.refl _ wr).alloc (Nat.le_refl _) _
      have BB2 : Below w1.heap.size w1 wa := HB.out.trans (b11.mono HB.out.size)
      have hsa : wr.heap.size < wa.heap.size := by rw [← hwa]; simp
      have hx : PnAt wa wr.heap.size 0 (l.getD k pn0) := by rw [← hwa]; exact PnAt.new wr (l.getD k pn0) 23
      have HP : Hid (∀ W, Below wa.heap.size wa W → PnAt W wr.heap.size 0 (l.getD k pn0) ∧ Below w1.heap.size w1 W ∧ Below w.heap.size w W) := fun W hW => by
        have h3 := BB2.trans (hW.mono BB2.size)
        exact ⟨hx.below hW hsa, h3, HB1.out.trans (h3.mono HB1.out.size)⟩
      have HCr : Hid (∀ W, Below wa.heap.size wa W → Calls Tryd.prog 16 #[.slice (some ⟨b, off, none⟩) k cap2, .string (l.getD k pn0).ref] W fun e w' => e = .returned (chE (refBad (l.take k) (l.getD k pn0).ref)) ∧ Below wa.heap.size wa w') := fun W hd => by
        have ht := (((HL.out).below hbw).below b11).take k
        have := checkRef_any (some ⟨b, off, none⟩) cap2 (l.take k) (l.getD k pn0).ref W (by rw [List.length_take]; omega) (ht.below hd)
        rw [List.length_take, Nat.min_eq_left hk] at this
        refine this.mono ?_
        rintro e w' ⟨rfl, hb⟩
        exact ⟨rfl, hd.trans (hb.mono hd.size)⟩
      have HEn : Hid (∀ W, Calls Tryd.prog 11 #[.int .i64 (l.getD k pn0).ent] W fun e w' => e = .returned (.bool (upTo (l.getD k pn0).ent 12)) ∧ w' = W) := fun W => isEntity_any _ W
      have HSp : Hid (∀ W, Below wa.heap.size wa W → Calls Tryd.prog 7 #[.agg (l.getD k pn0).cells] W fun e w' => e = .returned (.bool (spreadB (l.getD k pn0).amt (l.getD k pn0).fst (l.getD k pn0).per)) ∧ Below wa.heap.size wa w') := fun W hW => by
        refine (isSpread_any _ W).mono ?_
        rintro e w' ⟨rfl, hb⟩
        exact ⟨rfl, hW.trans (hb.mono hW.size)⟩
      have HAc : Hid (∀ W, Below wa.heap.size wa W → Calls Tryd.prog 17 #[.agg (l.getD k pn0).cells, .func (.func 23) #[] #[.pointer (some ⟨B1, 0, none⟩), .pointer (some ⟨B2, 0, none⟩)]] W fun e w' => e = .returned (chE (accBad c (l.getD k pn0))) ∧ Below wa.heap.size wa w') := fun W hW => by
        refine (checkAccounts_any c _ B1 B2 W ((HLf.out.below BB2).below hW)).mono ?_
        rintro e w' ⟨rfl, hb⟩
        exact ⟨rfl, hW.trans (hb.mono hW.size)⟩
      have HCu : Hid (∀ W, Below wa.heap.size wa W → Calls Tryd.prog 18 #[.string (l.getD k pn0).cur] W fun e w' => e = .returned (.bool (isCur (l.getD k pn0).cur)) ∧ Below wa.heap.size wa w') := fun W hW => by
        refine (cur_any _ W).mono ?_
        rintro e w' ⟨rfl, hb⟩
        exact ⟨rfl, hW.trans (hb.mono hW.size)⟩
      have HE : Hid (pnBad c l k = if refBad (l.take k) (l.getD k pn0).ref ≠ 0 then refBad (l.take k) (l.getD k pn0).ref else if (upTo (l.getD k pn0).ent 12 && spreadB (l.getD k pn0).amt (l.getD k pn0).fst (l.getD k pn0).per) = false then 1 else if accBad c (l.getD k pn0) ≠ 0 then accBad c (l.getD k pn0) else if isCur (l.getD k pn0).cur = false then 2 else 0) := rfl
      have HWa : Hid (wr.alloc (.cells (l.getD k pn0).cells 23) = wa) := hwa
      have hx2 := hx
      clear BB2 b11 hwa hx hsa hbw
      generalize refBad (l.take k) (l.getD k pn0).ref = rb at *
      generalize accBad c (l.getD k pn0) = ab at *
      generalize l.getD k pn0 = p at *
      obtain ⟨ref, en, fr, tw, cu, am, fs, pr⟩ := p
      obtain ⟨d0, d1, d2, d3, d4, d5, d6, d7⟩ := hc
      obtain ⟨f0, f1, f2, f3, f4, f5, f6, f7⟩ := hx2
      simp only [Pn.cells, Nat.zero_add] at d0 d1 d2 d3 d4 d5 d6 d7 f0 f1 f2 f3 f4 f5 f6 f7 HWa HP HCr HEn HSp HAc HCu HE
      have j0 : (0 : Int) ≤ k := by omega
      have j1 : (k : Int) < l.length := by omega
      have j2 : (k : Int) ≤ cap2 := by omega
      go_upto_region 9 with fail
      rw [HWa.out]
      clear HWa d0 d1 d2 d3 d4 d5 d6 d7
      by_cases c2 : rb ≠ 0
      · have er : res = chE rb := HRet.out rb c2 (by rw [HE.out, if_pos c2])
        rw [chE_ne c2] at er HCr
        subst er
        clear HE HRet HNx HEn HSp HAc HCu HR2
        go_region_with (go_at_call 16; refine (HCr.out _ (by first | exact Below.refl _ _ | exact (Below.refl _ _).drew | exact en_drewN (Below.refl _ _) _)).mono ?_; rintro e w2 ⟨rfl, hb2⟩)
        have hbw2 := (HP.out _ hb2).2.2
        clear HP HCr f0 f1 f2 f3 f4 f5 f6 f7 hb2
        go_wp2
        go_ret
        exact ⟨rfl, hbw2⟩
      have c2' := Decidable.of_not_not c2
      have HE2 : Hid (pnBad c l k = if (upTo en 12 && spreadB am fs pr) = false then 1 else if ab ≠ 0 then ab else if isCur cu = false then 2 else 0) := by
        have := HE.out; rw [if_neg c2] at this; exact this
      rw [c2', chE_zero] at HCr
      clear HE c2 c2'
      go_region_with (go_at_call 16; refine (HCr.out _ (by first | exact Below.refl _ _ | exact (Below.refl _ _).drew | exact en_drewN (Below.refl _ _) _)).mono ?_; rintro e w2 ⟨rfl, hb2⟩)
      have HB2 : Hid (Below wa.heap.size wa w2) := hb2
      clear f0 f1 f2 f3 f4 f5 f6 f7 HCr hb2
      obtain ⟨⟨f0, f1, f2, f3, f4, f5, f6, f7⟩, _, hbw2⟩ := HP.out w2 HB2.out
      simp only [Nat.zero_add] at f0 f1 f2 f3 f4 f5 f6 f7
      cases u1 : upTo en 12
      · have er : res = chE 1 := HRet.out 1 (by decide) (by rw [HE2.out, u1, Bool.false_and, if_pos rfl])
        rw [chE_ne (by decide)] at er
        subst er
        rw [u1] at HEn
        clear HE2 HRet HNx HSp HAc HCu HR2
        go_wp2_with (go_at_call 11; refine (HEn.out _).mono ?_; rintro e w' ⟨rfl, rfl⟩)
        go_ret
        exact ⟨rfl, hbw2⟩
      rw [u1] at HEn HE2
      have HSp2 : Hid (Calls _ _ _ _ _) := HSp.out w2 HB2.out
      clear HSp u1
      cases u2 : spreadB am fs pr
      · have er : res = chE 1 := HRet.out 1 (by decide) (by rw [HE2.out, u2, Bool.and_false, if_pos rfl])
        rw [chE_ne (by decide)] at er
        subst er
        rw [u2] at HSp2
        clear HE2 HRet HNx HAc HCu HR2
        go_wp2_with fail
        refine (HEn.out _).mono ?_
        rintro e w' ⟨rfl, hw⟩
        rw [hw]; clear hw w' HEn
        go_wp2_with fail
        refine HSp2.out.mono ?_
        rintro e w3 ⟨rfl, hb3⟩
        have hbw3 := (HP.out _ hb3).2.2
        clear HP HSp2 f0 f1 f2 f3 f4 f5 f6 f7 hb3 HB2 hbw2
        go_wp2
        go_ret
        exact ⟨rfl, hbw3⟩
      rw [u2] at HSp2 HE2
      have HE3 : Hid (pnBad c l k = if ab ≠ 0 then ab else if isCur cu = false then 2 else 0) := HE2.out
      clear HE2 u2
      go_wp2_with fail
      refine (HEn.out _).mono ?_
      rintro e w' ⟨rfl, hw⟩
      rw [hw]; clear hw w' HEn
      go_wp2_with fail
      refine HSp2.out.mono ?_
      rintro e w3 ⟨rfl, hb3⟩
      have HB3 : Hid (Below wa.heap.size wa w3) := hb3
      clear f0 f1 f2 f3 f4 f5 f6 f7 HSp2 hb3 HB2 hbw2
      obtain ⟨⟨f0, f1, f2, f3, f4, f5, f6, f7⟩, _, hbw3⟩ := HP.out w3 HB3.out
      simp only [Nat.zero_add] at f0 f1 f2 f3 f4 f5 f6 f7
      have HAc3 : Hid (Calls _ _ _ _ _) := HAc.out w3 HB3.out
      clear HAc
      by_cases c3 : ab ≠ 0
      · have er : res = chE ab := HRet.out ab c3 (by rw [HE3.out, if_pos c3])
        rw [chE_ne c3] at er HAc3
        subst er
        clear HE3 HRet HNx HCu HR2
        go_wp2_with fail
        refine HAc3.out.mono ?_
        rintro e w4 ⟨rfl, hb4⟩
        have hbw4 := (HP.out _ hb4).2.2
        clear HP HAc3 f0 f1 f2 f3 f4 f5 f6 f7 hb4 HB3 hbw3
        go_wp2
        go_ret
        exact ⟨rfl, hbw4⟩
      have c3' := Decidable.of_not_not c3
      have HE4 : Hid (pnBad c l k = if isCur cu = false then 2 else 0) := by
        have := HE3.out; rw [if_neg c3] at this; exact this
      rw [c3', chE_zero] at HAc3
      clear HE3 c3 c3'
      go_wp2_with fail
      refine HAc3.out.mono ?_
      rintro e w4 ⟨rfl, hb4⟩
      have HB4 : Hid (Below wa.heap.size wa w4) := hb4
      clear f0 f1 f2 f3 f4 f5 f6 f7 HAc3 hb4 HB3 hbw3
      obtain ⟨⟨f0, f1, f2, f3, f4, f5, f6, f7⟩, _, _⟩ := HP.out w4 HB4.out
      simp only [Nat.zero_add] at f0 f1 f2 f3 f4 f5 f6 f7
      have HCu4 : Hid (Calls _ _ _ _ _) := HCu.out w4 HB4.out
      clear HCu
      cases u3 : isCur cu
      · have er : res = chE 2 := HRet.out 2 (by decide) (by rw [HE4.out, if_pos u3])
        rw [chE_ne (by decide)] at er
        subst er
        rw [u3] at HCu4
        clear HE4 HRet HNx HR2
        go_wp2_with fail
        refine HCu4.out.mono ?_
        rintro e w5 ⟨rfl, hb5⟩
        have hbw5 := (HP.out _ hb5).2.2
        clear HP HCu4 f0 f1 f2 f3 f4 f5 f6 f7 hb5 HB4
        go_wp2
        go_ret
        exact ⟨rfl, hbw5⟩
      · have HN : Hid (firstTo (pnBad c l) (k + 1) = 0) := HNx.out (by rw [HE4.out, if_neg (by rw [u3]; simp)])
        rw [u3] at HCu4
        clear HE4 HRet HNx
        go_wp2_with fail
        refine HCu4.out.mono ?_
        rintro e w5 ⟨rfl, hb5⟩
        have HB5 : Hid (Below w1.heap.size w1 w5) := (HP.out _ hb5).2.1
        clear HP HCu4 f0 f1 f2 f3 f4 f5 f6 f7 hb5 HB4
        go_wp2
        go_roundw
        case rel => exact ⟨k + 1, by omega, by go_num, HN, HB5⟩
        case measure => simp [RowKit.intOf]; omega
    · have ek : k = l.length := by omega
      subst ek
      have er : res = chE 0 := by rw [← HR2.out, H0.out]
      rw [chE_zero] at er
      subst er
      have hbw : Below w.heap.size w wr := HB1.out.trans (HB.out.mono HB1.out.size)
      clear HR2
      go_wp2
      go_ret
      exact ⟨rfl, hbw⟩
end Go.Proofs.YtdadhoangnkfeaaDoor
