/-
  The contract of daysame.Entries.
-/
import Derived.Test.YtioegjmcpjnmnaaGreatDoorZp14
import Derived.Test.YtioegjmcpjnmnaaGreatDoorZp16
import Derived.Test.YtioegjmcpjnmnaaGreatDoorZp6
import Derived.Laws.StructEq
import Derived.Test.YtioegjmcpjnmnaaGreatDoorZp7
import Derived.Deep.RegionWith
namespace Go.Proofs.YtioegjmcpjnmnaaGreatDoor
set_option linter.unusedVariables false
set_option linter.unusedSimpArgs false
set_option maxRecDepth 100000
open Go.RowKit Go.Lib

/-- Is a sign wrong, by the reference? -/
theorem badP_ref (x : Nat) : badP x = ((decide (x < 48) || decide (57 < x)) && (decide (x < 97) || decide (122 < x))) := by
  unfold badP
  rw [Bool.and_comm]
theorem isPRef_bad {s : ByteArray} {k : Nat} (hk : k < s.size) (h : badP (s.get! k).toNat = true) : isPRef s = false := by
  cases e : isPRef s
  · rfl
  · have := (isPRef_iff.1 e).2.2 k hk
    rw [h] at this
    cases this
theorem ap_getD_take (l : List Pn) (k j : Nat) (h : j < k) : (l.take k).getD j pn0 = l.getD j pn0 := by
  rw [List.getD_eq_getElem?_getD, List.getD_eq_getElem?_getD, List.getElem?_take, if_pos h]
/-- Till where none has the Ref. -/
def noRef (l : List Pn) (r : ByteArray) (j : Nat) : Prop := ∀ i, i < j → (l.getD i pn0).ref ≠ r
theorem any_no {l : List Pn} {r : ByteArray} {k : Nat} (hk : k ≤ l.length) (h : noRef l r k) : (l.take k).any (hasPR r) = false := by
  rw [List.any_eq_false]
  intro x hx
  obtain ⟨i, hi, rfl⟩ := List.getElem_of_mem hx
  rw [List.length_take] at hi
  have := h i (by omega)
  rw [List.getD_eq_getElem?_getD, List.getElem?_eq_getElem (by omega)] at this
  simp only [List.getElem_take, hasPR, decide_eq_true_eq]
  exact this
theorem any_yes {l : List Pn} {r : ByteArray} {k j : Nat} (hk : k ≤ l.length) (hj : j < k) (h : (l.getD j pn0).ref = r) : (l.take k).any (hasPR r) = true := by
  rw [List.any_eq_true]
  refine ⟨l.getD j pn0, ?_, by unfold hasPR; exact decide_eq_true h⟩
  rw [← ap_getD_take l k j hj, List.getD_eq_getElem?_getD, List.getElem?_eq_getElem (by rw [List.length_take]; omega)]
  exact List.getElem_mem _

set_option maxHeartbeats 8000000 in
theorem refPlans_any (a a2 : Option Addr) (cap cap2 : Nat) (c : List Ac) (l : List Pn) (w : World) (h : IsSl w a c cap) (hok : ∀ k, k < c.length → (c.getD k ac0).code.size ≤ maxLen ∧ (c.getD k ac0).name.size ≤ maxLen) (hl : IsPn w a2 l cap2) (hll : l.length ≤ 9223372036854775807) :
    Calls Tryz.prog 6 #[.slice a c.length cap, .slice a2 l.length cap2] w fun e w' => e = .returned (.int .i64 (pnsBad c l)) ∧ Below w.heap.size w w' := by
  have HC : Hid (Calls _ _ _ _ _) := refChart_any a cap c w h hok
  by_cases c0 : chBad c ≠ 0
  · have e0 : pnsBad c l = chBad c := by unfold pnsBad; rw [if_pos c0]
    rw [e0]
    clear h hl e0
    generalize chBad c = z at *
    go_enter Tryz.func6, Tryz.ntmps6
    have c0' : (z == 0) = false := by rw [beq_eq_false_iff_ne]; exact c0
    go_wp2_with (go_at_call 21; refine HC.out.mono ?_; rintro e w1 ⟨rfl, hb1⟩)
    go_ret
    exact ⟨rfl, hb1⟩
  have c0' := Decidable.of_not_not c0
  have hlen := chBad_len c0'
  rw [c0'] at HC
  obtain ⟨res, hres⟩ : ∃ res, pnsBad c l = res := ⟨_, rfl⟩
  have HR1 : Hid ((if 20 < l.length then 4 else firstTo (pnBad c l) l.length) = res) := by
    rw [← hres]; unfold pnsBad; rw [if_neg c0]; exact rfl
  rw [hres]
  have HL : Hid (IsPn w a2 l cap2) := hl
  have HSl : Hid (IsSl w a c cap) := h
  clear hres h hl c0 c0'
  go_enter Tryz.func6, Tryz.ntmps6
  go_wp2_with fail
  refine HC.out.mono ?_
  rintro e w1 ⟨rfl, hb1⟩
  have HB1 : Hid (Below w.heap.size w w1) := hb1
  clear hb1 HC
  by_cases c1 : 20 < l.length
  · have er : res = 4 := by rw [← HR1.out, if_pos c1]
    subst er
    have i1 : (20 : Int) < l.length := by omega
    clear HR1
    go_wp2
    go_ret
    exact ⟨rfl, HB1.out⟩
  have HR2 : Hid (firstTo (pnBad c l) l.length = res) := by
    have := HR1.out; rw [if_neg c1] at this; exact this
  have i1 : ¬ (20 : Int) < l.length := by omega
  have i2 : (l.length : Int) ≤ 20 := by omega
  have i3 : l.length ≤ 20 := by omega
  clear HR1 c1 hll
  go_wp2
  go_loopw [5, 6] (fun _ i wr => ∃ k : Nat, k ≤ l.length ∧ i = .int .i64 k ∧ Hid (firstTo (pnBad c l) k = 0) ∧ Hid (Below w.heap.size w wr)) (fun _ i _ => l.length - (RowKit.intOf i).toNat)
  case atStart => exact ⟨0, Nat.zero_le _, rfl, rfl, HB1⟩
  case round =>
    obtain ⟨k, hk, rfl, H0, HB⟩ := hrel
    by_cases hkn : k < l.length
    · obtain ⟨b, off, e, hbl, hc⟩ := ((HL.out).below HB.out).at hkn
      subst e
      have HRet : Hid (∀ z, z ≠ 0 → pnBad c l k = z → res = z) := fun z h0 h1 => by
        rw [← HR2.out, firstTo_first H0.out (by rw [h1]; exact h0) hkn, h1]
      have HNx : Hid (pnBad c l k = 0 → firstTo (pnBad c l) (k + 1) = 0) := fun h => by rw [firstTo_next H0.out, h]
      obtain ⟨wa, hwa⟩ : ∃ wa, wr.alloc (.cells (l.getD k pn0).cells 37) = wa := ⟨_, rfl⟩
      have b11 : Below wr.heap.size wr wa := by rw [← hwa]; exact (Below.refl _ wr).alloc (Nat.le_refl _) _
      have BB2 : Below w.heap.size w wa := HB.out.trans (b11.mono HB.out.size)
      have hsa : wr.heap.size < wa.heap.size := by rw [← hwa]; simp
      have hx : PnAt wa wr.heap.size 0 (l.getD k pn0) := by rw [← hwa]; exact PnAt.new wr (l.getD k pn0) 37
      have HP : Hid (∀ W, Below wa.heap.size wa W → PnAt W wr.heap.size 0 (l.getD k pn0) ∧ Below w.heap.size w W) := fun W hW =>
        ⟨hx.below hW hsa, BB2.trans (hW.mono BB2.size)⟩
      have HRefs : Hid (∀ j W, j < k → Below wa.heap.size wa W → W.cell? ⟨b, off + j * 8, none⟩ = some (.string (l.getD j pn0).ref)) := fun j W hj hW => by
        obtain ⟨b', off', e', hb', hc'⟩ := ((HL.out).below BB2).at (k := j) (by omega)
        cases e'
        exact (hc'.below hW hb').c0
      have HEn : Hid (∀ W, Calls Tryz.prog 22 #[.int .i64 (l.getD k pn0).ent] W fun e w' => e = .returned (.bool (upTo (l.getD k pn0).ent 12)) ∧ w' = W) := fun W => entity_any _ W
      have HPn : Hid (∀ W, Below wa.heap.size wa W → Calls Tryz.prog 10 #[.agg (l.getD k pn0).cells] W fun e w' => e = .returned (.int .i64 (if spreadB (l.getD k pn0).amt (l.getD k pn0).fst (l.getD k pn0).per = true then 0 else 1)) ∧ Below wa.heap.size wa w') := fun W hW => by
        refine (refPlanNum_any _ W).mono ?_
        rintro e w' ⟨rfl, hb⟩
        exact ⟨rfl, hW.trans (hb.mono hW.size)⟩
      have HLf : Hid (∀ code W, Below wa.heap.size wa W → Calls Tryz.prog 23 #[.slice a c.length cap, .string code] W fun e w' => e = .returned (.int .i64 (leafBad c code)) ∧ w' = W) := fun code W hW => refLeafE_any a cap c code W ((HSl.out.below BB2).below hW) hlen
      have HCu : Hid (∀ W, Calls Tryz.prog 24 #[.string (l.getD k pn0).cur] W fun e w' => e = .returned (.bool (isCur (l.getD k pn0).cur)) ∧ w' = W) := fun W => refCur_any _ W
      have HE : Hid (pnBad c l k = if refBad (l.take k) (l.getD k pn0).ref ≠ 0 then refBad (l.take k) (l.getD k pn0).ref else if (upTo (l.getD k pn0).ent 12 && spreadB (l.getD k pn0).amt (l.getD k pn0).fst (l.getD k pn0).per) = false then 1 else if accBad c (l.getD k pn0) ≠ 0 then accBad c (l.getD k pn0) else if isCur (l.getD k pn0).cur = false then 2 else 0) := rfl
      have HRb : Hid (refBad (l.take k) (l.getD k pn0).ref = if isPRef (l.getD k pn0).ref = false then 2 else if (l.take k).any (hasPR (l.getD k pn0).ref) = true then 8 else 0) := rfl
      have HAb : Hid (accBad c (l.getD k pn0) = if leafBad c (l.getD k pn0).src ≠ 0 then leafBad c (l.getD k pn0).src else if leafBad c (l.getD k pn0).dst ≠ 0 then leafBad c (l.getD k pn0).dst else if (l.getD k pn0).src = (l.getD k pn0).dst then 8 else 0) := rfl
      have HWa : Hid (wr.alloc (.cells (l.getD k pn0).cells 37) = wa) := hwa
      have HAny : Hid ((∀ r, noRef l r k → (l.take k).any (hasPR r) = false) ∧ ∀ r j, j < k → (l.getD j pn0).ref = r → (l.take k).any (hasPR r) = true) := ⟨fun r h => any_no hk h, fun r j hj h => any_yes hk hj h⟩
      have hx2 := hx
      clear BB2 b11 hwa hx hsa
      generalize accBad c (l.getD k pn0) = ab at *
      generalize refBad (l.take k) (l.getD k pn0).ref = rb at *
      generalize hpk : l.getD k pn0 = p at *
      clear hpk
      obtain ⟨ref, en, fr, tw, cu, am, fs, pr⟩ := p
      obtain ⟨d0, d1, d2, d3, d4, d5, d6, d7⟩ := hc
      obtain ⟨f0, f1, f2, f3, f4, f5, f6, f7⟩ := hx2
      simp only [Pn.cells, Nat.zero_add] at d0 d1 d2 d3 d4 d5 d6 d7 f0 f1 f2 f3 f4 f5 f6 f7 HWa HP HEn HPn HCu HE HRb HAb
      have j0 : (0 : Int) ≤ k := by omega
      have j1 : (k : Int) < l.length := by omega
      go_upto_region 10 with fail
      rw [HWa.out]
      clear HWa d0 d1 d2 d3 d4 d5 d6 d7
      have hbwa := (HP.out wa (Below.refl _ _)).2
      have HRefBad : Hid (isPRef ref = false → res = 2) := fun h => HRet.out 2 (by decide) (by rw [HE.out, HRb.out, if_pos h]; rfl)
      by_cases s0 : ref.size = 0
      · have e0 := en_empty s0
        have er : res = 2 := HRefBad.out (by simp [isPRef, s0])
        subst er
        clear HE HRet HNx HEn HPn HLf HCu HR2 HRb HAb HRefBad HP HRefs HAny
        go_wp2
        go_ret
        exact ⟨rfl, hbwa⟩
      have e0 := en_some s0
      have e0' : ref.toList.isEmpty = false := by simpa using e0
      by_cases s1 : 8 < ref.size
      · have s1' : (8 : Int) < ref.size := by omega
        have er : res = 2 := HRefBad.out (by unfold isPRef; rw [decide_eq_false (by omega : ¬ ref.size ≤ 8)]; simp)
        subst er
        clear HE HRet HNx HEn HPn HLf HCu HR2 HRb HAb HRefBad HP HRefs HAny
        go_wp2
        go_ret
        exact ⟨rfl, hbwa⟩
      have s1' : ¬ (8 : Int) < ref.size := by omega
      go_wp2
      obtain ⟨wo, hwo⟩ : ∃ wo, wo = wr := ⟨_, rfl⟩
      subst hwo
      go_loop [8] (fun i => ∃ q : Nat, q ≤ ref.size ∧ i = .int .i64 q ∧ Hid (∀ j, j < q → badP (ref.get! j).toNat = false)) (fun i => ref.size - (RowKit.intOf i).toNat)
      case atStart => exact ⟨0, Nat.zero_le _, rfl, fun j hj => absurd hj (Nat.not_lt_zero _)⟩
      case round =>
        obtain ⟨q, hq, rfl, Hq⟩ := hrel
        by_cases hlt : q < ref.size
        · have i0 : (0 : Int) ≤ q := by omega
          have i1' : (q : Int) < ref.size := by omega
          obtain ⟨cc, hcc⟩ : ∃ cc, (ref[q]'hlt).toNat = cc := ⟨_, rfl⟩
          have Hg : Hid (badP (ref.get! q).toNat = badP cc) := by unfold Hid; rw [en_get ref q hlt, hcc]
          have bad : Hid (badP cc = true → res = 2) := fun hb => HRefBad.out (isPRef_bad hlt (by rw [Hg.out]; exact hb))
          have HN : Hid (badP cc = false → ∀ j, j < q + 1 → badP (ref.get! j).toNat = false) := fun hb j hj => by
            rcases (by omega : j < q ∨ j = q) with h' | rfl
            · exact Hq.out j h'
            · rw [Hg.out]; exact hb
          have hcs : (cc : Int) < 48 ∨ ((48 : Int) ≤ cc ∧ (cc : Int) ≤ 57) ∨ ((57 : Int) < cc ∧ (cc : Int) < 97) ∨ ((97 : Int) ≤ cc ∧ (cc : Int) ≤ 122) ∨ (122 : Int) < cc := by omega
          clear HE HRet HNx HEn HPn HLf HCu HRb HAb HRefBad HP HRefs HAny Hg Hq HR2
          rcases hcs with x | ⟨x, y⟩ | ⟨x, y⟩ | ⟨x, y⟩ | x
          · have er := bad.out (by simp [badP]; omega)
            subst er
            have q2 : (cc : Int) < 97 := by omega
            clear bad HN
            go_wp2
            go_ret
            exact ⟨rfl, hbwa⟩
          · have HM : Hid _ := HN.out (by simp [badP]; omega)
            have q2 : ¬ (cc : Int) < 48 := by omega
            have q3 : ¬ (57 : Int) < cc := by omega
            clear bad HN
            go_wp2
            go_round
            case rel => exact ⟨q + 1, by omega, by go_num, HM⟩
            case measure => simp [RowKit.intOf]; omega
          · have er := bad.out (by simp [badP]; omega)
            subst er
            have q2 : ¬ (cc : Int) < 48 := by omega
            clear bad HN
            go_wp2
            go_ret
            exact ⟨rfl, hbwa⟩
          · have HM : Hid _ := HN.out (by simp [badP]; omega)
            have q2 : ¬ (cc : Int) < 48 := by omega
            have q3 : (57 : Int) < cc := by omega
            have q4 : ¬ (cc : Int) < 97 := by omega
            have q5 : ¬ (122 : Int) < cc := by omega
            clear bad HN
            go_wp2
            go_round
            case rel => exact ⟨q + 1, by omega, by go_num, HM⟩
            case measure => simp [RowKit.intOf]; omega
          · have er := bad.out (by simp [badP]; omega)
            subst er
            have q2 : ¬ (cc : Int) < 48 := by omega
            have q3 : (57 : Int) < cc := by omega
            have q4 : ¬ (cc : Int) < 97 := by omega
            clear bad HN
            go_wp2
            go_ret
            exact ⟨rfl, hbwa⟩
        · have hq2 : q = ref.size := by omega
          have HPR : Hid (isPRef ref = true) := isPRef_iff.2 ⟨s0, by omega, fun i hi => Hq.out i (by omega)⟩
          subst hq2
          have i1' : ¬ (ref.size : Int) < ref.size := by omega
          clear Hq HRefBad
          go_wp2
          go_loopw [10] (fun i wx => ∃ q : Nat, q ≤ k ∧ i = .int .i64 q ∧ Hid (noRef l ref q) ∧ ∃ nd, wx = wa.drewN nd) (fun i _ => k - (RowKit.intOf i).toNat)
          case atStart => exact ⟨0, Nat.zero_le _, rfl, fun j hj => absurd hj (Nat.not_lt_zero _), 0, rfl⟩
          case round =>
            obtain ⟨q, hqk, rfl, Hno, nd, rfl⟩ := hrel
            have HBn : Hid (Below wa.heap.size wa (wa.drewN nd)) := en_drewN (Below.refl _ _) nd
            by_cases hlt2 : q < k
            · have c9 := HRefs.out q wa hlt2 (Below.refl _ _)
              have HNo2 : Hid ((l.getD q pn0).ref ≠ ref → noRef l ref (q + 1)) := fun hne i hi => by
                rcases (by omega : i < q ∨ i = q) with h' | rfl
                · exact Hno.out i h'
                · exact hne
              have HYes : Hid ((l.getD q pn0).ref = ref → res = 8) := fun he => HRet.out 8 (by decide) (by
                have hrb : rb = 8 := by rw [HRb.out, if_neg (by rw [HPR.out]; simp), if_pos (HAny.out.2 ref q hlt2 he)]
                rw [HE.out, hrb, if_pos (by decide)])
              generalize (l.getD q pn0).ref = rq at *
              have i0 : (0 : Int) ≤ q := by omega
              have i4 : (q : Int) < k := by omega
              have i5 : (q : Int) < l.length := by omega
              have HBw : Hid (∀ n, Below w.heap.size w ((wa.drewN nd).drewN n)) := fun n => en_drewN (en_drewN hbwa nd) n
              clear HE HRet HNx HEn HPn HLf HCu HRb HAb HP HRefs HAny HR2 HPR Hno
              by_cases he : rq = ref
              · have er := HYes.out he
                subst er
                subst he
                clear HYes HNo2
                go_wp2_with fail
                go_quiet (fail)
                go_wp2
                go_ret
                exact ⟨rfl, HBw.out _⟩
              · have he' := ch_ne he
                have HM : Hid (noRef l ref (q + 1)) := HNo2.out he
                clear HYes HNo2
                go_wp2_with fail
                go_quiet (fail)
                go_wp2
                go_roundw
                case rel => exact ⟨q + 1, by omega, by go_num, HM, _, rfl⟩
                case measure => simp [RowKit.intOf]; omega
            · have hq2 : q = k := by omega
              subst hq2
              have i4 : ¬ (q : Int) < q := by omega
              have HRb0 : Hid (rb = 0) := by
                unfold Hid
                rw [HRb.out, if_neg (by rw [HPR.out]; simp), if_neg (by rw [HAny.out.1 ref Hno.out]; simp)]
              have HE2 : Hid (pnBad c l q = if (upTo en 12 && spreadB am fs pr) = false then 1 else if ab ≠ 0 then ab else if isCur cu = false then 2 else 0) := by
                have := HE.out; rw [HRb0.out, if_neg (by simp)] at this; exact this
              clear f0 f1 f2 f3 f4 f5 f6 f7 HE HRb HRb0 HPR HAny HRefs Hno
              obtain ⟨⟨f0, f1, f2, f3, f4, f5, f6, f7⟩, hbn⟩ := HP.out (wa.drewN nd) HBn.out
              simp only [Nat.zero_add] at f0 f1 f2 f3 f4 f5 f6 f7
              generalize wa.drewN nd = wn at *
              cases u1 : upTo en 12
              · have er : res = 1 := HRet.out 1 (by decide) (by rw [HE2.out, u1, Bool.false_and, if_pos rfl])
                subst er
                rw [u1] at HEn
                clear HE2 HRet HNx HPn HLf HCu HR2 HAb
                go_wp2_with (go_at_call 22; refine (HEn.out _).mono ?_; rintro e w' ⟨rfl, rfl⟩)
                go_ret
                exact ⟨rfl, hbn⟩
              rw [u1] at HEn HE2
              have HPn2 : Hid (Calls _ _ _ _ _) := HPn.out wn HBn.out
              clear HPn u1
              cases u2 : spreadB am fs pr
              · have er : res = 1 := HRet.out 1 (by decide) (by rw [HE2.out, u2, Bool.and_false, if_pos rfl])
                subst er
                rw [u2, if_neg (by simp)] at HPn2
                clear HE2 HRet HNx HLf HCu HR2 HAb
                go_wp2_with fail
                refine (HEn.out _).mono ?_
                rintro e w' ⟨rfl, hw⟩
                rw [hw]; clear hw w' HEn
                go_wp2_with fail
                refine HPn2.out.mono ?_
                rintro e w3 ⟨rfl, hb3⟩
                have hbw3 := (HP.out _ hb3).2
                clear HP HPn2 f0 f1 f2 f3 f4 f5 f6 f7 hb3 HBn hbn
                go_wp2
                go_ret
                exact ⟨rfl, hbw3⟩
              rw [u2, if_pos rfl] at HPn2
              rw [u2] at HE2
              have HE3 : Hid (pnBad c l q = if ab ≠ 0 then ab else if isCur cu = false then 2 else 0) := HE2.out
              clear HE2 u2
              go_wp2_with fail
              refine (HEn.out _).mono ?_
              rintro e w' ⟨rfl, hw⟩
              rw [hw]; clear hw w' HEn
              go_wp2_with fail
              refine HPn2.out.mono ?_
              rintro e w3 ⟨rfl, hb3⟩
              have HB3 : Hid (Below wa.heap.size wa w3) := hb3
              clear f0 f1 f2 f3 f4 f5 f6 f7 HPn2 hb3 HBn hbn
              obtain ⟨⟨f0, f1, f2, f3, f4, f5, f6, f7⟩, hbw3⟩ := HP.out w3 HB3.out
              simp only [Nat.zero_add] at f0 f1 f2 f3 f4 f5 f6 f7
              have HL1 : Hid (Calls _ _ _ _ _) := HLf.out fr w3 HB3.out
              have HL2 : Hid (Calls _ _ _ _ _) := HLf.out tw w3 HB3.out
              have HCu3 : Hid (Calls _ _ _ _ _) := HCu.out w3
              clear HLf HCu HP
              by_cases l1 : leafBad c fr ≠ 0
              · have er : res = leafBad c fr := HRet.out _ l1 (by rw [HE3.out, HAb.out, if_pos l1, if_pos l1])
                have l1' : (leafBad c fr == 0) = false := by rw [beq_eq_false_iff_ne]; exact l1
                rw [← er] at HL1 l1 l1'
                clear HE3 HRet HNx HR2 HAb HL2 HCu3 er
                go_wp2_with fail
                refine HL1.out.mono ?_
                rintro e w' ⟨rfl, hw⟩
                rw [hw]; clear hw w' HL1
                go_wp2
                go_ret
                exact ⟨rfl, hbw3⟩
              have l1' := Decidable.of_not_not l1
              rw [l1'] at HL1
              by_cases l2 : leafBad c tw ≠ 0
              · have er : res = leafBad c tw := HRet.out _ l2 (by rw [HE3.out, HAb.out, if_neg l1, if_pos l2, if_pos l2])
                have l2' : (leafBad c tw == 0) = false := by rw [beq_eq_false_iff_ne]; exact l2
                rw [← er] at HL2 l2 l2'
                clear HE3 HRet HNx HR2 HAb HCu3 er l1 l1'
                go_wp2_with fail
                refine HL1.out.mono ?_
                rintro e w' ⟨rfl, hw⟩
                rw [hw]; clear hw w' HL1
                go_wp2_with fail
                refine HL2.out.mono ?_
                rintro e w' ⟨rfl, hw⟩
                rw [hw]; clear hw w' HL2
                go_wp2
                go_ret
                exact ⟨rfl, hbw3⟩
              have l2' := Decidable.of_not_not l2
              rw [l2'] at HL2
              have HAb2 : Hid (ab = if fr = tw then 8 else 0) := by
                have := HAb.out; rw [if_neg l1, if_neg l2] at this; exact this
              clear HAb l1 l1' l2 l2'
              go_wp2_with fail
              refine HL1.out.mono ?_
              rintro e w' ⟨rfl, hw⟩
              rw [hw]; clear hw w' HL1
              go_wp2_with fail
              refine HL2.out.mono ?_
              rintro e w' ⟨rfl, hw⟩
              rw [hw]; clear hw w' HL2
              by_cases l3 : fr = tw
              · have er : res = 8 := HRet.out _ (by decide) (by rw [HE3.out, HAb2.out, if_pos l3]; rfl)
                subst er
                subst l3
                clear HE3 HRet HNx HR2 HAb2 HCu3
                go_wp2
                go_ret
                exact ⟨rfl, hbw3⟩
              have l3' := ch_ne l3
              have HE4 : Hid (pnBad c l q = if isCur cu = false then 2 else 0) := by
                have := HE3.out; rw [HAb2.out, if_neg l3, if_neg (by simp)] at this; exact this
              clear HE3 HAb2
              cases u3 : isCur cu
              · have er : res = 2 := HRet.out 2 (by decide) (by rw [HE4.out, if_pos u3])
                subst er
                rw [u3] at HCu3
                clear HE4 HRet HNx HR2
                go_wp2_with (go_at_call 24; refine HCu3.out.mono ?_; rintro e w' ⟨rfl, rfl⟩)
                go_ret
                exact ⟨rfl, hbw3⟩
              · have HN : Hid (firstTo (pnBad c l) (q + 1) = 0) := HNx.out (by rw [HE4.out, if_neg (by rw [u3]; simp)])
                rw [u3] at HCu3
                have HB3w : Hid (Below w.heap.size w w3) := hbw3
                clear HE4 HRet HNx
                go_wp2_with (go_at_call 24; refine HCu3.out.mono ?_; rintro e w' ⟨rfl, hw⟩; rw [hw]; clear hw w')
                go_roundw
                case rel => exact ⟨q + 1, by omega, by go_num, HN, HB3w⟩
                case measure => simp [RowKit.intOf]; omega
    · have ek : k = l.length := by omega
      subst ek
      have er : res = 0 := by rw [← HR2.out, H0.out]
      subst er
      have j1 : ¬ (l.length : Int) < l.length := by omega
      clear HR2
      go_wp2
      go_ret
      exact ⟨rfl, HB.out⟩
end Go.Proofs.YtioegjmcpjnmnaaGreatDoor

namespace Go.Proofs.YtioegjmcpjnmnaaGreatDoor
set_option linter.unusedVariables false
set_option linter.unusedSimpArgs false
set_option maxRecDepth 100000
open Go.RowKit Go.Lib

/-- What dayref2.Accrue leaves. -/
def RaEnd (c : List Ac) (l : List Pn) (en pe : Int) (w : World) (e : Ending) (w' : World) : Prop :=
  Below w.heap.size w w' ∧ (plBad c l en pe ≠ 0 → e = .returned (.tuple #[.slice none 0 0, .int .i64 (plBad c l en pe)])) ∧
    (plBad c l en pe = 0 → ∃ v L, e = .returned (.tuple #[v, .int .i64 0]) ∧ Made w' w.heap.size v L ∧ L.map Je.ep = plTo en pe l l.length ∧ L.length ≤ 20)
theorem Box4.grown {W W' : World} {b : Nat} {r : ByteArray} {en pe : Int} {v : Value} {row : Option Nat} (h : Box4 W b r en pe v) (hg : W.grownBy W' row) (hr : ∀ j, row = some j → b ≠ j) : Box4 W' b r en pe v :=
  (hg.block b (Array.getElem?_eq_some_iff.1 h).1 (fun e => hr b e.symm rfl)).trans h
theorem Box4.set3 {W : World} {b : Nat} {r : ByteArray} {en pe : Int} {v : Value} (h : Box4 W b r en pe v) (u : Value) : Box4 (W.setCell ⟨b, 3, none⟩ u) b r en pe u := by
  unfold Box4 at *
  rw [setCell_eq_setRow W b 3 _ 58 (0, 0) _ h, setRow_heap W b _ _ 58 (0, 0) h]
  simp

set_option maxHeartbeats 8000000 in
theorem refAccrue_any (a a2 : Option Addr) (cap cap2 : Nat) (c : List Ac) (l : List Pn) (en pe : Int) (w : World) (h : IsSl w a c cap) (hok : ∀ k, k < c.length → (c.getD k ac0).code.size ≤ maxLen ∧ (c.getD k ac0).name.size ≤ maxLen) (hl : IsPn w a2 l cap2) (hll : l.length ≤ 9223372036854775807) :
    Calls Tryz.prog 7 #[.slice a c.length cap, .slice a2 l.length cap2, .int .i64 en, .int .i64 pe] w (RaEnd c l en pe w) := by
  have HErr : Hid (∀ z W, z ≠ 0 → plBad c l en pe = z → Below w.heap.size w W → RaEnd c l en pe w (.returned (.tuple #[.slice none 0 0, .int .i64 z])) W) := fun z W h0 h1 h2 => by
    refine ⟨h2, fun _ => by rw [h1], fun e => absurd (h1.symm.trans e) h0⟩
  have HOk : Hid (∀ v L W, plBad c l en pe = 0 → Below w.heap.size w W → Made W w.heap.size v L → L.map Je.ep = plTo en pe l l.length → L.length ≤ 20 → RaEnd c l en pe w (.returned (.tuple #[v, .int .i64 0])) W) := fun v L W h1 h2 h3 h4 h5 =>
    ⟨h2, fun h0 => absurd h1 h0, fun _ => ⟨v, L, rfl, h3, h4, h5⟩⟩
  have HC : Hid (Calls _ _ _ _ _) := refPlans_any a a2 cap cap2 c l w h hok hl hll
  have HWh : Hid (∀ W, Calls Tryz.prog 25 #[.int .i64 en, .int .i64 pe] W fun e w' => e = .returned (.int .i64 (if (upTo en 12 && upTo pe 120) = false then 1 else 0)) ∧ w' = W) := fun W => refWhen_any en pe W
  by_cases c1 : pnsBad c l ≠ 0
  · have e1 : plBad c l en pe = pnsBad c l := by unfold plBad; rw [if_pos c1]
    have HE : Hid (∀ W, Below w.heap.size w W → RaEnd c l en pe w (.returned (.tuple #[.slice none 0 0, .int .i64 (pnsBad c l)])) W) := fun W hW => HErr.out _ W c1 e1 hW
    have c1' : (pnsBad c l == 0) = false := by rw [beq_eq_false_iff_ne]; exact c1
    clear h hl e1 HErr HOk HWh
    generalize pnsBad c l = z at *
    go_enter Tryz.func7, Tryz.ntmps7
    go_wp2_with (go_at_call 6; refine HC.out.mono ?_; rintro e w1 ⟨rfl, hb1⟩)
    go_ret2
    exact HE.out _ hb1
  have c1' := Decidable.of_not_not c1
  rw [c1'] at HC
  by_cases c3 : (upTo en 12 && upTo pe 120) = false
  · have e1 : plBad c l en pe = 1 := by unfold plBad; rw [if_neg c1, if_pos c3]
    have HE : Hid (∀ W, Below w.heap.size w W → RaEnd c l en pe w (.returned (.tuple #[.slice none 0 0, .int .i64 1])) W) := fun W hW => HErr.out _ W (by decide) e1 hW
    rw [if_pos c3] at HWh
    clear h hl c1 c1' e1 HErr HOk c3
    go_enter Tryz.func7, Tryz.ntmps7
    go_wp2_with fail
    refine HC.out.mono ?_
    rintro e w1 ⟨rfl, hb1⟩
    go_wp2_with fail
    refine (HWh.out _).mono ?_
    rintro e w' ⟨rfl, hw⟩
    rw [hw]; clear hw w'
    go_wp2
    go_ret2
    exact HE.out _ hb1
  have c3' : upTo en 12 = true ∧ upTo pe 120 = true := by simpa using c3
  have HB0 : Hid (plBad c l en pe = 0) := by unfold plBad Hid; rw [if_neg c1, if_neg c3]
  rw [if_neg c3] at HWh
  obtain ⟨p1, p2, p3⟩ := pnsBad_ok c1'
  have HPo : Hid (∀ k, k < l.length → pnBad c l k = 0) := p3
  have HPs : Hid (IsPn w a2 l cap2) := hl
  have HPe : Hid (upTo pe 120 = true ∧ 1 ≤ pe ∧ pe ≤ 120) := ⟨c3'.2, (upTo_iff.1 c3'.2).1, (upTo_iff.1 c3'.2).2⟩
  have i2 : (l.length : Int) ≤ 20 := by omega
  clear h hl c1 c1' c3 c3' p1 p3
  obtain ⟨i0, hi, hz0, hz1, hz2⟩ := info_parts je_info
  obtain ⟨n0, ni, nz0, nz1, nz2⟩ := info_parts ln_info
  go_enter Tryz.func7, Tryz.ntmps7
  go_wp2_with fail
  refine HC.out.mono ?_
  rintro e w2 ⟨rfl, hb2⟩
  clear HC
  go_wp2_with fail
  refine (HWh.out _).mono ?_
  rintro e w' ⟨rfl, hw⟩
  rw [hw]; clear hw w' HWh
  have HB2 : Hid (Below w.heap.size w w2) := hb2
  clear hb2
  go_wp2
  go_loopw [11, 12] (fun v i wr => ∃ (k : Nat) (L : List Je), k ≤ l.length ∧ i = .int .i64 k ∧ Hid (Made wr w.heap.size v L ∧ L.map Je.ep = plTo en pe l k ∧ L.length ≤ k) ∧ Hid (Below w.heap.size w wr)) (fun _ i _ => l.length - (RowKit.intOf i).toNat)
  case atStart => exact ⟨0, [], Nat.zero_le _, rfl, ⟨Made.nil _ _, rfl, Nat.le_refl _⟩, HB2⟩
  case round =>
    obtain ⟨k, L, hk, rfl, HM, HB⟩ := hrel
    obtain ⟨av, cv, ev, _⟩ := HM.out.1.isJs
    subst ev
    by_cases hkn : k < l.length
    · obtain ⟨bb, off, e, hblt, hc⟩ := ((HPs.out).below HB.out).at hkn
      subst e
      obtain ⟨q1, q2, q3, q4, q5⟩ := pnBad_ok (HPo.out k hkn)
      have q6 := refBad_ok q1
      have q7 := pn_part_bd q3 HPe.out.1
      obtain ⟨wa, hwa⟩ : ∃ wa, wr.alloc (.cells (l.getD k pn0).cells 37) = wa := ⟨_, rfl⟩
      have b11 : Below wr.heap.size wr wa := by rw [← hwa]; exact (Below.refl _ wr).alloc (Nat.le_refl _) _
      have hsa : wr.heap.size < wa.heap.size := by rw [← hwa]; simp
      have hx : PnAt wa wr.heap.size 0 (l.getD k pn0) := by rw [← hwa]; exact PnAt.new wr (l.getD k pn0) 37
      have B1 : Below w.heap.size w wa := HB.out.trans (b11.mono HB.out.size)
      have HKeep : Hid (∀ W, Below wa.heap.size wa W → Below w.heap.size w W ∧ Below wr.heap.size wr W ∧ PnAt W wr.heap.size 0 (l.getD k pn0)) := fun W hW =>
        ⟨B1.trans (hW.mono B1.size), b11.trans (hW.mono b11.size), hx.below hW hsa⟩
      have HPt : Hid (Calls Tryz.prog 12 #[.agg (l.getD k pn0).cells, .int .i64 pe] wa fun e w' => e = .returned (.int .i64 (partN (l.getD k pn0).amt (l.getD k pn0).fst (l.getD k pn0).per pe)) ∧ Below wa.heap.size wa w') := refPart_any _ pe wa q3 HPe.out.1
      have HDg : Hid (∀ W, Calls Tryz.prog 26 #[.int .i64 pe] W fun e w' => e = .returned (.string (itS pe)) ∧ Below W.heap.size W w') := fun W => plDigits_any pe HPe.out.2.1 HPe.out.2.2 W
      have hsz1 : (itS pe).size ≤ 21 := itS_size pe HPe.out.2.1 HPe.out.2.2
      have HNx : Hid (plTo en pe l (k + 1) = plTo en pe l k ++ plE en pe (l.getD k pn0)) := plTo_next en pe l k
      have HPE : Hid (plE en pe (l.getD k pn0) = if (l.getD k pn0).ent = en ∧ partN (l.getD k pn0).amt (l.getD k pn0).fst (l.getD k pn0).per pe ≠ 0 then [⟨refP (l.getD k pn0).ref pe, (l.getD k pn0).ent, pe, plLns (l.getD k pn0) (partN (l.getD k pn0).amt (l.getD k pn0).fst (l.getD k pn0).per pe)⟩] else []) := rfl
      have HLn : Hid (plLns (l.getD k pn0) (partN (l.getD k pn0).amt (l.getD k pn0).fst (l.getD k pn0).per pe) = [⟨(l.getD k pn0).src, (l.getD k pn0).cur, partN (l.getD k pn0).amt (l.getD k pn0).fst (l.getD k pn0).per pe⟩, ⟨(l.getD k pn0).dst, (l.getD k pn0).cur, -partN (l.getD k pn0).amt (l.getD k pn0).fst (l.getD k pn0).per pe⟩]) := rfl
      have HRf : Hid (refP (l.getD k pn0).ref pe = (l.getD k pn0).ref ++ (⟨#[45]⟩ : ByteArray) ++ itS pe) := rfl
      have HWa : Hid (wr.alloc (.cells (l.getD k pn0).cells 37) = wa) := hwa
      clear hwa q1 q2 q3 q4 q5 B1 b11 hsa
      generalize plLns (l.getD k pn0) (partN (l.getD k pn0).amt (l.getD k pn0).fst (l.getD k pn0).per pe) = gl at *
      generalize partN (l.getD k pn0).amt (l.getD k pn0).fst (l.getD k pn0).per pe = pn at *
      generalize refP (l.getD k pn0).ref pe = rf at *
      generalize plE en pe (l.getD k pn0) = pE at *
      generalize l.getD k pn0 = p at *
      generalize itS pe = ds at *
      obtain ⟨ref, ent, fr, tw, cu, am, fs, pr⟩ := p
      obtain ⟨d0, d1, d2, d3, d4, d5, d6, d7⟩ := hc
      obtain ⟨f0, f1, f2, f3, f4, f5, f6, f7⟩ := hx
      simp only [Pn.cells, Nat.zero_add] at d0 d1 d2 d3 d4 d5 d6 d7 f0 f1 f2 f3 f4 f5 f6 f7 HWa HKeep HPt HPE HLn HRf q6
      have j0 : (0 : Int) ≤ k := by omega
      have j1 : (k : Int) < l.length := by omega
      go_upto_region 11 with fail
      rw [HWa.out]
      clear HWa d0 d1 d2 d3 d4 d5 d6 d7
      go_wp2_with fail
      refine HPt.out.mono ?_
      rintro e w3 ⟨rfl, hb3⟩
      clear HPt f0 f1 f2 f3 f4 f5 f6 f7
      have HB3 : Hid (Below wa.heap.size wa w3) := hb3
      obtain ⟨k1, k2, ⟨f0, f1, f2, f3, f4, f5, f6, f7⟩⟩ := HKeep.out w3 hb3
      simp only [Nat.zero_add] at f0 f1 f2 f3 f4 f5 f6 f7
      have HK1 : Hid (Below w.heap.size w w3) := k1
      have HK2 : Hid (Below wr.heap.size wr w3) := k2
      clear hb3 k1 k2
      by_cases g0 : ent = en ∧ pn ≠ 0
      · obtain ⟨g1, g2⟩ := g0
        have g1' : (ent == en) = true := by simp [g1]
        have g1'' : (ent != en) = false := by simp [g1]
        have g2' : (pn == 0) = false := by simpa using g2
        have HP2 : Hid (plTo en pe l (k + 1) = plTo en pe l k ++ [⟨rf, ent, pe, gl⟩]) := by rw [HNx.out, HPE.out, if_pos ⟨g1, g2⟩]; exact rfl
        clear HPE HNx HOk HErr
        subst g1
        go_wp2_with fail
        refine (HDg.out w3).mono ?_
        rintro e w4 ⟨rfl, hb4⟩
        have HB4 : Hid (Below wa.heap.size wa w4) := HB3.out.trans (hb4.mono HB3.out.size)
        have HB4' : Hid (Below w3.heap.size w3 w4) := hb4
        clear f0 f1 f2 f3 f4 f5 f6 f7 hb4 HDg
        obtain ⟨k1, k2, ⟨f0, f1, f2, f3, f4, f5, f6, f7⟩⟩ := HKeep.out w4 HB4.out
        simp only [Nat.zero_add] at f0 f1 f2 f3 f4 f5 f6 f7
        clear k1 k2
        have s1 : ¬ 9223372036854775807 < ref.size + 1 := by omega
        have s2 : ¬ 9223372036854775807 < (ref ++ (⟨#[45]⟩ : ByteArray)).size + ds.size := by
          have : (ref ++ (⟨#[45]⟩ : ByteArray)).size = ref.size + 1 := by rw [ByteArray.size_append]; rfl
          omega
        have s3 : ¬ 9223372036854775807 < ref.size + 1 + ds.size := by omega
        have wn : IntKind.i64.wrap (-pn) = -pn := pn_wrap (by omega) (by omega)
        have hsw : wa.heap.size ≤ w4.heap.size := HB4.out.size
        obtain ⟨BE, hBE⟩ : ∃ BE, w4.heap.size = BE := ⟨_, rfl⟩
        obtain ⟨W5, hW5⟩ : ∃ W5, w4.alloc (.cells #[.string rf, .int .i64 ent, .int .i64 pe, .slice none 0 0] 58) = W5 := ⟨_, rfl⟩
        have B5 : Below wa.heap.size wa W5 := by rw [← hW5]; exact HB4.out.alloc hsw _
        have hs5 : W5.heap.size = BE + 1 := by rw [← hW5, ← hBE]; simp
        have x5 : Box4 W5 BE rf ent pe (.slice none 0 0) := by rw [← hW5, ← hBE]; exact Box4.new w4 rf ent pe _
        have p5 := (HKeep.out W5 B5).2.2
        have hwB : wa.heap.size ≤ BE := by omega
        have HW5 : Hid (w4.alloc (.cells #[.string rf, .int .i64 ent, .int .i64 pe, .slice none 0 0] 58) = W5) := hW5
        have HBE : Hid (w4.heap.size = BE) := hBE
        clear hW5 hBE hsw
        go_upto_region 15 with fail
        rw [← HRf.out, HW5.out, HBE.out]
        clear HW5 HBE f0 f1 f2 f3 f4 f5 f6 f7 HRf s1 s2 s3
        obtain ⟨f0, f1, f2, f3, f4, f5, f6, f7⟩ := p5
        simp only [Nat.zero_add] at f0 f1 f2 f3 f4 f5 f6 f7
        have y0 := x5.c0
        have y1 := x5.c1
        have y2 := x5.c2
        have y3 := x5.c3
        obtain ⟨A5, hA5⟩ : ∃ A5, W5.heap.size = A5 := ⟨_, rfl⟩
        have HX5 : Hid (Box4 W5 BE rf ent pe (.slice none 0 0) ∧ Below wa.heap.size wa W5 ∧ A5 = BE + 1 ∧ W5.heap.size = A5) := ⟨x5, B5, by omega, hA5⟩
        have HN1 : Hid (LnRow (W5.alloc (.cells #[.string fr, .string cu, .int .i64 pn] 60)) (BE + 1) (.slice none 0 0) []) := LnRow.nil _ _
        have HOne1 : Hid (∀ u ∈ ([.string fr, .string cu, .int .i64 pn] : List Value), u.oneCell' = true) := by intro u hu; simp at hu; rcases hu with rfl | rfl | rfl <;> rfl
        have Hm1 : Hid (0 + 1 ≤ maxLen ∧ (0 + 1) * 40 ≤ 140737488355328) := by unfold Hid maxLen; omega
        have Hs1 : Hid (BE + 1 ≤ (W5.alloc (.cells #[.string fr, .string cu, .int .i64 pn] 60)).heap.size) := by unfold Hid; simp; omega
        clear x5 B5 hs5 hA5
        go_wp2_with (at_builtin; refine wpList_append_own _ rfl _ _ 56 rfl (BE + 1) 60 n0 (.agg #[.string ByteArray.empty, .string ByteArray.empty, .int .i64 0]) 3 40 Tryz.underlying56 ni nz0 nz1 nz2 rfl (by decide) _ _ _ rfl HN1.out ⟨W5.heap.size, 0, none⟩ 1 1 [.string fr, .string cu, .int .i64 pn] rfl rfl (World.news_of_block (World.alloc_heap_new W5 _)) HOne1.out Hm1.out.1 Hm1.out.2 Hs1.out ?_)
        intro v1 W6 hown1 hgrow1 _
        have r1 : LnRow W6 (BE + 1) v1 [⟨fr, cu, pn⟩] := by unfold LnRow; simpa [lnRow, Ln.cells] using hown1
        have x6 : Box4 W6 BE rf ent pe (.slice none 0 0) := (HX5.out.1.alloc _).grown hgrow1 (fun j e => by simp [Value.ownBlock] at e)
        have B6 : Below wa.heap.size wa W6 := (HX5.out.2.1.alloc HX5.out.2.1.size _).grown hgrow1 (by have := HX5.out.2.1.size; simp; omega) (fun j e => by simp [Value.ownBlock] at e)
        obtain ⟨a1, c1, rfl, _⟩ := r1.isLn
        have hsz6 : BE + 1 ≤ W6.heap.size := by have := hgrow1.size; have := Hs1.out; omega
        have HX6 : Hid (Box4 W6 BE rf ent pe (.slice none 0 0) ∧ Below wa.heap.size wa W6 ∧ LnRow W6 (BE + 1) (.slice a1 1 c1) [⟨fr, cu, pn⟩] ∧ BE + 1 ≤ W6.heap.size) := ⟨x6, B6, r1, hsz6⟩
        clear hown1 hgrow1 HN1 HOne1 Hm1 Hs1 x6 B6 r1 HX5 hsz6 f0 f1 f2 f3 f4 f5 f6 f7 y0 y1 y2 y3
        have y3 := HX6.out.1.c3
        have z3 := HX6.out.1.fz 3
        obtain ⟨W7, hW7⟩ : ∃ W7, W6.setCell ⟨BE, 3, none⟩ (.slice a1 1 c1) = W7 := ⟨_, rfl⟩
        have HX7 : Hid (Box4 W7 BE rf ent pe (.slice a1 1 c1) ∧ Below wa.heap.size wa W7 ∧ LnRow W7 (BE + 1) (.slice a1 1 c1) [⟨fr, cu, pn⟩] ∧ BE + 1 ≤ W7.heap.size) := by
          rw [← hW7]
          exact ⟨HX6.out.1.set3 _, HX6.out.2.1.setCell (p := ⟨BE, 3, none⟩) hwB _, HX6.out.2.2.1.setOther (by omega), by have := HX6.out.2.2.2; simp [World.setCell]; exact this⟩
        have HW7 : Hid (W6.setCell ⟨BE, 3, none⟩ (.slice a1 1 c1) = W7) := hW7
        simp only [List.length_cons, List.length_nil, Nat.zero_add] at *
        clear hW7 HX6
        go_upto_region 16 with fail
        rw [HW7.out]
        clear HW7 y3 z3
        obtain ⟨f0, f1, f2, f3, f4, f5, f6, f7⟩ := (HKeep.out W7 HX7.out.2.1).2.2
        simp only [Nat.zero_add] at f0 f1 f2 f3 f4 f5 f6 f7
        have y3 := HX7.out.1.c3
        have HN2 : Hid (LnRow (W7.alloc (.cells #[.string tw, .string cu, .int .i64 (-pn)] 60)) (BE + 1) (.slice a1 1 c1) [⟨fr, cu, pn⟩]) := World.ownsRow.alloc HX7.out.2.2.1 _
        have HOne2 : Hid (∀ u ∈ ([.string tw, .string cu, .int .i64 (-pn)] : List Value), u.oneCell' = true) := by intro u hu; simp at hu; rcases hu with rfl | rfl | rfl <;> rfl
        have Hm2 : Hid (1 + 1 ≤ maxLen ∧ (1 + 1) * 40 ≤ 140737488355328) := by unfold Hid maxLen; omega
        have Hs2 : Hid (BE + 1 ≤ (W7.alloc (.cells #[.string tw, .string cu, .int .i64 (-pn)] 60)).heap.size) := by have := HX7.out.2.2.2; unfold Hid; simp; omega
        go_wp2_with (at_builtin; refine wpList_append_own _ rfl _ _ 56 rfl (BE + 1) 60 n0 (.agg #[.string ByteArray.empty, .string ByteArray.empty, .int .i64 0]) 3 40 Tryz.underlying56 ni nz0 nz1 nz2 rfl (by decide) _ _ _ rfl HN2.out ⟨W7.heap.size, 0, none⟩ 1 1 [.string tw, .string cu, .int .i64 (-pn)] rfl rfl (World.news_of_block (World.alloc_heap_new W7 _)) HOne2.out Hm2.out.1 Hm2.out.2 Hs2.out ?_)
        intro v2 W8 hown2 hgrow2 _
        have hob := HX7.out.2.2.1.own
        have r2 : LnRow W8 (BE + 1) v2 gl := by rw [HLn.out]; unfold LnRow; simpa [lnRow, Ln.cells] using hown2
        have x8 : Box4 W8 BE rf ent pe (.slice a1 1 c1) := (HX7.out.1.alloc _).grown hgrow2 (fun j e => by have := hob j e; omega)
        have B8 : Below wa.heap.size wa W8 := (HX7.out.2.1.alloc HX7.out.2.1.size _).grown hgrow2 (by have := HX7.out.2.1.size; simp; omega) (fun j e => by have := hob j e; omega)
        have hlen2 : gl.length = 2 := by rw [HLn.out]; rfl
        obtain ⟨a2', c2, e2, _⟩ := r2.isLn
        rw [hlen2] at e2
        subst e2
        have HX8 : Hid (Box4 W8 BE rf ent pe (.slice a1 1 c1) ∧ Below wa.heap.size wa W8 ∧ LnRow W8 (BE + 1) (.slice a2' 2 c2) gl) := ⟨x8, B8, r2⟩
        have HLen : Hid (gl.length = 2) := hlen2
        clear hown2 hgrow2 HN2 HOne2 Hm2 Hs2 x8 B8 r2 HX7 f0 f1 f2 f3 f4 f5 f6 f7 y3 hlen2 hob
        have y3 := HX8.out.1.c3
        have z3 := HX8.out.1.fz 3
        obtain ⟨W9, hW9⟩ : ∃ W9, W8.setCell ⟨BE, 3, none⟩ (.slice a2' 2 c2) = W9 := ⟨_, rfl⟩
        have HX9 : Hid (Box4 W9 BE rf ent pe (.slice a2' 2 c2) ∧ Below wa.heap.size wa W9 ∧ LnRow W9 (BE + 1) (.slice a2' 2 c2) gl) := by
          rw [← hW9]
          exact ⟨HX8.out.1.set3 _, HX8.out.2.1.setCell (p := ⟨BE, 3, none⟩) hwB _, HX8.out.2.2.setOther (by omega)⟩
        have HW9 : Hid (W8.setCell ⟨BE, 3, none⟩ (.slice a2' 2 c2) = W9) := hW9
        clear hW9 HX8
        go_upto_region 17 with fail
        rw [HW9.out]
        clear HW9 y3 z3
        have y0 := HX9.out.1.c0
        have y1 := HX9.out.1.c1
        have y2 := HX9.out.1.c2
        have y3 := HX9.out.1.c3
        obtain ⟨k1, k2, _⟩ := HKeep.out W9 HX9.out.2.1
        have HAdd : Hid (∀ v' w6, World.ownsRow w6 w.heap.size 58 4 v' (L.length + 1) (jeRow L ++ (Je.mk rf ent pe a2' c2 gl).cells.toList) → (W9.alloc (.cells #[.string rf, .int .i64 ent, .int .i64 pe, .slice a2' 2 c2] 58)).grownBy w6 (Value.slice av L.length cv).ownBlock → (Made w6 w.heap.size v' (L ++ [Je.mk rf ent pe a2' c2 gl]) ∧ (L ++ [Je.mk rf ent pe a2' c2 gl]).map Je.ep = plTo ent pe l (k + 1) ∧ (L ++ [Je.mk rf ent pe a2' c2 gl]).length ≤ k + 1) ∧ Below w.heap.size w w6) := fun v' w6 h1 h2 => by
          obtain ⟨m1, m2, m3⟩ := HM.out
          have z2 := k1.alloc k1.size (.cells #[.string rf, .int .i64 ent, .int .i64 pe, .slice a2' 2 c2] 58)
          have z3 : Below W9.heap.size W9 (W9.alloc (.cells #[.string rf, .int .i64 ent, .int .i64 pe, .slice a2' 2 c2] 58)) := (Below.refl _ W9).alloc (Nat.le_refl _) _
          have m4 := (m1.below k2).below z3
          have hr9 : LnRow W9 w.heap.size (.slice a2' gl.length c2) gl := by
            rw [HLen.out]
            exact HX9.out.2.2.mono (by have := (HKeep.out wa (Below.refl _ _)).1.size; omega)
          refine ⟨⟨m4.add (x := Je.mk rf ent pe a2' c2 gl) (hr9.below z3) h1 h2, ?_, ?_⟩, z2.grown h2 z2.size fun j e => m1.row.own j e⟩
          · rw [List.map_append, m2, HP2.out]; rfl
          · rw [List.length_append]; simp; exact m3
        have HRow : Hid (World.ownsRow (W9.alloc (.cells #[.string rf, .int .i64 ent, .int .i64 pe, .slice a2' 2 c2] 58)) w.heap.size 58 4 (.slice av L.length cv) L.length (jeRow L)) := World.ownsRow.alloc (HM.out.1.below k2).row _
        have s2 : Hid (L.length + 1 ≤ maxLen ∧ (L.length + 1) * 56 ≤ 140737488355328) := by
          have := HM.out.2.2
          unfold Hid maxLen; omega
        have s4 : Hid (w.heap.size ≤ (W9.alloc (.cells #[.string rf, .int .i64 ent, .int .i64 pe, .slice a2' 2 c2] 58)).heap.size) := by
          have z1 := k1.size
          unfold Hid; simp; omega
        have HCl : Hid ((Je.mk rf ent pe a2' c2 gl).cells.toList = [.string rf, .int .i64 ent, .int .i64 pe, .slice a2' 2 c2]) := by unfold Je.cells Hid; simp only [HLen.out]
        have HOne : Hid (∀ u ∈ ([.string rf, .int .i64 ent, .int .i64 pe, .slice a2' 2 c2] : List Value), u.oneCell' = true) := by rw [← HCl.out]; exact je_one _
        rw [HCl.out] at HAdd
        clear HM HCl HX9 k1 k2 HKeep
        go_wp2_with (at_builtin; refine wpList_append_own _ rfl _ _ 29 rfl w.heap.size 58 i0 (.agg #[.string ByteArray.empty, .int .i64 0, .int .i64 0, .slice none 0 0]) 4 56 Tryz.underlying29 hi hz0 hz1 hz2 rfl (by decide) _ _ _ rfl HRow.out ⟨W9.heap.size, 0, none⟩ 1 1 [.string rf, .int .i64 ent, .int .i64 pe, .slice a2' 2 c2] rfl rfl (World.news_of_block (World.alloc_heap_new W9 _)) HOne.out s2.out.1 s2.out.2 s4.out ?_)
        intro v' w6 hown' hgrow _
        obtain ⟨hm6, hb6⟩ := HAdd.out v' w6 hown' hgrow
        have HM6 : Hid _ := hm6
        have HB6 : Hid (Below w.heap.size w w6) := hb6
        clear hown' hgrow hm6 hb6 HAdd HRow
        go_wp2
        go_roundw
        case rel => exact ⟨k + 1, _, by omega, by go_num, HM6, HB6⟩
        case measure => simp [RowKit.intOf]; omega
      · have HM2 : Hid (Made w3 w.heap.size (.slice av L.length cv) L ∧ L.map Je.ep = plTo en pe l (k + 1) ∧ L.length ≤ k + 1) := by
          obtain ⟨m1, m2, m3⟩ := HM.out
          refine ⟨m1.below HK2.out, ?_, by omega⟩
          rw [HNx.out, HPE.out, if_neg g0, List.append_nil, m2]
        clear HPE HNx HOk HErr HM HKeep HDg
        by_cases g1 : ent = en
        · have g2 : pn = 0 := Classical.byContradiction fun h => g0 ⟨g1, h⟩
          have g1' : (ent != en) = false := by simp [g1]
          clear g0
          subst g1
          subst g2
          go_wp2
          go_roundw
          case rel => exact ⟨k + 1, L, by omega, by go_num, HM2, HK1⟩
          case measure => simp [RowKit.intOf]; omega
        · have g1' : (ent != en) = true := by simpa using g1
          clear g0
          go_wp2
          go_roundw
          case rel => exact ⟨k + 1, L, by omega, by go_num, HM2, HK1⟩
          case measure => simp [RowKit.intOf]; omega
    · have ek : k = l.length := by omega
      subst ek
      obtain ⟨m1, m2, m3⟩ := HM.out
      have HE : Hid (RaEnd c l en pe w (.returned (.tuple #[.slice av L.length cv, .int .i64 0])) wr) := HOk.out _ L wr HB0.out HB.out m1 m2 (by omega)
      have j1 : ¬ (l.length : Int) < l.length := by omega
      clear m1 m2 m3 HM HErr HOk HPo HPs
      go_wp2
      go_ret2
      exact HE.out
end Go.Proofs.YtioegjmcpjnmnaaGreatDoor

namespace Go.Proofs.YtioegjmcpjnmnaaGreatDoor
set_option linter.unusedVariables false
set_option linter.unusedSimpArgs false
set_option maxRecDepth 100000
open Go.RowKit

theorem line_struct : Tryz.prog.underlying 60 = some (.struct (Tryz.prog.fieldsOf 60)) := by kernel_rfl
theorem line_stood : Tryz.prog.stoodInHeld 60 = false := by kernel_rfl

theorem line_same (x0 x1 : ByteArray) (x2 : Int) (W : World) : (binOp .neq 60 (.agg #[.string x0, .string x1, .int .i64 x2]) (.agg #[.string x0, .string x1, .int .i64 x2])).run Tryz.prog W = .ok (.bool false) W := by
  rw [run_neq_struct, show (10000 : Nat) = 9998 + 1 + 1 from rfl, run_equalIn_agg W (9998 + 1) 60 _ _ line_struct line_stood]
  unfold Program.fieldsOf
  rw [Tryz.underlying60]
  simp [Op.eqFields, part, go_sem, run_equalIn_string W 9998 9 _ _ Tryz.underlying9, run_equalIn_int W 9998 3 .i64 .i64 _ _ Tryz.underlying3, Tryz.isAgg9, Tryz.isAgg3]

set_option maxHeartbeats 1000000 in
theorem sameLines_any (a1 a2 : Option Addr) (c1 c2 : Nat) (l : List Ln) (w : World) (hlen : l.length ≤ 1000) (h1 : IsLn w a1 l c1) (h2 : IsLn w a2 l c2) :
    Calls Tryz.prog 53 #[.slice a1 l.length c1, .slice a2 l.length c2] w fun e w' => e = .returned (.bool true) ∧ Below w.heap.size w w' := by
  have Hlen : (l.length : Int) ≤ 1000 := by omega
  have H1 : Hid (l = [] ∨ _) := h1.lies
  have H2 : Hid (l = [] ∨ _) := h2.lies
  clear h1 h2
  have hS := line_same
  go_enter Tryz.func53, Tryz.ntmps53
  go_wp2
  go_loopw [5] (fun i wr => ∃ k : Nat, k ≤ l.length ∧ i = .int .i64 k ∧ ∃ n, wr = w.drewN n) (fun i _ => l.length - (RowKit.intOf i).toNat)
  case atStart => exact ⟨0, Nat.zero_le _, rfl, 0, rfl⟩
  case round =>
    obtain ⟨k, hk, rfl, nd, rfl⟩ := hrel
    by_cases hlt : k < l.length
    · rcases H1.out with h | ⟨g1, o1, rfl, _, q1⟩
      · rw [h] at hlt; simp at hlt
      rcases H2.out with h | ⟨g2, o2, rfl, _, q2⟩
      · rw [h] at hlt; simp at hlt
      have d1 := q1 k hlt
      have d2 := q2 k hlt
      clear q1 q2 H1 H2
      generalize l.getD k ln0 = x at *
      obtain ⟨x0, x1, x2⟩ := x
      obtain ⟨e0, e1, e2⟩ := d1
      obtain ⟨f0, f1, f2⟩ := d2
      simp only at e0 e1 e2 f0 f1 f2
      have i0 : (0 : Int) ≤ k := by omega
      have i1 : (k : Int) < l.length := by omega
      go_wp2_with fail
      go_quiet (fail)
      go_wp2
      go_roundw
      case rel => exact ⟨k + 1, by omega, by go_num, _, rfl⟩
      case measure => simp [RowKit.intOf]; omega
    · have hk2 : k = l.length := by omega
      subst hk2
      go_wp2
      go_ret
      exact ⟨rfl, en_drewN (Below.refl _ _) _⟩

set_option maxHeartbeats 1000000 in
theorem sameEntry_any (r : ByteArray) (en pe : Int) (a1 a2 : Option Addr) (c1 c2 : Nat) (l : List Ln) (w : World) (hlen : l.length ≤ 1000) (h1 : IsLn w a1 l c1) (h2 : IsLn w a2 l c2) :
    Calls Tryz.prog 30 #[.agg #[.string r, .int .i64 en, .int .i64 pe, .slice a1 l.length c1], .agg #[.string r, .int .i64 en, .int .i64 pe, .slice a2 l.length c2]] w fun e w' => e = .returned (.bool true) ∧ Below w.heap.size w w' := by
  have b0 : Below w.heap.size w ((w.alloc (.cells #[.string r, .int .i64 en, .int .i64 pe, .slice a1 l.length c1] 58)).alloc (.cells #[.string r, .int .i64 en, .int .i64 pe, .slice a2 l.length c2] 58)) := ((Below.refl _ w).alloc (Nat.le_refl _) _).alloc (by simp) _
  have x1 := (Box4.new w r en pe (.slice a1 l.length c1)).alloc (.cells #[.string r, .int .i64 en, .int .i64 pe, .slice a2 l.length c2] 58)
  have x2 := Box4.new (w.alloc (.cells #[.string r, .int .i64 en, .int .i64 pe, .slice a1 l.length c1] 58)) r en pe (.slice a2 l.length c2)
  rw [World.size_alloc] at x2
  have hs0 : ((w.alloc (.cells #[.string r, .int .i64 en, .int .i64 pe, .slice a1 l.length c1] 58)).alloc (.cells #[.string r, .int .i64 en, .int .i64 pe, .slice a2 l.length c2] 58)).heap.size = w.heap.size + 2 := by simp
  have hL := sameLines_any a1 a2 c1 c2 l _ hlen (h1.below b0) (h2.below b0)
  have HL : Hid (Calls _ _ _ _ _) := hL
  clear hL h1 h2
  go_enter Tryz.func30, Tryz.ntmps30
  go_wp2_with fail
  refine HL.out.mono ?_
  rintro e w1 ⟨rfl, hb1⟩
  rw [hs0] at hb1
  have B1 := b0.trans (hb1.mono (by omega))
  have y1 := x1.below hb1 (by omega)
  have y2 := x2.below hb1 (by omega)
  have d0 := y1.c0
  have d1 := y1.c1
  have d2 := y1.c2
  have e0 := y2.c0
  have e1 := y2.c1
  have e2 := y2.c2
  clear HL hb1 x1 x2 y1 y2 b0 hs0
  go_wp2
  go_ret
  exact ⟨rfl, B1⟩
end Go.Proofs.YtioegjmcpjnmnaaGreatDoor

namespace Go.Proofs.YtioegjmcpjnmnaaGreatDoor
set_option linter.unusedVariables false
set_option linter.unusedSimpArgs false
set_option maxRecDepth 100000
open Go.RowKit Go.Lib

theorem ep_at {L1 L2 : List Je} (h : L1.map Je.ep = L2.map Je.ep) {k : Nat} (hk : k < L1.length) : (L1.getD k je0).ep = (L2.getD k je0).ep := by
  have hl : L1.length = L2.length := by have := congrArg List.length h; simpa using this
  have := congrArg (fun l => l[k]?) h
  simp only [List.getElem?_map, List.getElem?_eq_getElem hk, List.getElem?_eq_getElem (by omega : k < L2.length), Option.map_some, Option.some.injEq] at this
  rw [List.getD_eq_getElem?_getD, List.getD_eq_getElem?_getD, List.getElem?_eq_getElem hk, List.getElem?_eq_getElem (by omega : k < L2.length)]
  exact this
set_option maxHeartbeats 4000000 in
theorem sameEntries_any (a1 a2 : Option Addr) (c1 c2 : Nat) (L1 L2 : List Je) (w : World) (hlen : L1.length ≤ 1000) (he : L1.map Je.ep = L2.map Je.ep) (hln : ∀ x ∈ L1, x.lns.length ≤ 1000) (h1 : IsJs w a1 L1 c1) (h2 : IsJs w a2 L2 c2) :
    Calls Tryz.prog 9 #[.slice a1 L1.length c1, .slice a2 L2.length c2] w fun e w' => e = .returned (.bool true) ∧ Below w.heap.size w w' := by
  have hl : L2.length = L1.length := by have := congrArg List.length he; simpa using this.symm
  rw [hl]
  have H1 : Hid (IsJs w a1 L1 c1) := h1
  have H2 : Hid (IsJs w a2 L2 c2) := h2
  have HE : Hid (∀ k, k < L1.length → (L1.getD k je0).ep = (L2.getD k je0).ep ∧ (L1.getD k je0).lns.length ≤ 1000) := fun k hk => ⟨ep_at he hk, hln _ (jes_mem L1 k hk)⟩
  have HL : Hid (L2.length = L1.length) := hl
  have hl1 : (L1.length : Int) ≤ 1000 := by omega
  clear h1 h2 he hl hln
  go_enter Tryz.func9, Tryz.ntmps9
  go_wp2
  go_loopw [5] (fun i wr => ∃ k : Nat, k ≤ L1.length ∧ i = .int .i64 k ∧ Hid (Below w.heap.size w wr)) (fun i _ => L1.length - (RowKit.intOf i).toNat)
  case atStart => exact ⟨0, Nat.zero_le _, rfl, Below.refl _ _⟩
  case round =>
    obtain ⟨k, hk, rfl, HB⟩ := hrel
    by_cases hlt : k < L1.length
    · have j1 := H1.out.below HB.out
      have j2 := H2.out.below HB.out
      rcases j1.lies with h0 | ⟨b1, o1, e1, hb1, hat1⟩
      · rw [h0] at hlt; simp at hlt
      rcases j2.lies with h0 | ⟨b2, o2, e2, hb2, hat2⟩
      · rw [← HL.out, h0] at hlt; simp at hlt
      subst e1
      subst e2
      have y1 := hat1 k hlt
      have y2 := hat2 k (by rw [HL.out]; exact hlt)
      have l1 := j1.lns _ (jes_mem L1 k hlt)
      have l2 := j2.lns _ (jes_mem L2 k (by rw [HL.out]; exact hlt))
      obtain ⟨hee, hll⟩ := HE.out k hlt
      clear hat1 hat2 j1 j2
      generalize L1.getD k je0 = x at *
      generalize L2.getD k je0 = y at *
      obtain ⟨x0, x1, x2, x3, x4, x5⟩ := x
      obtain ⟨y0, y1', y2', y3, y4, y5⟩ := y
      simp only [Je.ep, Ep.mk.injEq] at hee
      obtain ⟨rfl, rfl, rfl, rfl⟩ := hee
      obtain ⟨d0, d1, d2, d3⟩ := y1
      obtain ⟨f0, f1, f2, f3⟩ := y2
      simp only at d0 d1 d2 d3 f0 f1 f2 f3 l1 l2 hll
      have HS : Hid (∀ W, Below wr.heap.size wr W → Calls Tryz.prog 30 #[.agg #[.string x0, .int .i64 x1, .int .i64 x2, .slice x3 x5.length x4], .agg #[.string x0, .int .i64 x1, .int .i64 x2, .slice y3 x5.length y4]] W fun e w' => e = .returned (.bool true) ∧ Below w.heap.size w w') := fun W hW => by
        refine (sameEntry_any x0 x1 x2 x3 y3 x4 y4 x5 W hll (l1.below hW) (l2.below hW)).mono ?_
        rintro e w' ⟨rfl, hb⟩
        have z := HB.out.trans (hW.mono HB.out.size)
        exact ⟨rfl, z.trans (hb.mono z.size)⟩
      have i0 : (0 : Int) ≤ k := by omega
      have i1 : (k : Int) < L1.length := by omega
      clear l1 l2
      go_wp2_with fail
      go_region_with (go_at_call 30; refine (HS.out _ (by first | exact Below.refl _ _ | exact (Below.refl _ _).drew | exact en_drewN (Below.refl _ _) _)).mono ?_; rintro e w2 ⟨rfl, hb2⟩)
      all_goals
        have HB2 : Hid (Below w.heap.size w w2) := hb2
        clear hb2 HS d0 d1 d2 d3 f0 f1 f2 f3
        go_wp2
        go_roundw
        case rel => exact ⟨k + 1, by omega, by go_num, HB2⟩
        case measure => simp [RowKit.intOf]; omega
    · have ek : k = L1.length := by omega
      subst ek
      have i1 : ¬ (L1.length : Int) < L1.length := by omega
      go_wp2
      go_ret
      exact ⟨rfl, HB.out⟩
end Go.Proofs.YtioegjmcpjnmnaaGreatDoor
