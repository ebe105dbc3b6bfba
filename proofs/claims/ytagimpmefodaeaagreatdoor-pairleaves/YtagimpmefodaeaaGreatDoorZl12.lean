/-
  The contracts of quarterdaybig's words, SetInt64 and NewInt, and of dayref1's Big: a number of 64 bits as one of any size.
-/
import Derived.Test.YtagimpmefodaeaaGreatDoorZl9
import Derived.Test.YtagimpmefodaeaaGreatDoorZl11
import Derived.Deep.CutRange
import Derived.Deep.CutBlock
import Derived.Test.YtagimpmefodaeaaGreatDoorProg
import Derived.WalkKit
import Derived.WalkSpells
import Derived.Below
import Derived.WalkSmall
import Derived.Laws.Rows
namespace Go.Proofs.YtagimpmefodaeaaGreatDoor
set_option linter.unusedVariables false
set_option linter.unusedSimpArgs false
set_option maxRecDepth 100000
open Go.RowKit Go.Lib

/-- Do two pairs have a side in common, by eight tests? -/
def clB (a1 a2 a3 a4 a5 a6 a7 a8 : Bool) : Bool := (((a1 && a2) || (a3 && a4)) || (a5 && a6)) || (a7 && a8)
def clP (p q : Pr) : Bool := clB (decide (p.ea = q.ea)) (decide (p.one = q.one)) (decide (p.ea = q.eb)) (decide (p.one = q.oth)) (decide (p.eb = q.ea)) (decide (p.oth = q.one)) (decide (p.eb = q.eb)) (decide (p.oth = q.oth))
theorem cl_bool (a b c d A B : Bool) : (((a || b) || A) || ((c || d) || B)) = (((((a || b) || c) || d)) || (A || B)) := by
  cases a <;> cases b <;> cases c <;> cases d <;> cases A <;> cases B <;> rfl
theorem cl_any (p : Pr) : ∀ L : List Pr, ((sidesL L).any (sdB ⟨p.ea, p.one⟩) || (sidesL L).any (sdB ⟨p.eb, p.oth⟩)) = L.any (clP p)
  | [] => rfl
  | x :: L => by
    have ih := cl_any p L
    have e : sidesL (x :: L) = [⟨x.ea, x.one⟩, ⟨x.eb, x.oth⟩] ++ sidesL L := rfl
    have e3 : (x :: L).any (clP p) = (clP p x || L.any (clP p)) := rfl
    rw [e, List.any_append, List.any_append, e3, ← ih]
    generalize (sidesL L).any (sdB ⟨p.ea, p.one⟩) = A
    generalize (sidesL L).any (sdB ⟨p.eb, p.oth⟩) = B
    have e2 : ∀ s : Sd, [(⟨x.ea, x.one⟩ : Sd), ⟨x.eb, x.oth⟩].any (sdB s) = (sdB s ⟨x.ea, x.one⟩ || sdB s ⟨x.eb, x.oth⟩) := fun s => by simp
    rw [e2, e2, cl_bool]
    rfl
theorem int_dec (x y : Int) : (y == x) = decide (x = y) := by
  by_cases h : x = y
  · subst h; simp
  · have h' : ¬ y = x := fun e => h e.symm
    simp [h, h']
theorem txt_dec (x y : ByteArray) : (y.toList == x.toList) = decide (x = y) := by
  by_cases h : x = y
  · subst h; simp
  · rw [ch_ne (fun e => h e.symm), decide_eq_false h]
theorem clP_take {l : List Pr} {p : Pr} {m : Nat} (hm : m < l.length) (h : (l.take m).any (clP p) = false) (h2 : clP p (l.getD m pr0) = false) : (l.take (m + 1)).any (clP p) = false := by
  rw [prs_take l m hm, List.any_append, h, List.any_cons, List.any_nil, h2]
  rfl
theorem clP_hit {l : List Pr} {p : Pr} {m k : Nat} (hm : m < k) (hk : k ≤ l.length) (h2 : clP p (l.getD m pr0) = true) : (l.take k).any (clP p) = true := by
  rw [List.any_eq_true]
  refine ⟨_, ?_, h2⟩
  have e : (l.take k).getD m pr0 = l.getD m pr0 := by
    rw [List.getD_eq_getElem?_getD, List.getD_eq_getElem?_getD, List.getElem?_take, if_pos hm]
  rw [← e]
  exact prs_mem _ m (by rw [List.length_take]; omega)
set_option maxHeartbeats 16000000 in
theorem refPairs_any (a a2 : Option Addr) (cap cap2 : Nat) (c : List Ac) (l : List Pr) (w : World) (h : IsSl w a c cap) (hok : ∀ k, k < c.length → (c.getD k ac0).code.size ≤ maxLen ∧ (c.getD k ac0).name.size ≤ maxLen) (hl : IsPr w a2 l cap2) (hll : l.length ≤ 9223372036854775807) :
    Calls Tryz.prog 6 #[.slice a c.length cap, .slice a2 l.length cap2] w fun e w' => e = .returned (.int .i64 (prsBad c l)) ∧ Below w.heap.size w w' := by
  have HC : Hid (Calls _ _ _ _ _) := refChart_any a cap c w h hok
  by_cases c0 : chBad c ≠ 0
  · have e0 : prsBad c l = chBad c := by unfold prsBad; rw [if_pos c0]
    rw [e0]
    clear h hl e0
    generalize chBad c = z at *
    go_enter Tryz.func6, Tryz.ntmps6
    have c0' : (z == 0) = false := by rw [beq_eq_false_iff_ne]; exact c0
    go_wp2_with (go_at_call 18; refine HC.out.mono ?_; rintro e w1 ⟨rfl, hb1⟩)
    go_ret
    exact ⟨rfl, hb1⟩
  have c0' := Decidable.of_not_not c0
  have hlen := chBad_len c0'
  rw [c0'] at HC
  obtain ⟨res, hres⟩ : ∃ res, prsBad c l = res := ⟨_, rfl⟩
  have HR1 : Hid ((if 20 < l.length then 4 else firstTo (prAtBad c l) l.length) = res) := by
    rw [← hres]; unfold prsBad; rw [if_neg c0]; exact rfl
  rw [hres]
  have HL : Hid (IsPr w a2 l cap2) := hl
  have HSl : Hid (IsSl w a c cap) := h
  clear hres h hl c0 c0'
  go_enter Tryz.func6, Tryz.ntmps6
  go_wp2_with fail
  refine HC.out.mono ?_
  rintro e w1 ⟨rfl, hb1⟩
  have HB1 : Hid (Below w.heap.size w w1) := hb1
  clear hb1 HC
  by_cases c1 : 20 < l.length
  · have er : res = 4 := by rw [← HR1.out, if_pos c1]
    subst er
    have i1 : (20 : Int) < l.length := by omega
    clear HR1
    go_wp2
    go_ret
    exact ⟨rfl, HB1.out⟩
  have HR2 : Hid (firstTo (prAtBad c l) l.length = res) := by
    have := HR1.out; rw [if_neg c1] at this; exact this
  have i1 : ¬ (20 : Int) < l.length := by omega
  have i2 : (l.length : Int) ≤ 20 := by omega
  have i3 : l.length ≤ 20 := by omega
  clear HR1 c1 hll
  go_wp2
  go_loopw [5, 6] (fun _ i wr => ∃ k : Nat, k ≤ l.length ∧ i = .int .i64 k ∧ Hid (firstTo (prAtBad c l) k = 0) ∧ Hid (Below w.heap.size w wr)) (fun _ i _ => l.length - (RowKit.intOf i).toNat)
  case atStart => exact ⟨0, Nat.zero_le _, rfl, rfl, HB1⟩
  case round =>
    obtain ⟨k, hk, rfl, H0, HB⟩ := hrel
    by_cases hkn : k < l.length
    · obtain ⟨b, off, e, hbl, hcc⟩ := HL.out.some hkn
      subst e
      have hc := (hcc k hkn).below HB.out hbl
      have HCs : Hid (∀ m W, m < l.length → Below w.heap.size w W → PrAt W b (off + m * 5) (l.getD m pr0)) := fun m W hm hW => (hcc m hm).below hW hbl
      have HRet : Hid (∀ z, z ≠ 0 → prAtBad c l k = z → res = z) := fun z h0 h1 => by
        rw [← HR2.out, firstTo_first H0.out (by rw [h1]; exact h0) hkn, h1]
      have HNx : Hid (prAtBad c l k = 0 → firstTo (prAtBad c l) (k + 1) = 0) := fun h => by rw [firstTo_next H0.out, h]
      have HE : Hid (prAtBad c l k = if prBad c (l.getD k pr0) ≠ 0 then prBad c (l.getD k pr0) else if (l.take k).any (clP (l.getD k pr0)) = true then 8 else 0) := by
        unfold prAtBad Hid; rw [cl_any]
      have HPB : Hid (prBad c (l.getD k pr0) = if (upTo (l.getD k pr0).ea 12 && upTo (l.getD k pr0).eb 12) = false then 1 else if (l.getD k pr0).ea = (l.getD k pr0).eb then 8
  else if leafBad c (l.getD k pr0).one ≠ 0 then leafBad c (l.getD k pr0).one else if leafBad c (l.getD k pr0).oth ≠ 0 then leafBad c (l.getD k pr0).oth else if leafBad c (l.getD k pr0).dif ≠ 0 then leafBad c (l.getD k pr0).dif
  else if (l.getD k pr0).dif = (l.getD k pr0).one ∨ (l.getD k pr0).dif = (l.getD k pr0).oth then 8 else 0) := rfl
      obtain ⟨wa, hwa⟩ : ∃ wa, wr.alloc (.cells (l.getD k pr0).cells 50) = wa := ⟨_, rfl⟩
      have b11 : Below wr.heap.size wr wa := by rw [← hwa]; exact (Below.refl _ wr).alloc (Nat.le_refl _) _
      have BB2 : Below w.heap.size w wa := HB.out.trans (b11.mono HB.out.size)
      have hsa : wr.heap.size < wa.heap.size := by rw [← hwa]; simp
      have hx : PrAt wa wr.heap.size 0 (l.getD k pr0) := by rw [← hwa]; exact PrAt.new wr (l.getD k pr0) 50
      have HP : Hid (∀ W, Below wa.heap.size wa W → PrAt W wr.heap.size 0 (l.getD k pr0) ∧ Below w.heap.size w W) := fun W hW => ⟨hx.below hW hsa, BB2.trans (hW.mono BB2.size)⟩
      have HLf : Hid (∀ code, Calls Tryz.prog 20 #[.slice a c.length cap, .string code] wa fun e w' => e = .returned (.int .i64 (leafBad c code)) ∧ w' = wa) := fun code => refLeafE_any a cap c code wa (HSl.out.below BB2) hlen
      have HEn : Hid (∀ n W, Calls Tryz.prog 19 #[.int .i64 n] W fun e w' => e = .returned (.bool (upTo n 12)) ∧ w' = W) := fun n W => entity_any n W
      have HWa : Hid (wr.alloc (.cells (l.getD k pr0).cells 50) = wa) := hwa
      have hx2 := hx
      clear BB2 b11 hwa hx hsa hcc
      generalize prBad c (l.getD k pr0) = pb at *
      generalize prAtBad c l k = ab at *
      generalize hpk : l.getD k pr0 = p at *
      clear hpk
      obtain ⟨x0, x1, x2, x3, x4⟩ := p
      obtain ⟨d0, d1, d2, d3, d4⟩ := hc
      obtain ⟨f0, f1, f2, f3, f4⟩ := hx2
      simp only [Pr.cells, Nat.zero_add] at d0 d1 d2 d3 d4 f0 f1 f2 f3 f4 HWa HP HE HPB
      have j0 : (0 : Int) ≤ k := by omega
      have j1 : (k : Int) < l.length := by omega
      have HBwa : Hid (Below w.heap.size w wa) := (HP.out wa (Below.refl _ _)).2
      go_upto_region 10 with fail
      rw [HWa.out]
      clear HWa d0 d1 d2 d3 d4
      have HE1 : Hid (Calls _ _ _ _ _) := HEn.out x0 wa
      have HE2 : Hid (Calls _ _ _ _ _) := HEn.out x1 wa
      cases u1 : upTo x0 12
      · have er : res = 1 := HRet.out 1 (by decide) (by rw [HE.out, HPB.out, u1, Bool.false_and, if_pos rfl, if_pos (by decide)])
        subst er
        rw [u1] at HE1
        generalize upTo x1 12 = u2 at *
        clear HE HPB HRet HNx HR2 HLf HP HEn HCs
        go_wp2_with fail
        refine HE1.out.mono ?_
        rintro e w' ⟨rfl, hw⟩
        rw [hw]; clear hw w' HE1
        go_wp2_with fail
        refine HE2.out.mono ?_
        rintro e w' ⟨rfl, hw⟩
        rw [hw]; clear hw w' HE2
        go_wp2
        go_ret
        exact ⟨rfl, HBwa.out⟩
      rw [u1] at HE1
      cases u2 : upTo x1 12
      · have er : res = 1 := HRet.out 1 (by decide) (by rw [HE.out, HPB.out, u1, u2, Bool.true_and, if_pos rfl, if_pos (by decide)])
        subst er
        rw [u2] at HE2
        clear HE HPB HRet HNx HR2 HLf HP HEn HCs
        go_wp2_with fail
        refine HE1.out.mono ?_
        rintro e w' ⟨rfl, hw⟩
        rw [hw]; clear hw w' HE1
        go_wp2_with fail
        refine HE2.out.mono ?_
        rintro e w' ⟨rfl, hw⟩
        rw [hw]; clear hw w' HE2
        go_wp2
        go_ret
        exact ⟨rfl, HBwa.out⟩
      rw [u2] at HE2
      have HPB2 : Hid (pb = if x0 = x1 then 8 else if leafBad c x2 ≠ 0 then leafBad c x2 else if leafBad c x3 ≠ 0 then leafBad c x3 else if leafBad c x4 ≠ 0 then leafBad c x4 else if x4 = x2 ∨ x4 = x3 then 8 else 0) := by
        have := HPB.out; rw [u1, u2, Bool.true_and, if_neg (by decide)] at this; exact this
      have HRp : Hid (pb ≠ 0 → res = pb) := fun h0 => HRet.out pb h0 (by rw [HE.out, if_pos h0])
      have HE3 : Hid (pb = 0 → ab = if (l.take k).any (clP ⟨x0, x1, x2, x3, x4⟩) = true then 8 else 0) := fun h0 => by rw [HE.out, if_neg (by simp [h0])]
      clear HPB HEn HE u1 u2
      go_wp2_with fail
      refine HE1.out.mono ?_
      rintro e w' ⟨rfl, hw⟩
      rw [hw]; clear hw w' HE1
      go_wp2_with fail
      refine HE2.out.mono ?_
      rintro e w' ⟨rfl, hw⟩
      rw [hw]; clear hw w' HE2
      by_cases v1 : x0 = x1
      · have er : res = 8 := by rw [HRp.out (by rw [HPB2.out, if_pos v1]; decide), HPB2.out, if_pos v1]
        subst er
        have v1' : (x0 == x1) = true := by simpa using v1
        clear HPB2 HRp HE3 HRet HNx HR2 HLf HP HCs v1
        go_wp2
        go_ret
        exact ⟨rfl, HBwa.out⟩
      have v1' : (x0 == x1) = false := by rw [beq_eq_false_iff_ne]; exact v1
      have L1 : Hid (Calls _ _ _ _ _) := HLf.out x2
      have L2 : Hid (Calls _ _ _ _ _) := HLf.out x3
      have L3 : Hid (Calls _ _ _ _ _) := HLf.out x4
      by_cases v2 : leafBad c x2 ≠ 0
      · have er : res = leafBad c x2 := by rw [HRp.out (by rw [HPB2.out, if_neg v1, if_pos v2]; exact v2), HPB2.out, if_neg v1, if_pos v2]
        rw [← er] at L1 v2
        have v2' : (res == 0) = false := by rw [beq_eq_false_iff_ne]; exact v2
        clear HPB2 HRp HE3 HRet HNx HR2 HLf HP HCs v1 L2 L3 er
        go_wp2_with fail
        refine L1.out.mono ?_
        rintro e w' ⟨rfl, hw⟩
        rw [hw]; clear hw w' L1
        go_wp2
        go_ret
        exact ⟨rfl, HBwa.out⟩
      rw [Decidable.of_not_not v2] at L1
      go_wp2_with fail
      refine L1.out.mono ?_
      rintro e w' ⟨rfl, hw⟩
      rw [hw]; clear hw w' L1
      by_cases v3 : leafBad c x3 ≠ 0
      · have er : res = leafBad c x3 := by rw [HRp.out (by rw [HPB2.out, if_neg v1, if_neg v2, if_pos v3]; exact v3), HPB2.out, if_neg v1, if_neg v2, if_pos v3]
        rw [← er] at L2 v3
        have v3' : (res == 0) = false := by rw [beq_eq_false_iff_ne]; exact v3
        clear HPB2 HRp HE3 HRet HNx HR2 HLf HP HCs v1 v2 L3 er
        go_wp2_with fail
        refine L2.out.mono ?_
        rintro e w' ⟨rfl, hw⟩
        rw [hw]; clear hw w' L2
        go_wp2
        go_ret
        exact ⟨rfl, HBwa.out⟩
      rw [Decidable.of_not_not v3] at L2
      go_wp2_with fail
      refine L2.out.mono ?_
      rintro e w' ⟨rfl, hw⟩
      rw [hw]; clear hw w' L2
      by_cases v4 : leafBad c x4 ≠ 0
      · have er : res = leafBad c x4 := by rw [HRp.out (by rw [HPB2.out, if_neg v1, if_neg v2, if_neg v3, if_pos v4]; exact v4), HPB2.out, if_neg v1, if_neg v2, if_neg v3, if_pos v4]
        rw [← er] at L3 v4
        have v4' : (res == 0) = false := by rw [beq_eq_false_iff_ne]; exact v4
        clear HPB2 HRp HE3 HRet HNx HR2 HLf HP HCs v1 v2 v3 er
        go_wp2_with fail
        refine L3.out.mono ?_
        rintro e w' ⟨rfl, hw⟩
        rw [hw]; clear hw w' L3
        go_wp2
        go_ret
        exact ⟨rfl, HBwa.out⟩
      rw [Decidable.of_not_not v4] at L3
      go_wp2_with fail
      refine L3.out.mono ?_
      rintro e w' ⟨rfl, hw⟩
      rw [hw]; clear hw w' L3
      by_cases v5 : x4 = x2
      · have er : res = 8 := by rw [HRp.out (by rw [HPB2.out, if_neg v1, if_neg v2, if_neg v3, if_neg v4, if_pos (.inl v5)]; decide), HPB2.out, if_neg v1, if_neg v2, if_neg v3, if_neg v4, if_pos (.inl v5)]
        subst er
        have v5' : (x4.toList == x2.toList) = true := by rw [v5]; simp
        clear HPB2 HRp HE3 HRet HNx HR2 HLf HP HCs v1 v2 v3 v4 v5
        go_wp2
        go_ret
        exact ⟨rfl, HBwa.out⟩
      have v5' := ch_ne v5
      by_cases v6 : x4 = x3
      · have er : res = 8 := by rw [HRp.out (by rw [HPB2.out, if_neg v1, if_neg v2, if_neg v3, if_neg v4, if_pos (.inr v6)]; decide), HPB2.out, if_neg v1, if_neg v2, if_neg v3, if_neg v4, if_pos (.inr v6)]
        subst er
        have v6' : (x4.toList == x3.toList) = true := by rw [v6]; simp
        clear HPB2 HRp HE3 HRet HNx HR2 HLf HP HCs v1 v2 v3 v4 v5 v6
        go_wp2
        go_ret
        exact ⟨rfl, HBwa.out⟩
      have v6' := ch_ne v6
      have e0 : pb = 0 := by rw [HPB2.out, if_neg v1, if_neg v2, if_neg v3, if_neg v4, if_neg (by rintro (hh | hh); exact v5 hh; exact v6 hh)]
      have HE4 : Hid (ab = if (l.take k).any (clP ⟨x0, x1, x2, x3, x4⟩) = true then 8 else 0) := HE3.out e0
      obtain ⟨P0, hP0⟩ : ∃ P0, wr.heap.size = P0 := ⟨_, rfl⟩
      rw [hP0] at f0 f1 f2 f3 f4 HP ⊢
      clear HPB2 HRp HE3 HLf v1 v2 v3 v4 v5 v6 e0 hP0
      obtain ⟨wo, hwo⟩ : ∃ wo, wo = wr := ⟨_, rfl⟩
      subst hwo
      go_wp2
      clear f0 f1 f2 f3 f4
      go_loopw [10] (fun i wr => ∃ m : Nat, m ≤ k ∧ i = .int .i64 m ∧ Hid ((l.take m).any (clP ⟨x0, x1, x2, x3, x4⟩) = false) ∧ Hid (Below wa.heap.size wa wr)) (fun i _ => k - (RowKit.intOf i).toNat)
      case atStart => exact ⟨0, Nat.zero_le _, rfl, rfl, Below.refl _ _⟩
      case round =>
        obtain ⟨m, hm, rfl, Hno, HM⟩ := hrel
        by_cases hmk : m < k
        · have hy := HCs.out m wr (by omega) (HP.out wr HM.out).2
          have HHit : Hid (clP ⟨x0, x1, x2, x3, x4⟩ (l.getD m pr0) = true → res = 8) := fun h => HRet.out 8 (by decide) (by rw [HE4.out, clP_hit hmk hk h, if_pos rfl])
          have HMis : Hid (clP ⟨x0, x1, x2, x3, x4⟩ (l.getD m pr0) = false → (l.take (m + 1)).any (clP ⟨x0, x1, x2, x3, x4⟩) = false) := fun h => clP_take (by omega) Hno.out h
          generalize l.getD m pr0 = q at *
          obtain ⟨wb, hwb⟩ : ∃ wb, wr.alloc (.cells q.cells 50) = wb := ⟨_, rfl⟩
          have b12 : Below wr.heap.size wr wb := by rw [← hwb]; exact (Below.refl _ wr).alloc (Nat.le_refl _) _
          have HMb : Hid (Below wa.heap.size wa wb) := HM.out.trans (b12.mono HM.out.size)
          have hq : PrAt wb wr.heap.size 0 q := by rw [← hwb]; exact PrAt.new wr q 50
          have hp := (HP.out wb HMb.out).1
          have HBwb : Hid (Below w.heap.size w wb) := (HP.out wb HMb.out).2
          have HWb : Hid (wr.alloc (.cells q.cells 50) = wb) := hwb
          have hcl : ∃ a1 a2 a3 a4 a5 a6 a7 a8, decide (x0 = q.ea) = a1 ∧ decide (x2 = q.one) = a2 ∧ decide (x0 = q.eb) = a3 ∧ decide (x2 = q.oth) = a4 ∧ decide (x1 = q.ea) = a5 ∧ decide (x3 = q.one) = a6 ∧ decide (x1 = q.eb) = a7 ∧ decide (x3 = q.oth) = a8 := ⟨_, _, _, _, _, _, _, _, rfl, rfl, rfl, rfl, rfl, rfl, rfl, rfl⟩
          obtain ⟨a1, a2', a3, a4, a5, a6, a7, a8, ha1, ha2, ha3, ha4, ha5, ha6, ha7, ha8⟩ := hcl
          have hcv : clP ⟨x0, x1, x2, x3, x4⟩ q = clB a1 a2' a3 a4 a5 a6 a7 a8 := by unfold clP; rw [ha1, ha2, ha3, ha4, ha5, ha6, ha7, ha8]
          rw [hcv] at HHit HMis
          rw [← int_dec] at ha1 ha3 ha5 ha7
          rw [← txt_dec] at ha2 ha4 ha6 ha8
          clear hwb b12 hcv
          obtain ⟨y0, y1, y2, y3, y4⟩ := q
          obtain ⟨d0, d1, d2, d3, d4⟩ := hy
          obtain ⟨g0, g1, g2, g3, g4⟩ := hq
          obtain ⟨f0, f1, f2, f3, f4⟩ := hp
          simp only [Pr.cells, Nat.zero_add] at d0 d1 d2 d3 d4 g0 g1 g2 g3 g4 f0 f1 f2 f3 f4 HWb ha1 ha2 ha3 ha4 ha5 ha6 ha7 ha8
          have m0 : (0 : Int) ≤ m := by omega
          have m1 : (m : Int) < k := by omega
          have m2 : (m : Int) < l.length := by omega
          go_upto_region 29 with fail
          rw [HWb.out]
          clear HWb d0 d1 d2 d3 d4 Hno
          obtain ⟨P1, hP1⟩ : ∃ P1, wr.heap.size = P1 := ⟨_, rfl⟩
          rw [hP1] at g0 g1 g2 g3 g4 ⊢
          clear hP1
          go_cut [140] from 78 to 140 (fun t wx => t = .bool (clB a1 a2' a3 a4 a5 a6 a7 a8) ∧ wx = wb)
          case first =>
            as_aux_lemma =>
              cases a1
              · cases a3
                · cases a5
                  · cases a7
                    · go_wp2
                      go_meet
                      case rel => exact ⟨rfl, rfl⟩
                    · cases a8
                      · go_wp2
                        go_meet
                        case rel => exact ⟨rfl, rfl⟩
                      · go_wp2
                        go_meet
                        case rel => exact ⟨rfl, rfl⟩
                  · cases a6
                    · cases a7
                      · go_wp2
                        go_meet
                        case rel => exact ⟨rfl, rfl⟩
                      · cases a8
                        · go_wp2
                          go_meet
                          case rel => exact ⟨rfl, rfl⟩
                        · go_wp2
                          go_meet
                          case rel => exact ⟨rfl, rfl⟩
                    · go_wp2
                      go_meet
                      case rel => exact ⟨rfl, rfl⟩
                · cases a4
                  · cases a5
                    · cases a7
                      · go_wp2
                        go_meet
                        case rel => exact ⟨rfl, rfl⟩
                      · cases a8
                        · go_wp2
                          go_meet
                          case rel => exact ⟨rfl, rfl⟩
                        · go_wp2
                          go_meet
                          case rel => exact ⟨rfl, rfl⟩
                    · cases a6
                      · cases a7
                        · go_wp2
                          go_meet
                          case rel => exact ⟨rfl, rfl⟩
                        · cases a8
                          · go_wp2
                            go_meet
                            case rel => exact ⟨rfl, rfl⟩
                          · go_wp2
                            go_meet
                            case rel => exact ⟨rfl, rfl⟩
                      · go_wp2
                        go_meet
                        case rel => exact ⟨rfl, rfl⟩
                  · go_wp2
                    go_meet
                    case rel => exact ⟨rfl, rfl⟩
              · cases a2'
                · cases a3
                  · cases a5
                    · cases a7
                      · go_wp2
                        go_meet
                        case rel => exact ⟨rfl, rfl⟩
                      · cases a8
                        · go_wp2
                          go_meet
                          case rel => exact ⟨rfl, rfl⟩
                        · go_wp2
                          go_meet
                          case rel => exact ⟨rfl, rfl⟩
                    · cases a6
                      · cases a7
                        · go_wp2
                          go_meet
                          case rel => exact ⟨rfl, rfl⟩
                        · cases a8
                          · go_wp2
                            go_meet
                            case rel => exact ⟨rfl, rfl⟩
                          · go_wp2
                            go_meet
                            case rel => exact ⟨rfl, rfl⟩
                      · go_wp2
                        go_meet
                        case rel => exact ⟨rfl, rfl⟩
                  · cases a4
                    · cases a5
                      · cases a7
                        · go_wp2
                          go_meet
                          case rel => exact ⟨rfl, rfl⟩
                        · cases a8
                          · go_wp2
                            go_meet
                            case rel => exact ⟨rfl, rfl⟩
                          · go_wp2
                            go_meet
                            case rel => exact ⟨rfl, rfl⟩
                      · cases a6
                        · cases a7
                          · go_wp2
                            go_meet
                            case rel => exact ⟨rfl, rfl⟩
                          · cases a8
                            · go_wp2
                              go_meet
                              case rel => exact ⟨rfl, rfl⟩
                            · go_wp2
                              go_meet
                              case rel => exact ⟨rfl, rfl⟩
                        · go_wp2
                          go_meet
                          case rel => exact ⟨rfl, rfl⟩
                    · go_wp2
                      go_meet
                      case rel => exact ⟨rfl, rfl⟩
                · go_wp2
                  go_meet
                  case rel => exact ⟨rfl, rfl⟩
          case rest =>
            obtain ⟨rfl, rfl⟩ := hcut
            clear ha1 ha2 ha3 ha4 ha5 ha6 ha7 ha8 g0 g1 g2 g3 g4 f0 f1 f2 f3 f4
            cases hz : clB a1 a2' a3 a4 a5 a6 a7 a8
            · have HM2 : Hid ((l.take (m + 1)).any (clP ⟨x0, x1, x2, x3, x4⟩) = false) := HMis.out hz
              clear HHit HMis hz
              go_wp2
              go_roundw
              case rel => exact ⟨m + 1, by omega, by go_num, HM2, HMb⟩
              case measure => simp [RowKit.intOf]; omega
            · have er := HHit.out hz
              subst er
              clear HHit HMis hz HRet HNx HR2 HE4 HP HCs
              go_wp2
              go_ret
              exact ⟨rfl, HBwb.out⟩
        · obtain rfl : m = k := by omega
          have HN2 : Hid (firstTo (prAtBad c l) (m + 1) = 0) := HNx.out (by rw [HE4.out, Hno.out, if_neg (by decide)])
          have HBr : Hid (Below w.heap.size w wr) := (HP.out wr HM.out).2
          have q1 : ¬ (m : Int) < m := by omega
          clear Hno HM HP HCs
          go_wp2
          go_roundw
          case rel => exact ⟨m + 1, by omega, by go_num, HN2, HBr⟩
          case measure => simp [RowKit.intOf]; omega
    · obtain rfl : k = l.length := by omega
      have er : res = 0 := by rw [← HR2.out, H0.out]
      subst er
      have j1 : ¬ (l.length : Int) < l.length := by omega
      clear HR2
      go_wp2
      go_ret
      exact ⟨rfl, HB.out⟩
end Go.Proofs.YtagimpmefodaeaaGreatDoor

namespace Go.Proofs.YtagimpmefodaeaaGreatDoor.Big
set_option linter.unusedVariables false

/-- The number of some words. -/
def val : List Nat → Nat
  | [] => 0
  | x :: t => x + 4294967296 * val t

/-- How many words are left without the noughts at the end. -/
def tl (l : List Nat) : Nat → Nat
  | 0 => 0
  | n + 1 => if l.getD n 0 = 0 then tl l n else n + 1

/-- Each is a word. -/
def Ok (l : List Nat) : Prop := ∀ i, i < l.length → l.getD i 0 < 4294967296
/-- No nought at the end. -/
def Nrm (l : List Nat) : Prop := l.length = 0 ∨ l.getD (l.length - 1) 0 ≠ 0

theorem tl_zero (l : List Nat) (n : Nat) (h : l.getD n 0 = 0) : tl l (n + 1) = tl l n := by rw [tl, if_pos h]
theorem tl_pos (l : List Nat) (n : Nat) (h : l.getD n 0 ≠ 0) : tl l (n + 1) = n + 1 := by rw [tl, if_neg h]

theorem val_append (a b : List Nat) : val (a ++ b) = val a + 4294967296 ^ a.length * val b := by
  induction a with
  | nil => simp [val]
  | cons x t ih =>
    simp only [List.cons_append, val, ih, List.length_cons, Nat.pow_succ]
    rw [Nat.mul_add, ← Nat.mul_assoc, Nat.mul_comm 4294967296 (4294967296 ^ t.length), Nat.add_assoc]

theorem take_snoc (l : List Nat) (k : Nat) (h : k < l.length) : l.take (k + 1) = l.take k ++ [l.getD k 0] := by
  rw [List.take_succ_eq_append_getElem h]
  simp [h]

theorem val_take_succ (l : List Nat) (k : Nat) (h : k < l.length) : val (l.take (k + 1)) = val (l.take k) + 4294967296 ^ k * l.getD k 0 := by
  rw [take_snoc l k h, val_append]
  simp [val, Nat.min_eq_left (Nat.le_of_lt h)]

theorem tl_le (l : List Nat) (n : Nat) : tl l n ≤ n := by
  induction n with
  | zero => simp [tl]
  | succ n ih => unfold tl; split <;> omega

theorem val_tl (l : List Nat) (n : Nat) (h : n ≤ l.length) : val (l.take (tl l n)) = val (l.take n) := by
  induction n with
  | zero => simp [tl]
  | succ n ih =>
    unfold tl
    split
    · rename_i h0
      rw [ih (by omega), val_take_succ l n (by omega), h0]
      simp
    · rfl

theorem getD_take (l : List Nat) (n i : Nat) (h : i < n) : (l.take n).getD i 0 = l.getD i 0 := by
  simp [List.getD, h]

theorem ok_take {l : List Nat} (h : Ok l) (n : Nat) : Ok (l.take n) := by
  intro i hi
  have h1 : i < n := by simp at hi; omega
  have h2 : i < l.length := by simp at hi; omega
  rw [getD_take l n i h1]
  exact h i h2

theorem nrm_tl (l : List Nat) (n : Nat) (h : n ≤ l.length) : Nrm (l.take (tl l n)) := by
  induction n with
  | zero => exact .inl (by simp [tl])
  | succ n ih =>
    unfold tl
    split
    · exact ih (by omega)
    · rename_i h0
      right
      have e : (l.take (n + 1)).length = n + 1 := by simp; omega
      rw [e, Nat.add_sub_cancel, getD_take l (n + 1) n (by omega)]
      exact h0

theorem val_lt {l : List Nat} (h : Ok l) : val l < 4294967296 ^ l.length := by
  induction l with
  | nil => simp [val]
  | cons x t ih =>
    have hx : x < 4294967296 := by simpa using h 0 (by simp)
    have ht : Ok t := fun i hi => by simpa using h (i + 1) (by simp; omega)
    have := ih ht
    simp only [val, List.length_cons, Nat.pow_succ]
    omega

theorem val_ge {l : List Nat} (h : Nrm l) (hn : 0 < l.length) : 4294967296 ^ (l.length - 1) ≤ val l := by
  have h0 : l.getD (l.length - 1) 0 ≠ 0 := by
    rcases h with h | h
    · omega
    · exact h
  have e := val_take_succ l (l.length - 1) (by omega)
  rw [Nat.sub_add_cancel hn, List.take_length] at e
  rw [e]
  have h1 : 4294967296 ^ (l.length - 1) * 1 ≤ 4294967296 ^ (l.length - 1) * l.getD (l.length - 1) 0 := Nat.mul_le_mul_left _ (by omega)
  omega

theorem val_zero {l : List Nat} (h : Nrm l) : val l = 0 ↔ l = [] := by
  constructor
  · intro e
    rcases Nat.eq_zero_or_pos l.length with h0 | h0
    · exact List.eq_nil_of_length_eq_zero h0
    · have := val_ge h h0
      have := Nat.pow_pos (n := l.length - 1) (by omega : 0 < 4294967296)
      omega
  · rintro rfl; rfl

theorem take_set_lt (r : List Nat) (k d : Nat) : (r.set k d).take k = r.take k := by
  rw [List.take_set, List.set_eq_of_length_le (by simp; omega)]
theorem getD_set_same (r : List Nat) (k d : Nat) (h : k < r.length) : (r.set k d).getD k 0 = d := by simp [List.getD, h]
theorem val_set (r : List Nat) (k d : Nat) (h : k < r.length) : val ((r.set k d).take (k + 1)) = val (r.take k) + 4294967296 ^ k * d := by
  rw [val_take_succ _ k (by simpa using h), take_set_lt, getD_set_same r k d h]
theorem ok_set {r : List Nat} (h : Ok r) (k d : Nat) (hd : d < 4294967296) : Ok (r.set k d) := by
  intro i hi
  rw [List.length_set] at hi
  rcases Nat.decEq i k with hne | rfl
  · have := h i hi
    simp only [List.getD, List.getElem?_set_ne (fun e => hne e.symm)] at this ⊢
    exact this
  · rw [getD_set_same r i d hi]; exact hd
theorem ok_replicate (n : Nat) : Ok (List.replicate n 0) := by
  intro i hi
  simp at hi
  simp [List.getD, hi]
/-- A list beyond its end. -/
theorem take_getD (l : List Nat) (k : Nat) : val (l.take (k + 1)) = val (l.take k) + 4294967296 ^ k * l.getD k 0 := by
  rcases Nat.lt_or_ge k l.length with h | h
  · exact val_take_succ l k h
  · rw [List.take_of_length_le (by omega), List.take_of_length_le h]
    simp [List.getD, List.getElem?_eq_none h]

theorem split_word (c : Nat) : 4294967296 * (c / 4294967296) + c % 4294967296 = c := Nat.div_add_mod c 4294967296

/-- A round of the sum of two. -/
theorem add_step (a b r : List Nat) (k c : Nat) (hk : k < r.length) (h : val (r.take k) + 4294967296 ^ k * c = val (a.take k) + val (b.take k)) :
    val ((r.set k ((c + a.getD k 0 + b.getD k 0) % 4294967296)).take (k + 1)) + 4294967296 ^ (k + 1) * ((c + a.getD k 0 + b.getD k 0) / 4294967296) = val (a.take (k + 1)) + val (b.take (k + 1)) := by
  rw [val_set r k _ hk, take_getD a k, take_getD b k, Nat.pow_succ, Nat.mul_assoc, Nat.add_assoc, ← Nat.mul_add, Nat.add_comm (_ % _), split_word]
  rw [Nat.mul_add, Nat.mul_add]
  omega

/-- A round of the difference of two. -/
theorem sub_step (a b r : List Nat) (k c t c' : Nat) (hk : k < r.length) (h : val (r.take k) + val (b.take k) = val (a.take k) + 4294967296 ^ k * c) (ht : c' * 4294967296 + a.getD k 0 = t + c + b.getD k 0) :
    val ((r.set k t).take (k + 1)) + val (b.take (k + 1)) = val (a.take (k + 1)) + 4294967296 ^ (k + 1) * c' := by
  rw [val_set r k _ hk, take_getD a k, take_getD b k, Nat.pow_succ, Nat.mul_assoc]
  have e : 4294967296 ^ k * (c' * 4294967296 + a.getD k 0) = 4294967296 ^ k * (t + c + b.getD k 0) := by rw [ht]
  rw [Nat.mul_add, Nat.mul_add, Nat.mul_add] at e
  rw [Nat.mul_comm 4294967296 c']
  omega

/-- The longer of two is the greater. -/
theorem len_le {a b : List Nat} (ha : Ok a) (hb : Nrm b) (h : val b ≤ val a) : b.length ≤ a.length := by
  rcases Nat.eq_zero_or_pos b.length with h0 | h0
  · omega
  · apply Classical.byContradiction
    intro hn
    have h1 := val_lt ha
    have h2 := val_ge hb h0
    have h3 : 4294967296 ^ a.length ≤ 4294967296 ^ (b.length - 1) := Nat.pow_le_pow_right (by omega) (by omega)
    omega
theorem len_lt {a b : List Nat} (ha : Ok a) (hb : Nrm b) (h : a.length < b.length) : val a < val b := by
  apply Classical.byContradiction
  intro hn
  have := len_le ha hb (by omega)
  omega

/-- Two of one length, the same from word k on, differ as their first words do. -/
theorem top_lt {a b : List Nat} (ha : Ok a) (j : Nat) (h1 : j < a.length) (h2 : j < b.length) (hlen : a.length = b.length) (hs : a.drop (j + 1) = b.drop (j + 1)) (hlt : a.getD j 0 < b.getD j 0) : val a < val b := by
  have e1 : val a = val (a.take (j + 1)) + 4294967296 ^ (j + 1) * val (a.drop (j + 1)) := by
    have := val_append (a.take (j + 1)) (a.drop (j + 1))
    rw [List.take_append_drop] at this
    rw [this]; simp [Nat.min_eq_left h1]
  have e2 : val b = val (b.take (j + 1)) + 4294967296 ^ (j + 1) * val (b.drop (j + 1)) := by
    have := val_append (b.take (j + 1)) (b.drop (j + 1))
    rw [List.take_append_drop] at this
    rw [this]; simp [Nat.min_eq_left h2]
  rw [e1, e2, hs, val_take_succ a j h1, val_take_succ b j h2]
  have h3 := val_lt (ok_take ha j)
  rw [List.length_take, Nat.min_eq_left (Nat.le_of_lt h1)] at h3
  have h4 : 4294967296 ^ j * (a.getD j 0 + 1) ≤ 4294967296 ^ j * b.getD j 0 := Nat.mul_le_mul_left _ hlt
  rw [Nat.mul_add, Nat.mul_one] at h4
  omega
end Go.Proofs.YtagimpmefodaeaaGreatDoor.Big

namespace Go.Proofs.YtagimpmefodaeaaGreatDoor
set_option linter.unusedVariables false
open Go.RowKit Big

/-- A list of words in memory. -/
structure Wd (w : World) (v : Value) (l : List Nat) : Prop where
  ok : Ok l
  len : l.length ≤ 140737488355328
  at_ : (l = [] ∧ ∃ a cap, v = .slice a 0 cap) ∨ (0 < l.length ∧ ∃ b off cap, v = .slice (some ⟨b, off, none⟩) l.length cap ∧ b < w.heap.size ∧ l.length ≤ cap ∧ ∀ i, i < l.length → w.cell? ⟨b, off + i, none⟩ = some (.int .u32 (l.getD i 0 : Nat)))

/-- Words stay where nothing but a block that is not theirs is written. -/
theorem Wd.keep {w w' : World} {v : Value} {l : List Nat} {row : Option Nat} (h : Wd w v l) (hg : w.grownBy w' row) (hr : ∀ b off n cap, v = .slice (some ⟨b, off, none⟩) n cap → some b ≠ row) : Wd w' v l := by
  refine ⟨h.ok, h.len, ?_⟩
  rcases h.at_ with ⟨h0, a, cap, hv⟩ | ⟨h0, b, off, cap, hv, hb, hcap, hc⟩
  · exact .inl ⟨h0, a, cap, hv⟩
  · exact .inr ⟨h0, b, off, cap, hv, Nat.lt_of_lt_of_le hb hg.size, hcap, fun i hi => hg.cell (hc i hi) (hr b off _ cap hv)⟩

theorem Wd.grow {w w' : World} {v : Value} {l : List Nat} (h : Wd w v l) (hg : w.grownBy w' none) : Wd w' v l := h.keep hg (fun _ _ _ _ _ => by simp)

theorem wd_nil (w : World) (a : Option Addr) (cap : Nat) : Wd w (.slice a 0 cap) [] := ⟨fun i hi => by simp at hi, by simp, .inl ⟨rfl, a, cap, rfl⟩⟩
theorem wd_take {w : World} {b off n cap : Nat} {l : List Nat} (h : Wd w (.slice (some ⟨b, off, none⟩) n cap) l) (k : Nat) (hk : k ≤ l.length) : Wd w (.slice (some ⟨b, off, none⟩) k cap) (l.take k) := by
  rcases Nat.eq_zero_or_pos k with rfl | hp
  · exact wd_nil w _ _
  · have e : (l.take k).length = k := by simp; omega
    refine ⟨ok_take h.ok k, by rw [e]; have := h.len; omega, .inr ?_⟩
    rcases h.at_ with ⟨h0, a, cap', hv⟩ | ⟨h0, b', off', cap', hv, hb, hcap, hc⟩
    · subst h0; simp at hk; omega
    · cases hv
      refine ⟨by omega, b, off, cap, by rw [e], hb, by omega, fun i hi => ?_⟩
      rw [e] at hi
      rw [getD_take l k i hi]
      exact hc i (by omega)

set_option maxHeartbeats 1000000 in
theorem trim_any (v : Value) (l : List Nat) (w : World) (h : Wd w v l) :
    Calls Tryz.prog 108 #[v] w fun e w' => (∃ v', e = .returned v' ∧ Wd w v' (l.take (tl l l.length))) ∧ w' = w := by
  have hlen := h.len
  rcases h.at_ with ⟨h0, a, cap, hv⟩ | ⟨h0, b, off, cap, hv, hb, hcap, hc⟩
  · subst h0; subst hv
    go_enter Tryz.func108, Tryz.ntmps108
    go_wp2
    refine wp_loop_rounds 1 ?_
    rw [rounds_succ]
    cases a with
    | none =>
      go_wp2
      go_ret
      exact ⟨⟨_, rfl, wd_nil _ _ _⟩, rfl⟩
    | some a =>
      go_wp2
      go_ret
      exact ⟨⟨_, rfl, wd_nil _ _ _⟩, rfl⟩
  · subst hv
    have Hc : Hid (∀ i, i < l.length → w.cell? ⟨b, off + i, none⟩ = some (.int .u32 (l.getD i 0 : Nat))) := hc
    have Ho : Hid (Ok l) := h.ok
    have Hr : Hid (Wd w (.slice (some ⟨b, off, none⟩) l.length cap) l) := h
    clear hc h
    go_enter Tryz.func108, Tryz.ntmps108
    go_wp2
    go_loop [3] (fun n => ∃ k : Nat, k ≤ l.length ∧ n = .int .i64 k ∧ Hid (tl l k = tl l l.length)) (fun n => (RowKit.intOf n).toNat)
    case atStart => exact ⟨l.length, Nat.le_refl _, rfl, rfl⟩
    case round =>
      obtain ⟨k, hk, rfl, Hk⟩ := hrel
      cases k with
      | zero =>
        go_wp2
        go_ret
        refine ⟨⟨_, rfl, ?_⟩, rfl⟩
        rw [← Hk.out]
        exact wd_take Hr.out 0 (by omega)
      | succ j =>
        have hcj := Hc.out j (by omega)
        by_cases hz : l.getD j 0 = 0
        · rw [hz] at hcj
          have Hk2 : Hid (tl l j = tl l l.length) := by
            have := Hk.out; rw [tl_zero l j hz] at this; exact this
          clear Hk hz
          go_wp2
          go_round
          case rel => exact ⟨j, by omega, by go_num, Hk2⟩
          case measure => simp [RowKit.intOf]
        · have hb1 := Ho.out j (by omega)
          have Hk2 : Hid (j + 1 = tl l l.length) := by
            have := Hk.out; rw [tl_pos l j hz] at this; exact this
          generalize l.getD j 0 = x at *
          have hx : ((x : Int) == 0) = false := by simp; omega
          go_wp2
          go_ret
          refine ⟨⟨_, rfl, ?_⟩, rfl⟩
          rw [← Hk2.out]
          exact wd_take Hr.out (j + 1) hk
end Go.Proofs.YtagimpmefodaeaaGreatDoor

namespace Go.Proofs.YtagimpmefodaeaaGreatDoor
set_option linter.unusedVariables false
open Go.RowKit Big

/-- A number with its sign. -/
def sg (neg : Bool) (n : Nat) : Int := if neg then -(n : Int) else n

/-- A whole number of any size stands in block p. -/
structure IsBig (w : World) (p : Nat) (neg : Bool) (v : Value) (l : List Nat) : Prop where
  blk : w.heap[p]? = some (.cells #[.bool neg, v] 132 (0, 0))
  wd : Wd w v l
  nrm : Nrm l
  sgn : neg = true → 0 < l.length

theorem blk_lt {w : World} {p : Nat} {o : Obj} (h : w.heap[p]? = some o) : p < w.heap.size := by
  rcases Nat.lt_or_ge p w.heap.size with h1 | h1
  · exact h1
  · rw [Array.getElem?_eq_none h1] at h; cases h
theorem blk_cell0 {w : World} {p : Nat} {c0 c1 : Value} {t : TypeId} (h : w.heap[p]? = some (.cells #[c0, c1] t (0, 0))) : w.cell? ⟨p, 0, none⟩ = some c0 := by simp [World.cell?, h]
theorem blk_cell1 {w : World} {p : Nat} {c0 c1 : Value} {t : TypeId} (h : w.heap[p]? = some (.cells #[c0, c1] t (0, 0))) : w.cell? ⟨p, 1, none⟩ = some c1 := by simp [World.cell?, h]
theorem blk_frozen {w : World} {p i : Nat} {c : Array Value} {t : TypeId} (h : w.heap[p]? = some (.cells c t (0, 0))) : w.frozen? ⟨p, i, none⟩ = false := by simp [World.frozen?, h]

/-- The words of a list stand in no block of another kind. -/
theorem Wd.apart {w : World} {v : Value} {l : List Nat} (h : Wd w v l) {p : Nat} {neg : Bool} {u : Value} {t : TypeId} (hp : w.heap[p]? = some (.cells #[.bool neg, u] t (0, 0))) (hu : ∀ k n, u ≠ .int k n) :
    ∀ b off n cap, v = .slice (some ⟨b, off, none⟩) n cap → 0 < l.length → b ≠ p := by
  rintro b off n cap rfl h0 rfl
  rcases h.at_ with ⟨h1, _⟩ | ⟨h1, b', off', cap', hv, hb, hcap, hc⟩
  · subst h1; simp at h0
  · cases hv
    have h2 := hc 0 h1
    simp only [World.cell?, hp] at h2
    match off, h2 with
    | 0, h2 => simp at h2
    | 1, h2 => simp at h2; exact hu _ _ h2
    | n + 2, h2 => simp at h2

theorem Wd.keepP {w w' : World} {v : Value} {l : List Nat} (h : Wd w v l) {p : Nat} {neg : Bool} {u : Value} {t : TypeId} (hp : w.heap[p]? = some (.cells #[.bool neg, u] t (0, 0))) (hu : ∀ k n, u ≠ .int k n) (hg : w.grownBy w' (some p)) : Wd w' v l := by
  rcases Nat.eq_zero_or_pos l.length with h0 | h0
  · refine ⟨h.ok, h.len, ?_⟩
    rcases h.at_ with ⟨h1, a, cap, hv⟩ | ⟨h1, _⟩
    · exact .inl ⟨h1, a, cap, hv⟩
    · omega
  · exact h.keep hg (fun b off n cap hv => by have := h.apart hp hu b off n cap hv h0; simpa using this)

theorem Wd.noInt {w : World} {v : Value} {l : List Nat} (h : Wd w v l) : ∀ k n, v ≠ .int k n := by
  rintro k n rfl
  rcases h.at_ with ⟨_, _, _, hv⟩ | ⟨_, _, _, _, hv, _⟩ <;> cases hv

theorem Wd.slice {w : World} {v : Value} {l : List Nat} (h : Wd w v l) : ∃ a cap, v = .slice a l.length cap := by
  rcases h.at_ with ⟨h0, a, cap, hv⟩ | ⟨h0, b, off, cap, hv, _⟩
  · subst h0; exact ⟨a, cap, hv⟩
  · exact ⟨_, cap, hv⟩

theorem give_any (p : Nat) (neg n0 : Bool) (u v : Value) (l : List Nat) (w : World) (hp : w.heap[p]? = some (.cells #[.bool n0, u] 132 (0, 0))) (hu : ∀ k n, u ≠ .int k n) (hv : Wd w v l) (hn : Nrm l) :
    Calls Tryz.prog 72 #[.pointer (some ⟨p, 0, none⟩), .bool neg, v] w fun e w' => e = .returned (.pointer (some ⟨p, 0, none⟩)) ∧ IsBig w' p (neg && decide (0 < l.length)) v l ∧ w.grownBy w' (some p) := by
  obtain ⟨a, cap, rfl⟩ := hv.slice
  have c0 := blk_cell0 hp
  have c1 := blk_cell1 hp
  have f0 := blk_frozen (i := 0) hp
  have f1 := blk_frozen (i := 1) hp
  have hlt := blk_lt hp
  have key : ∀ b : Bool, ((w.setCell ⟨p, 1, none⟩ (.slice a l.length cap)).setCell ⟨p, 0, none⟩ (.bool b)).heap[p]? = some (.cells #[.bool b, .slice a l.length cap] 132 (0, 0)) := by
    intro b
    rw [heap_setCell_same _ p 0 #[.bool n0, .slice a l.length cap] 132 _ (by rw [heap_setCell_same _ p 1 _ _ _ hp]; rfl)]; rfl
  have grown : ∀ b : Bool, w.grownBy ((w.setCell ⟨p, 1, none⟩ (.slice a l.length cap)).setCell ⟨p, 0, none⟩ (.bool b)) (some p) := fun b =>
    ⟨rfl, rfl, rfl, by simp, fun k hk hne => by
      have hne : k ≠ p := fun e => hne (by rw [e])
      rw [heap_setCell_other _ _ _ _ hne, heap_setCell_other _ _ _ _ hne]⟩
  have fin : ∀ b : Bool, b = (neg && decide (0 < l.length)) → IsBig ((w.setCell ⟨p, 1, none⟩ (.slice a l.length cap)).setCell ⟨p, 0, none⟩ (.bool b)) p (neg && decide (0 < l.length)) (.slice a l.length cap) l := by
    rintro b rfl
    exact ⟨key _, hv.keepP hp hu (grown _), hn, by simp⟩
  have Fin : Hid (∀ b : Bool, b = (neg && decide (0 < l.length)) → IsBig ((w.setCell ⟨p, 1, none⟩ (.slice a l.length cap)).setCell ⟨p, 0, none⟩ (.bool b)) p (neg && decide (0 < l.length)) (.slice a l.length cap) l) := fin
  have Grown : Hid (∀ b : Bool, w.grownBy ((w.setCell ⟨p, 1, none⟩ (.slice a l.length cap)).setCell ⟨p, 0, none⟩ (.bool b)) (some p)) := grown
  clear key grown fin hp hu hv hn
  cases neg
  · go_enter Tryz.func72, Tryz.ntmps72
    go_wp2
    go_ret
    exact ⟨rfl, Fin.out _ rfl, Grown.out _⟩
  · go_enter Tryz.func72, Tryz.ntmps72
    go_wp2
    go_ret
    exact ⟨rfl, Fin.out _ (by simp), Grown.out _⟩
end Go.Proofs.YtagimpmefodaeaaGreatDoor

namespace Go.Proofs.YtagimpmefodaeaaGreatDoor
set_option linter.unusedVariables false
open Go.RowKit Big

theorem alloc_blk (w : World) (o : Obj) : (w.alloc o).heap[w.heap.size]? = some o := by
  show (w.heap.push o)[w.heap.size]? = some o
  exact Array.getElem?_push_size

theorem ret_val {a b : Value} (h : a = b) : Ending.returned a = .returned b := by rw [h]

theorem gtrans {a b c : World} {row : Option Nat} (h : a.grownBy b row) (k : b.grownBy c row) : a.grownBy c row :=
  ⟨k.os.trans h.os, k.tape.trans h.tape, k.output.trans h.output, Nat.le_trans h.size k.size, fun i hi hr => (k.block i (Nat.lt_of_lt_of_le hi h.size) hr).trans (h.block i hi hr)⟩
theorem gweak {a b : World} (h : a.grownBy b none) (row : Option Nat) : a.grownBy b row := ⟨h.os, h.tape, h.output, h.size, fun i hi _ => h.block i hi (by simp)⟩
theorem grefl (a : World) (row : Option Nat) : a.grownBy a row := ⟨rfl, rfl, rfl, Nat.le_refl _, fun _ _ _ => rfl⟩
theorem gnew {a b : World} {o : Obj} (h : (a.alloc o).grownBy b (some a.heap.size)) : a.grownBy b none :=
  ⟨h.os, h.tape, h.output, by have := h.size; simp at this; omega, fun i hi _ => by
    rw [h.block i (by simp; omega) (by simp; omega)]
    exact Below.heap_alloc a o i hi⟩
theorem gdrewN {a b : World} {row : Option Nat} (h : a.grownBy b row) (n : Nat) : a.grownBy (b.drewN n) row := ⟨h.os, h.tape, h.output, h.size, h.block⟩
theorem gbelow {a b : World} (h : a.grownBy b none) : Below a.heap.size a b := ⟨h.os, h.tape, h.output, h.size, fun k hk => h.block k hk (by simp)⟩
theorem belowg {a b : World} (h : Below a.heap.size a b) : a.grownBy b none := ⟨h.os, h.tape, h.output, h.size, fun k hk _ => h.block k hk⟩

/-- The number x stands in block p. -/
def BigIs (w : World) (p : Nat) (x : Int) : Prop := ∃ neg v l, IsBig w p neg v l ∧ sg neg (val l) = x

theorem words_any (x : Nat) (w : World) (hx : x < 18446744073709551616) :
    Calls Tryz.prog 107 #[.int .u64 x] w fun e w' => ∃ v l, e = .returned v ∧ Wd w' v l ∧ Nrm l ∧ val l = x ∧ w.grownBy w' none := by
  have e1 : IntKind.u32.wrap (x : Int) = ((x % 4294967296 : Nat) : Int) := by rw [IntKind.wrap_u32]; omega
  have e2 : (x : Int) / 4294967296 = ((x / 4294967296 : Nat) : Int) := by omega
  have hlo : x % 4294967296 < 4294967296 := Nat.mod_lt _ (by omega)
  have hhi : x / 4294967296 < 4294967296 := by omega
  have hs : x % 4294967296 + 4294967296 * (x / 4294967296) = x := Nat.mod_add_div x 4294967296
  generalize x % 4294967296 = lo at *
  generalize x / 4294967296 = hi at *
  have Hs : Hid (lo + 4294967296 * hi = x) := hs
  clear hs
  have hwd : Hid (∀ a : Nat, a = w.heap.size → Wd (w.alloc (.cells #[.int .u32 (lo : Int), .int .u32 (hi : Int)] 164)) (.slice (some ⟨a, 0, none⟩) 2 2) [lo, hi]) := by
    rintro a rfl
    refine ⟨?_, by simp, .inr ⟨by simp, w.heap.size, 0, 2, rfl, by simp, by simp, ?_⟩⟩
    · intro i hi'
      match i, hi' with
      | 0, _ => simpa using hlo
      | 1, _ => simpa using hhi
    · intro i hi'
      match i, hi' with
      | 0, _ => simp
      | 1, _ => simp
  go_enter Tryz.func107, Tryz.ntmps107
  go_wp2_with fail
  refine (trim_any _ [lo, hi] _ (hwd.out _ rfl)).mono ?_
  rintro e w' ⟨⟨v', rfl, hv⟩, hw⟩
  rw [hw]; clear hw w'
  have hn : Hid (Nrm ([lo, hi].take (tl [lo, hi] 2)) ∧ val ([lo, hi].take (tl [lo, hi] 2)) = x) := ⟨nrm_tl _ _ (by simp), by rw [val_tl _ _ (by simp)]; simp [val]; exact Hs.out⟩
  have Hv : Hid (Wd (w.alloc (.cells #[.int .u32 (lo : Int), .int .u32 (hi : Int)] 164)) v' ([lo, hi].take (tl [lo, hi] 2))) := hv
  clear hv hwd
  go_wp2
  go_ret
  exact ⟨v', _, rfl, Hv.out, hn.out.1, hn.out.2, World.grownBy_alloc _ _ _⟩

/-- The words that a number is made of, and give's two sides. -/
theorem setInt64_any (p : Nat) (x : Int) (n0 : Bool) (u : Value) (w : World) (hp : w.heap[p]? = some (.cells #[.bool n0, u] 132 (0, 0))) (hu : ∀ k n, u ≠ .int k n) (h1 : -9223372036854775808 ≤ x) (h2 : x ≤ 9223372036854775807) :
    Calls Tryz.prog 88 #[.pointer (some ⟨p, 0, none⟩), .int .i64 x] w fun e w' => e = .returned (.pointer (some ⟨p, 0, none⟩)) ∧ BigIs w' p x ∧ w.grownBy w' (some p) := by
  have Hp : Hid (w.heap[p]? = some (.cells #[.bool n0, u] 132 (0, 0))) := hp
  have Hu : Hid (∀ k n, u ≠ .int k n) := hu
  clear hp hu
  by_cases hx : x < 0
  · obtain ⟨m, rfl⟩ : ∃ m : Nat, x = -(m : Int) := ⟨(-x).toNat, by omega⟩
    have e1 : IntKind.u64.wrap (-IntKind.u64.wrap (-(m : Int))) = (m : Int) := by rw [IntKind.wrap_u64, IntKind.wrap_u64]; omega
    have hd : decide (-(m : Int) < 0) = true := by simpa using hx
    go_enter Tryz.func88, Tryz.ntmps88
    go_wp2_with fail
    refine (words_any m _ (by omega)).mono ?_
    rintro e w1 ⟨v, l, rfl, hv, hn, hval, hg⟩
    have Hv : Hid (Wd w1 v l) := hv
    have Hn : Hid (Nrm l) := hn
    have Hval : Hid (val l = m) := hval
    have Hg : Hid (w.grownBy w1 none) := hg
    clear hv hn hval hg
    go_wp2_with fail
    refine (give_any p true n0 u v l w1 ((Hg.out.block p (blk_lt Hp.out) (by simp)).trans Hp.out) Hu.out Hv.out Hn.out).mono ?_
    rintro e w2 ⟨rfl, hb, hg2⟩
    have R : Hid (BigIs w2 p (-(m : Int)) ∧ w.grownBy w2 (some p)) := by
      refine ⟨⟨_, v, l, hb, ?_⟩, gtrans (gweak Hg.out _) hg2⟩
      have hl : 0 < l.length := by
        rcases Nat.eq_zero_or_pos l.length with h0 | h0
        · have : l = [] := List.eq_nil_of_length_eq_zero h0
          have h3 := Hval.out
          rw [this] at h3
          simp only [val] at h3
          omega
        · exact h0
      simp only [hl, decide_true, Bool.and_true, sg, if_true, Hval.out]
    clear hb hg2
    go_wp2
    go_ret
    exact ⟨rfl, R.out.1, R.out.2⟩
  · have hd : decide (x < 0) = false := by simpa using hx
    have hx0 : 0 ≤ x := by omega
    obtain ⟨n, rfl⟩ := Int.eq_ofNat_of_zero_le hx0
    go_enter Tryz.func88, Tryz.ntmps88
    go_wp2_with fail
    refine (words_any n _ (by omega)).mono ?_
    rintro e w1 ⟨v, l, rfl, hv, hn, hval, hg⟩
    have Hv : Hid (Wd w1 v l) := hv
    have Hn : Hid (Nrm l) := hn
    have Hval : Hid (val l = n) := hval
    have Hg : Hid (w.grownBy w1 none) := hg
    clear hv hn hval hg
    go_wp2_with fail
    refine (give_any p false n0 u v l w1 ((Hg.out.block p (blk_lt Hp.out) (by simp)).trans Hp.out) Hu.out Hv.out Hn.out).mono ?_
    rintro e w2 ⟨rfl, hb, hg2⟩
    have R : Hid (BigIs w2 p (n : Int) ∧ w.grownBy w2 (some p)) := by
      refine ⟨⟨_, v, l, hb, ?_⟩, gtrans (gweak Hg.out _) hg2⟩
      simp [sg, Hval.out]
    clear hb hg2
    go_wp2
    go_ret
    exact ⟨rfl, R.out.1, R.out.2⟩

theorem newInt_any (x : Int) (w : World) (h1 : -9223372036854775808 ≤ x) (h2 : x ≤ 9223372036854775807) :
    Calls Tryz.prog 71 #[.int .i64 x] w fun e w' => e = .returned (.pointer (some ⟨w.heap.size, 0, none⟩)) ∧ BigIs w' w.heap.size x ∧ w.grownBy w' none := by
  go_enter Tryz.func71, Tryz.ntmps71
  go_wp2_with fail
  refine (setInt64_any w.heap.size x false (.slice none 0 0) _ (alloc_blk _ _) (by simp) h1 h2).mono ?_
  rintro e w1 ⟨rfl, hb, hg⟩
  have R : Hid (BigIs w1 w.heap.size x ∧ w.grownBy w1 none) := ⟨hb, gnew hg⟩
  clear hb hg
  go_wp2
  go_ret
  exact ⟨rfl, R.out.1, R.out.2⟩

theorem big_any (x : Int) (w : World) (h1 : -9223372036854775808 ≤ x) (h2 : x ≤ 9223372036854775807) :
    Calls Tryz.prog 48 #[.int .i64 x] w fun e w' => e = .returned (.pointer (some ⟨w.heap.size, 0, none⟩)) ∧ BigIs w' w.heap.size x ∧ w.grownBy w' none := by
  go_enter Tryz.func48, Tryz.ntmps48
  go_wp2_with fail
  refine (newInt_any x _ h1 h2).mono ?_
  rintro e w1 ⟨rfl, hb, hg⟩
  have R : Hid (BigIs w1 w.heap.size x ∧ w.grownBy w1 none) := ⟨hb, hg⟩
  clear hb hg
  go_wp2
  go_ret
  exact ⟨rfl, R.out.1, R.out.2⟩
end Go.Proofs.YtagimpmefodaeaaGreatDoor
