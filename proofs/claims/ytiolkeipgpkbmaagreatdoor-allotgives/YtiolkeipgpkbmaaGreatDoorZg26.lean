/-
  The contract of dayref2.When.
-/
import Derived.Test.YtiolkeipgpkbmaaGreatDoorZg25
import Derived.Test.YtiolkeipgpkbmaaGreatDoorZg20
import Derived.Test.YtiolkeipgpkbmaaGreatDoorZg15
import Derived.Test.YtiolkeipgpkbmaaGreatDoorZg24
import Derived.Test.YtiolkeipgpkbmaaGreatDoorZg22
namespace Go.Proofs.YtiolkeipgpkbmaaGreatDoor
set_option linter.unusedVariables false
set_option linter.unusedSimpArgs false
set_option maxRecDepth 100000
open Go.RowKit Go.Lib

theorem memE_iff {code : ByteArray} {l : List ByteArray} : memB code l = true ↔ code ∈ l := by
  unfold memB
  rw [List.any_eq_true]
  constructor
  · rintro ⟨x, hx, e⟩
    have := of_decide_eq_true e
    rw [← this]; exact hx
  · intro h
    exact ⟨code, h, by simp⟩
theorem leaf_mem {c : List Ac} {code : ByteArray} (h : ¬ idxP (hasCode code) c < 0) : memB code (lvs c) = decide (idxP (hasPar code) c < 0) := by
  rw [Bool.eq_iff_iff, memE_iff, decide_eq_true_eq]
  unfold lvs
  rw [List.mem_map]
  constructor
  · rintro ⟨a, ha, rfl⟩
    have := (List.mem_filter.1 ha).2
    unfold leafB at this
    exact of_decide_eq_true this
  · intro hp
    obtain ⟨j, hj, _, hj2, _⟩ := idxP_some (p := hasCode code) (l := c) (by omega)
    have hc : (c.getD j ac0).code = code := of_decide_eq_true hj2
    refine ⟨c.getD j ac0, List.mem_filter.2 ⟨?_, ?_⟩, hc⟩
    · rw [List.getD_eq_getElem?_getD, List.getElem?_eq_getElem hj]
      exact List.getElem_mem hj
    · unfold leafB
      rw [hc]
      exact decide_eq_true hp
/-- The same, by who is whose parent. -/
theorem leafBad_par (c : List Ac) (code : ByteArray) : leafBad c code = if idxP (hasCode code) c < 0 then 6 else if idxP (hasPar code) c < 0 then 0 else 12 := by
  unfold leafBad
  by_cases h1 : idxP (hasCode code) c < 0
  · rw [if_pos h1, if_pos h1]
  · rw [if_neg h1, if_neg h1, leaf_mem h1]
    by_cases h2 : idxP (hasPar code) c < 0
    · rw [decide_eq_true h2]; simp [h2]
    · rw [decide_eq_false h2]; simp [h2]

set_option maxHeartbeats 1000000 in
theorem refLeafE_any (a : Option Addr) (cap : Nat) (l : List Ac) (c : ByteArray) (w : World) (h : IsSl w a l cap) (hlen : l.length ≤ 60) :
    Calls Tryz.prog 14 #[.slice a l.length cap, .string c] w fun e w' => e = .returned (.int .i64 (leafBad l c)) ∧ w' = w := by
  have Hlen : (l.length : Int) ≤ 60 := by omega
  have HA := refAt_any a cap l c w (by omega) h
  by_cases h1 : idxP (hasCode c) l < 0
  · have er : leafBad l c = 6 := by rw [leafBad_par, if_pos h1]
    rw [er]
    generalize idxP (hasCode c) l = r at *
    have HHA : Hid (Calls _ _ _ _ _) := HA
    clear HA h er
    go_enter Tryz.func14, Tryz.ntmps14
    go_wp2_with (go_at_call 38; refine HHA.out.mono ?_; rintro e w' ⟨rfl, rfl⟩)
    go_ret
    exact ⟨rfl, rfl⟩
  obtain ⟨j, hj, ej, _, _⟩ := idxP_some (p := hasCode c) (l := l) (by omega)
  rw [ej] at HA
  rcases h.lies with h1' | ⟨b, off, rfl, hlt, hc⟩
  · rw [h1'] at hj; simp at hj
  have Hc : Hid (AcsAt w b off l) := hc
  obtain ⟨res, hres⟩ : ∃ res, leafBad l c = res := ⟨_, rfl⟩
  have Hres : Hid ((if decide (idxFrom (hasPar c) 0 (l.drop 0) < 0) = true then (0 : Int) else 12) = res) := by
    unfold Hid
    rw [← hres, leafBad_par, if_neg h1]
    by_cases h2 : idxP (hasPar c) l < 0
    · rw [if_pos h2]; exact if_pos (decide_eq_true h2)
    · rw [if_neg h2]; exact if_neg (by rw [decide_eq_true_eq]; exact h2)
  rw [hres]
  clear hres h hc h1 ej
  have i0 : (0 : Int) ≤ j := by omega
  have HHA : Hid (Calls _ _ _ _ _) := HA
  clear HA
  go_enter Tryz.func14, Tryz.ntmps14
  go_wp2_with (go_at_call 38; refine HHA.out.mono ?_; rintro e w' ⟨rfl, rfl⟩)
  go_loop [6] (fun s6 => ∃ k : Nat, k ≤ l.length ∧ s6 = .int .i64 k ∧ Hid ((if decide (idxFrom (hasPar c) k (l.drop k) < 0) = true then (0 : Int) else 12) = res)) (fun s6 => l.length - (RowKit.intOf s6).toNat)
  case atStart => exact ⟨0, Nat.zero_le _, rfl, Hres⟩
  case round =>
    obtain ⟨k, hk, rfl, H⟩ := hrel
    by_cases hlt2 : k < l.length
    · have hn := Hc.out k hlt2
      have E := H.out
      rw [acs_drop l k hlt2, idxFrom] at E
      clear H
      generalize l.getD k ac0 = x at *
      obtain ⟨x0, x1, x2, x3, x4⟩ := x
      obtain ⟨c0, c1, c2, c3, c4⟩ := hn
      simp only at c0 c1 c2 c3 c4
      have k0 : (0 : Int) ≤ k := by omega
      have k1 : (k : Int) < l.length := by omega
      by_cases hx : x3 = c
      · rw [if_pos (by simp [hasPar, hx] : hasPar c ⟨x0, x1, x2, x3, x4⟩ = true)] at E
        have er : res = 12 := by
          rw [← E, if_neg]
          simp
        subst er
        subst hx
        clear E
        go_wp2
        go_ret
        exact ⟨rfl, rfl⟩
      · have hx' := ch_ne hx
        rw [if_neg (by simp [hasPar, hx] : ¬ hasPar c ⟨x0, x1, x2, x3, x4⟩ = true)] at E
        have HN : Hid (_ = res) := E
        clear E
        go_wp2
        go_round
        case rel => exact ⟨k + 1, by omega, by go_num, HN⟩
        case measure => simp [RowKit.intOf]; omega
    · have hk2 : k = l.length := by omega
      subst hk2
      have er : res = 0 := by
        rw [← H.out, List.drop_length, if_pos]
        simp [idxFrom]
      subst er
      go_wp2
      go_ret
      exact ⟨rfl, rfl⟩
end Go.Proofs.YtiolkeipgpkbmaaGreatDoor

namespace Go.Proofs.YtiolkeipgpkbmaaGreatDoor
set_option linter.unusedVariables false
set_option linter.unusedSimpArgs false
set_option maxRecDepth 100000
open Go.RowKit Go.Lib

/-- Till where none is a text. -/
def noTo (l : List ByteArray) (t : ByteArray) (j : Nat) : Prop := ∀ i, i < j → l.getD i ByteArray.empty ≠ t
theorem mem_no {l : List ByteArray} {t : ByteArray} {k : Nat} (hk : k ≤ l.length) (h : noTo l t k) : memB t (l.take k) = false := by
  unfold memB
  rw [List.any_eq_false]
  intro x hx
  obtain ⟨i, hi, rfl⟩ := List.getElem_of_mem hx
  rw [List.length_take] at hi
  have := h i (by omega)
  rw [List.getD_eq_getElem?_getD, List.getElem?_eq_getElem (by omega)] at this
  simp only [List.getElem_take, decide_eq_true_eq]
  exact this
theorem mem_yes {l : List ByteArray} {t : ByteArray} {k j : Nat} (hk : k ≤ l.length) (hj : j < k) (h : l.getD j ByteArray.empty = t) : memB t (l.take k) = true := by
  unfold memB
  rw [List.any_eq_true]
  refine ⟨t, ?_, by simp⟩
  rw [← h, ← tx_take_getD l k j hj, List.getD_eq_getElem?_getD, List.getElem?_eq_getElem (by rw [List.length_take]; omega)]
  exact List.getElem_mem _

set_option maxHeartbeats 16000000 in
theorem refPools_any (a a2 : Option Addr) (cap cap2 : Nat) (c : List Ac) (l : List Po) (w : World) (h : IsSl w a c cap) (hok : ∀ k, k < c.length → (c.getD k ac0).code.size ≤ maxLen ∧ (c.getD k ac0).name.size ≤ maxLen) (hl : IsPs w a2 l cap2) (hll : l.length ≤ 9223372036854775807) :
    Calls Tryz.prog 6 #[.slice a c.length cap, .slice a2 l.length cap2] w fun e w' => e = .returned (.int .i64 (psBad c l)) ∧ Below w.heap.size w w' := by
  have HC : Hid (Calls _ _ _ _ _) := refChart_any a cap c w h hok
  by_cases c0 : chBad c ≠ 0
  · have e0 : psBad c l = chBad c := by unfold psBad; rw [if_pos c0]
    rw [e0]
    clear h hl e0
    generalize chBad c = z at *
    go_enter Tryz.func6, Tryz.ntmps6
    have c0' : (z == 0) = false := by rw [beq_eq_false_iff_ne]; exact c0
    go_wp2_with (go_at_call 13; refine HC.out.mono ?_; rintro e w1 ⟨rfl, hb1⟩)
    go_ret
    exact ⟨rfl, hb1⟩
  have c0' := Decidable.of_not_not c0
  have hlen := chBad_len c0'
  rw [c0'] at HC
  obtain ⟨res, hres⟩ : ∃ res, psBad c l = res := ⟨_, rfl⟩
  have HR1 : Hid ((if 20 < l.length then 4 else firstTo (fun k => poBad c (l.getD k po0)) l.length) = res) := by
    rw [← hres]; unfold psBad; rw [if_neg c0]; exact rfl
  rw [hres]
  have HL : Hid (IsPs w a2 l cap2) := hl
  have HSl : Hid (IsSl w a c cap) := h
  clear hres h hl c0 c0'
  go_enter Tryz.func6, Tryz.ntmps6
  go_wp2_with fail
  refine HC.out.mono ?_
  rintro e w1 ⟨rfl, hb1⟩
  have HB1 : Hid (Below w.heap.size w w1) := hb1
  clear hb1 HC
  by_cases c1 : 20 < l.length
  · have er : res = 4 := by rw [← HR1.out, if_pos c1]
    subst er
    have i1 : (20 : Int) < l.length := by omega
    clear HR1
    go_wp2
    go_ret
    exact ⟨rfl, HB1.out⟩
  have HR2 : Hid (firstTo (fun k => poBad c (l.getD k po0)) l.length = res) := by
    have := HR1.out; rw [if_neg c1] at this; exact this
  have i1 : ¬ (20 : Int) < l.length := by omega
  have i2 : (l.length : Int) ≤ 20 := by omega
  have i3 : l.length ≤ 20 := by omega
  clear HR1 c1 hll
  go_wp2
  go_loopw [5, 6] (fun _ i wr => ∃ k : Nat, k ≤ l.length ∧ i = .int .i64 k ∧ Hid (firstTo (fun k => poBad c (l.getD k po0)) k = 0) ∧ Hid (Below w.heap.size w wr)) (fun _ i _ => l.length - (RowKit.intOf i).toNat)
  case atStart => exact ⟨0, Nat.zero_le _, rfl, rfl, HB1⟩
  case round =>
    obtain ⟨k, hk, rfl, H0, HB⟩ := hrel
    by_cases hkn : k < l.length
    · obtain ⟨b, off, e, hbl, hc, hpo⟩ := ((HL.out).below HB.out).at hkn
      subst e
      have HRet : Hid (∀ z, z ≠ 0 → poBad c (l.getD k po0) = z → res = z) := fun z h0 h1 => by
        rw [← HR2.out, firstTo_first H0.out (by rw [h1]; exact h0) hkn, h1]
      have HNx : Hid (poBad c (l.getD k po0) = 0 → firstTo (fun k => poBad c (l.getD k po0)) (k + 1) = 0) := fun h => by rw [firstTo_next H0.out, h]
      obtain ⟨wa, hwa⟩ : ∃ wa, wr.alloc (.cells (l.getD k po0).cells 45) = wa := ⟨_, rfl⟩
      have b11 : Below wr.heap.size wr wa := by rw [← hwa]; exact (Below.refl _ wr).alloc (Nat.le_refl _) _
      have BB2 : Below w.heap.size w wa := HB.out.trans (b11.mono HB.out.size)
      have hsa : wr.heap.size < wa.heap.size := by rw [← hwa]; simp
      have hx : PoAt wa wr.heap.size 0 (l.getD k po0) := by rw [← hwa]; exact PoAt.new wr (l.getD k po0) 45
      have HP : Hid (∀ W, Below wa.heap.size wa W → PoAt W wr.heap.size 0 (l.getD k po0) ∧ PoOk W (l.getD k po0) ∧ Below w.heap.size w W) := fun W hW =>
        ⟨hx.below hW hsa, (hpo.below b11).below hW, BB2.trans (hW.mono BB2.size)⟩
      have HLf : Hid (∀ code W, Below wa.heap.size wa W → Calls Tryz.prog 14 #[.slice a c.length cap, .string code] W fun e w' => e = .returned (.int .i64 (leafBad c code)) ∧ w' = W) := fun code W hW => refLeafE_any a cap c code W ((HSl.out.below BB2).below hW) hlen
      have HCu : Hid (∀ W, Calls Tryz.prog 15 #[.string (l.getD k po0).cur] W fun e w' => e = .returned (.bool (isCur (l.getD k po0).cur)) ∧ w' = W) := fun W => refCur_any _ W
      have HSh : Hid (∀ W, Below wa.heap.size wa W → Calls Tryz.prog 16 #[.int .i64 0, .slice (l.getD k po0).wA (l.getD k po0).ws.length (l.getD k po0).wC] W fun e w' => ∃ v, e = .returned (.tuple #[v, .int .i64 (shBad (l.getD k po0).ws)]) ∧ Below w.heap.size w w') := fun W hW => by
        obtain ⟨_, q2, q3⟩ := HP.out W hW
        refine (refShares_any 0 _ _ _ W q2.iw q2.lw (by decide) (by decide)).mono ?_
        rintro e w' ⟨v, rfl, hh⟩
        exact ⟨v, rfl, q3.trans (hh.out.1.mono q3.size)⟩
      have HE : Hid (poBad c (l.getD k po0) = if leafBad c (l.getD k po0).acc ≠ 0 then leafBad c (l.getD k po0).acc
  else if isCur (l.getD k po0).cur = false then 2
  else if (l.getD k po0).tos.length = 0 ∨ (l.getD k po0).tos.length ≠ (l.getD k po0).ws.length then 3
  else if 19 < (l.getD k po0).tos.length then 4
  else if firstTo (toBad c (l.getD k po0).acc (l.getD k po0).tos) (l.getD k po0).tos.length ≠ 0 then firstTo (toBad c (l.getD k po0).acc (l.getD k po0).tos) (l.getD k po0).tos.length
  else shBad (l.getD k po0).ws) := rfl
      have HWa : Hid (wr.alloc (.cells (l.getD k po0).cells 45) = wa) := hwa
      have hx2 := hx
      have hlt1 := hpo.lt
      have hlt2 := hpo.lw
      clear BB2 b11 hwa hx hsa hpo
      generalize poBad c (l.getD k po0) = pb at *
      generalize hpk : l.getD k po0 = p at *
      clear hpk
      obtain ⟨acc, cu, tA, tC, tos, wA, wC, ws⟩ := p
      obtain ⟨d0, d1, d2, d3⟩ := hc
      obtain ⟨f0, f1, f2, f3⟩ := hx2
      simp only [Po.cells, Nat.zero_add] at d0 d1 d2 d3 f0 f1 f2 f3 HWa HP HCu HE HSh hlt1 hlt2
      have j0 : (0 : Int) ≤ k := by omega
      have j1 : (k : Int) < l.length := by omega
      go_upto_region 10 with fail
      rw [HWa.out]
      clear HWa d0 d1 d2 d3
      have hbwa := (HP.out wa (Below.refl _ _)).2.2
      have HLa : Hid (Calls Tryz.prog 14 #[.slice a c.length cap, .string acc] wa fun e w' => e = .returned (.int .i64 (leafBad c acc)) ∧ w' = wa) := HLf.out acc wa (Below.refl _ _)
      by_cases l1 : leafBad c acc ≠ 0
      · have er : res = leafBad c acc := HRet.out _ l1 (by rw [HE.out, if_pos l1])
        have l1' : (leafBad c acc != 0) = true := by simpa using l1
        rw [← er] at HLa l1 l1'
        clear HE HRet HNx HR2 HCu HSh HLf HP er
        go_wp2_with fail
        refine HLa.out.mono ?_
        rintro e w' ⟨rfl, hw⟩
        rw [hw]; clear hw w' HLa
        go_wp2
        go_ret
        exact ⟨rfl, hbwa⟩
      have HE2 : Hid (pb = if isCur cu = false then 2 else if tos.length = 0 ∨ tos.length ≠ ws.length then 3 else if 19 < tos.length then 4 else if firstTo (toBad c acc tos) tos.length ≠ 0 then firstTo (toBad c acc tos) tos.length else shBad ws) := by
        have := HE.out; rw [if_neg l1] at this; exact this
      rw [Decidable.of_not_not l1] at HLa
      clear HE l1
      go_wp2_with fail
      refine HLa.out.mono ?_
      rintro e w' ⟨rfl, hw⟩
      rw [hw]; clear hw w' HLa
      cases u1 : isCur cu
      · have er : res = 2 := HRet.out 2 (by decide) (by rw [HE2.out, u1, if_pos rfl])
        subst er
        rw [u1] at HCu
        clear HE2 HRet HNx HR2 HSh HLf HP
        go_wp2_with fail
        refine (HCu.out _).mono ?_
        rintro e w' ⟨rfl, hw⟩
        rw [hw]; clear hw w' HCu
        go_wp2
        go_ret
        exact ⟨rfl, hbwa⟩
      rw [u1] at HCu
      have HE3 : Hid (pb = if tos.length = 0 ∨ tos.length ≠ ws.length then 3 else if 19 < tos.length then 4 else if firstTo (toBad c acc tos) tos.length ≠ 0 then firstTo (toBad c acc tos) tos.length else shBad ws) := by
        have := HE2.out; rw [u1, if_neg (by decide)] at this; exact this
      clear HE2 u1
      go_wp2_with fail
      refine (HCu.out _).mono ?_
      rintro e w' ⟨rfl, hw⟩
      rw [hw]; clear hw w' HCu
      by_cases u2 : tos.length = 0
      · have er : res = 3 := HRet.out 3 (by decide) (by rw [HE3.out, if_pos (.inl u2)])
        subst er
        rw [u2] at f2
        clear HE3 HRet HNx HR2 HSh HLf HP
        go_wp2
        go_ret
        exact ⟨rfl, hbwa⟩
      have u2' : ((tos.length : Int) == 0) = false := by rw [beq_eq_false_iff_ne]; omega
      by_cases u3 : tos.length ≠ ws.length
      · have er : res = 3 := HRet.out 3 (by decide) (by rw [HE3.out, if_pos (.inr u3)])
        subst er
        have u3' : ((tos.length : Int) != ws.length) = true := by
          simp only [bne_iff_ne, ne_eq]
          omega
        clear HE3 HRet HNx HR2 HSh HLf HP
        go_wp2
        go_ret
        exact ⟨rfl, hbwa⟩
      have u3' := Decidable.of_not_not u3
      have HE4 : Hid (pb = if 19 < tos.length then 4 else if firstTo (toBad c acc tos) tos.length ≠ 0 then firstTo (toBad c acc tos) tos.length else shBad ws) := by
        have := HE3.out; rw [if_neg (by rintro (hh | hh); exact u2 hh; exact u3 hh)] at this; exact this
      have u4 : ((tos.length : Int) != ws.length) = false := by rw [u3']; simp
      clear HE3
      by_cases u5 : 19 < tos.length
      · have er : res = 4 := HRet.out 4 (by decide) (by rw [HE4.out, if_pos u5])
        subst er
        have u5' : (19 : Int) < tos.length := by omega
        clear HE4 HRet HNx HR2 HSh HLf HP u3'
        go_wp2
        go_ret
        exact ⟨rfl, hbwa⟩
      have u5' : ¬ (19 : Int) < tos.length := by omega
      have HE5 : Hid (pb = if firstTo (toBad c acc tos) tos.length ≠ 0 then firstTo (toBad c acc tos) tos.length else shBad ws) := by
        have := HE4.out; rw [if_neg u5] at this; exact this
      have hB20 : wr.heap.size < wa.heap.size := World.block_lt_of_cell? _ _ f0
      obtain ⟨q, hq⟩ : ∃ q, wr.heap.size = q := ⟨_, rfl⟩
      rw [hq] at f0 f1 f2 f3 HP hB20 ⊢
      clear HE4 u3 u3' hq
      obtain ⟨n, hn⟩ : ∃ n, tos.length = n := ⟨_, rfl⟩
      have Hn : Hid (tos.length = n) := hn
      rw [hn] at HE5 f2 u2' u4 u5' ⊢
      have i9 : (n : Int) ≤ 19 := by omega
      clear hn u5 u2
      go_wp2
      clear f0 f1 f2 f3
      go_loopw [5, 9] (fun _ i wr => ∃ j : Nat, j ≤ n ∧ i = .int .i64 j ∧ Hid (firstTo (toBad c acc tos) j = 0) ∧ Hid (Below wa.heap.size wa wr)) (fun _ i _ => n - (RowKit.intOf i).toNat)
      case atStart => exact ⟨0, Nat.zero_le _, rfl, rfl, Below.refl _ _⟩
      case round =>
        obtain ⟨j, hj, rfl, J0, HJ⟩ := hrel
        obtain ⟨⟨f0, f1, f2, f3⟩, po, hbj⟩ := HP.out wr HJ.out
        simp only [Nat.zero_add] at f0 f1 f2 f3
        rw [Hn.out] at f2
        by_cases hjn : j < n
        · obtain ⟨tb, tf, e, htb, ht⟩ := po.tx.at (k := j) (by rw [Hn.out]; exact hjn)
          simp only at e
          subst e
          have HTo : Hid (∀ i W, i < n → Below wa.heap.size wa W → W.cell? ⟨tb, tf + i, none⟩ = some (.string (tos.getD i ByteArray.empty))) := fun i W hi hW => by
            obtain ⟨tb', tf', e', _, ht'⟩ := (HP.out W hW).2.1.tx.at (k := i) (by rw [Hn.out]; exact hi)
            cases e'
            exact ht'
          have HTb : Hid (toBad c acc tos j = if leafBad c (tos.getD j ByteArray.empty) ≠ 0 then leafBad c (tos.getD j ByteArray.empty) else if tos.getD j ByteArray.empty = acc ∨ memB (tos.getD j ByteArray.empty) (tos.take j) = true then 8 else 0) := rfl
          have HJr : Hid (∀ z, z ≠ 0 → toBad c acc tos j = z → res = z) := fun z h0 h1 => by
            have e1 := firstTo_first (n := n) J0.out (by rw [h1]; exact h0) hjn
            exact HRet.out z h0 (by rw [HE5.out, e1, h1, if_pos h0])
          have HJn : Hid (toBad c acc tos j = 0 → firstTo (toBad c acc tos) (j + 1) = 0) := fun h => by rw [firstTo_next J0.out, h]
          have HMm : Hid ((∀ t, noTo tos t j → memB t (tos.take j) = false) ∧ ∀ t i, i < j → tos.getD i ByteArray.empty = t → memB t (tos.take j) = true) := ⟨fun t hh => mem_no (by rw [Hn.out]; omega) hh, fun t i hi hh => mem_yes (by rw [Hn.out]; omega) hi hh⟩
          have HLt : Hid (Calls Tryz.prog 14 #[.slice a c.length cap, .string (tos.getD j ByteArray.empty)] wr fun e w' => e = .returned (.int .i64 (leafBad c (tos.getD j ByteArray.empty))) ∧ w' = wr) := HLf.out _ wr HJ.out
          have m0 : (0 : Int) ≤ j := by omega
          have m1 : (j : Int) < n := by omega
          clear po J0 htb
          generalize toBad c acc tos j = tbd at *
          generalize htj : tos.getD j ByteArray.empty = tj at *
          have HTj : Hid (tos.getD j ByteArray.empty = tj) := htj
          clear htj
          by_cases l2 : leafBad c tj ≠ 0
          · have er : res = leafBad c tj := HJr.out _ l2 (by rw [HTb.out, if_pos l2])
            have l2' : (leafBad c tj != 0) = true := by simpa using l2
            rw [← er] at HLt l2 l2'
            clear HTb HJr HJn HMm HRet HNx HR2 HSh HLf HP HE5 HTo er
            go_wp2_with fail
            refine HLt.out.mono ?_
            rintro e w' ⟨rfl, hw⟩
            rw [hw]; clear hw w' HLt
            go_wp2
            go_ret
            exact ⟨rfl, hbj⟩
          rw [Decidable.of_not_not l2] at HLt
          have HTb2 : Hid (tbd = if tj = acc ∨ memB tj (tos.take j) = true then 8 else 0) := by
            have := HTb.out; rw [if_neg l2] at this; exact this
          clear l2 HTb
          have HBw : Hid (∀ n, Below w.heap.size w (wr.drewN n)) := fun n => en_drewN hbj n
          have HJd : Hid (∀ n, Below wa.heap.size wa (wr.drewN n)) := fun n => en_drewN HJ.out n
          by_cases l3 : tj = acc
          · have er : res = 8 := HJr.out 8 (by decide) (by rw [HTb2.out, if_pos (.inl l3)])
            subst er
            subst l3
            clear HTb2 HJr HJn HMm HRet HNx HR2 HSh HLf HP HE5 HTo
            go_wp2_with fail
            refine HLt.out.mono ?_
            rintro e w' ⟨rfl, hw⟩
            rw [hw]; clear hw w' HLt
            go_wp2_with fail
            go_quiet (fail)
            go_wp2
            go_ret
            exact ⟨rfl, HBw.out _⟩
          have l3' := ch_ne l3
          go_wp2_with fail
          refine HLt.out.mono ?_
          rintro e w' ⟨rfl, hw⟩
          rw [hw]; clear hw w' HLt
          go_wp2_with fail
          go_quiet (fail)
          rename Nat => nd
          have HD : Hid (Below wa.heap.size wa (wr.drewN nd)) := HJd.out nd
          clear f0 f1 f2 f3 ht HBw HJd l3'
          generalize wr.drewN nd = wn at *
          obtain ⟨wo, hwo⟩ : ∃ wo, wo = wr := ⟨_, rfl⟩
          subst hwo
          go_wp2
          go_loopw [10] (fun i wr => ∃ m : Nat, m ≤ j ∧ i = .int .i64 m ∧ Hid (noTo tos tj m) ∧ Hid (Below wa.heap.size wa wr)) (fun i _ => j - (RowKit.intOf i).toNat)
          case atStart => exact ⟨0, Nat.zero_le _, rfl, fun i hi => absurd hi (Nat.not_lt_zero _), HD⟩
          case round =>
            obtain ⟨m, hm, rfl, Hno, HM⟩ := hrel
            obtain ⟨⟨f0, f1, f2, f3⟩, _, hbm⟩ := HP.out wr HM.out
            simp only [Nat.zero_add] at f0 f1 f2 f3
            rw [Hn.out] at f2
            by_cases hmj : m < j
            · have t1 := HTo.out m wr (by omega) HM.out
              have t2 := HTo.out j wr (by omega) HM.out
              rw [HTj.out] at t2
              have HNo2 : Hid (tos.getD m ByteArray.empty ≠ tj → noTo tos tj (m + 1)) := fun hne i hi => by
                rcases (by omega : i < m ∨ i = m) with h' | rfl
                · exact Hno.out i h'
                · exact hne
              have HYes : Hid (tos.getD m ByteArray.empty = tj → res = 8) := fun he => HJr.out 8 (by decide) (by rw [HTb2.out, if_pos (.inr (HMm.out.2 tj m hmj he))])
              generalize tos.getD m ByteArray.empty = tm at *
              have q0 : (0 : Int) ≤ m := by omega
              have q1 : (m : Int) < j := by omega
              have q2 : (m : Int) < n := by omega
              have HBw : Hid (∀ n, Below w.heap.size w (wr.drewN n)) := fun n => en_drewN hbm n
              have HMd : Hid (∀ n, Below wa.heap.size wa (wr.drewN n)) := fun n => en_drewN HM.out n
              by_cases he : tm = tj
              · have er := HYes.out he
                subst er
                subst he
                clear HYes HNo2 HTb2 HJr HJn HMm HRet HNx HR2 HSh HLf HP HE5 HTo Hno
                go_wp2_with fail
                go_quiet (fail)
                go_wp2
                go_ret
                exact ⟨rfl, HBw.out _⟩
              · have he' := ch_ne he
                have HM2 : Hid (noTo tos tj (m + 1)) := HNo2.out he
                clear HYes HNo2 Hno
                go_wp2_with fail
                go_quiet (fail)
                rename Nat => n2
                have HM3 : Hid (Below wa.heap.size wa (wr.drewN n2)) := HMd.out n2
                clear HMd HBw f0 f1 f2 f3 t1 t2
                go_wp2
                go_roundw
                case rel => exact ⟨m + 1, by omega, by go_num, HM2, HM3⟩
                case measure => simp [RowKit.intOf]; omega
            · obtain rfl : m = j := by omega
              have HN2 : Hid (firstTo (toBad c acc tos) (m + 1) = 0) := HJn.out (by rw [HTb2.out, if_neg]; rintro (hh | hh); (exact l3 hh); (rw [HMm.out.1 tj Hno.out] at hh; cases hh))
              have q1 : ¬ (m : Int) < m := by omega
              clear Hno f0 f1 f2 f3
              go_wp2
              go_roundw
              case rel => exact ⟨m + 1, by omega, by go_num, HN2, HM⟩
              case measure => simp [RowKit.intOf]; omega
        · obtain rfl : j = n := by omega
          have HS2 : Hid (Calls Tryz.prog 16 #[.int .i64 0, .slice wA ws.length wC] wr fun e w' => ∃ v, e = .returned (.tuple #[v, .int .i64 (shBad ws)]) ∧ Below w.heap.size w w') := HSh.out wr HJ.out
          have HE6 : Hid (pb = shBad ws) := by
            have := HE5.out; rw [J0.out, if_neg (by simp)] at this; exact this
          have m1 : ¬ (j : Int) < j := by omega
          clear HP HSh HLf HE5 po
          by_cases l4 : shBad ws ≠ 0
          · have er : res = shBad ws := HRet.out _ l4 HE6.out
            have l4' : (shBad ws != 0) = true := by simpa using l4
            rw [← er] at HS2 l4 l4'
            clear HRet HNx HR2 HE6 er
            go_wp2_with fail
            refine HS2.out.mono ?_
            rintro e w3 ⟨v, rfl, hb3⟩
            have HB3 : Hid (Below w.heap.size w w3) := hb3
            clear hb3 HS2 f0 f1 f2 f3
            go_wp2
            go_ret
            exact ⟨rfl, HB3.out⟩
          · have l4' := Decidable.of_not_not l4
            rw [l4'] at HS2
            have HN3 : Hid (firstTo (fun k => poBad c (l.getD k po0)) (k + 1) = 0) := HNx.out (by rw [HE6.out, l4'])
            clear HRet HNx HE6
            go_wp2_with fail
            refine HS2.out.mono ?_
            rintro e w3 ⟨v, rfl, hb3⟩
            have HB3 : Hid (Below w.heap.size w w3) := hb3
            clear hb3 HS2 f0 f1 f2 f3
            go_wp2
            go_roundw
            case rel => exact ⟨k + 1, by omega, by go_num, HN3, HB3⟩
            case measure => simp [RowKit.intOf]; omega
    · obtain rfl : k = l.length := by omega
      have er : res = 0 := by rw [← HR2.out, H0.out]
      subst er
      have j1 : ¬ (l.length : Int) < l.length := by omega
      clear HR2
      go_wp2
      go_ret
      exact ⟨rfl, HB.out⟩
end Go.Proofs.YtiolkeipgpkbmaaGreatDoor

namespace Go.Proofs.YtiolkeipgpkbmaaGreatDoor
set_option linter.unusedVariables false
set_option linter.unusedSimpArgs false
open Go.RowKit

def Bl.plus (y x : Bl) : Bl := ⟨y.ent, y.acc, y.cur, y.amt + x.amt⟩
theorem plus_key (y x : Bl) : (y.plus x).key = y.key := rfl
def putB : List Bl → Bl → List Bl
  | [], x => [x]
  | y :: l, x => if cmpB y x < 0 then y :: putB l x else if cmpB x y < 0 then x :: y :: l else y.plus x :: l
/-- How many stand ahead. -/
def putAt : List Bl → Bl → Nat
  | [], x => 0
  | y :: l, x => if cmpB y x < 0 then putAt l x + 1 else 0
theorem putAt_le : ∀ (l : List Bl) (x : Bl), putAt l x ≤ l.length
  | [], x => Nat.le_refl _
  | y :: l, x => by
    unfold putAt
    have := putAt_le l x
    split <;> simp <;> omega
theorem putAt_ahead : ∀ (l : List Bl) (x : Bl) (j : Nat), j < putAt l x → cmpB (l.getD j bl0) x < 0
  | [], x, j, h => by simp [putAt] at h
  | y :: l, x, j, h => by
    unfold putAt at h
    split at h
    · rename_i hy
      rcases j with _ | j
      · simpa using hy
      · have := putAt_ahead l x j (by omega)
        simpa using this
    · omega
theorem putAt_stop : ∀ (l : List Bl) (x : Bl), putAt l x < l.length → ¬ cmpB (l.getD (putAt l x) bl0) x < 0
  | [], x, h => by simp at h
  | y :: l, x, h => by
    unfold putAt at h ⊢
    split at h
    · rename_i hy
      rw [if_pos hy]
      have := putAt_stop l x (by simp at h; omega)
      simpa using this
    · rename_i hy
      rw [if_neg hy]
      simpa using hy
theorem putAt_eq {l : List Bl} {x : Bl} {k : Nat} (h1 : ∀ j, j < k → cmpB (l.getD j bl0) x < 0) (h2 : k < l.length → ¬ cmpB (l.getD k bl0) x < 0) (hk : k ≤ l.length) : k = putAt l x := by
  rcases (by omega : k < putAt l x ∨ k = putAt l x ∨ putAt l x < k) with h | h | h
  · exact absurd (putAt_ahead l x k h) (h2 (by have := putAt_le l x; omega))
  · exact h
  · exact absurd (h1 _ h) (putAt_stop l x (by omega))
theorem putB_eq : ∀ (l : List Bl) (x : Bl), putB l x = if putAt l x < l.length ∧ ¬ cmpB x (l.getD (putAt l x) bl0) < 0 then l.take (putAt l x) ++ (l.getD (putAt l x) bl0).plus x :: l.drop (putAt l x + 1) else l.take (putAt l x) ++ x :: l.drop (putAt l x)
  | [], x => by simp [putB, putAt]
  | y :: l, x => by
    unfold putB putAt
    by_cases h1 : cmpB y x < 0
    · simp only [h1, if_true, List.length_cons, Nat.add_lt_add_iff_right, List.getD_cons_succ, List.take_succ_cons, List.drop_succ_cons, putB_eq l x]
      split <;> simp
    · simp only [h1, if_false]
      by_cases h2 : cmpB x y < 0
      · simp [h2]
      · simp [h2]
theorem putB_tot (k : Pk) : ∀ (l : List Bl) (x : Bl), ltot k (putB l x) = ltot k l + if x.key = k then x.amt else 0
  | [], x => by simp [putB, ltot]
  | y :: l, x => by
    unfold putB
    split
    · rw [ltot, putB_tot k l x, ltot]; omega
    · split
      · rw [ltot]; omega
      · rename_i h1 h2
        have e : y.key = x.key := by
          false_or_by_contra
          rename_i hne
          exact h2 (cmpB_total h1 hne)
        rw [ltot, ltot, plus_key, e]
        simp only [Bl.plus]
        split <;> omega
theorem putB_keys (k : Pk) : ∀ (l : List Bl) (x : Bl), (∃ y ∈ putB l x, y.key = k) ↔ (∃ y ∈ l, y.key = k) ∨ x.key = k
  | [], x => by simp [putB]
  | y :: l, x => by
    have ih := putB_keys k l x
    simp only [List.mem_cons, exists_eq_or_imp] at ih ⊢
    unfold putB
    split
    · simp only [List.mem_cons, exists_eq_or_imp, ih, or_assoc]
    · split
      · simp only [List.mem_cons, exists_eq_or_imp]
        constructor
        · rintro (h | h)
          · exact .inr h
          · exact .inl h
        · rintro (h | h)
          · exact .inr h
          · exact .inl h
      · rename_i h1 h2
        have e : y.key = x.key := by
          false_or_by_contra
          rename_i hne
          exact h2 (cmpB_total h1 hne)
        simp only [List.mem_cons, exists_eq_or_imp, plus_key]
        constructor
        · intro h; exact .inl h
        · rintro (h | h)
          · exact h
          · exact .inl (e.trans h)
theorem cmpB_plus (y x z : Bl) : cmpB (y.plus x) z = cmpB y z ∧ cmpB z (y.plus x) = cmpB z y := ⟨rfl, rfl⟩
theorem putB_behind {y : Bl} : ∀ {l : List Bl} {x : Bl}, (∀ z ∈ l, cmpB y z < 0) → cmpB y x < 0 → ∀ z ∈ putB l x, cmpB y z < 0
  | [], x, _, hx, z, hz => by
    simp only [putB, List.mem_singleton] at hz
    rw [hz]; exact hx
  | q :: l, x, h, hx, z, hz => by
    have h1 := h q (List.mem_cons_self ..)
    have h2 : ∀ z ∈ l, cmpB y z < 0 := fun z hz => h z (List.mem_cons_of_mem _ hz)
    unfold putB at hz
    split at hz
    · rcases List.mem_cons.1 hz with rfl | hz
      · exact h1
      · exact putB_behind h2 hx z hz
    · split at hz
      · rcases List.mem_cons.1 hz with rfl | hz
        · exact hx
        · exact h z hz
      · rcases List.mem_cons.1 hz with rfl | hz
        · exact h1
        · exact h2 z hz
theorem putB_rises : ∀ {l : List Bl} {x : Bl}, Rises l → Rises (putB l x)
  | [], x, _ => List.pairwise_singleton _ _
  | y :: l, x, h => by
    obtain ⟨h1, h2⟩ := List.pairwise_cons.1 h
    unfold putB
    split
    · rename_i hy
      exact List.pairwise_cons.2 ⟨putB_behind h1 hy, putB_rises h2⟩
    · split
      · rename_i hy
        exact List.pairwise_cons.2 ⟨fun z hz => by
          rcases List.mem_cons.1 hz with rfl | hz
          · exact hy
          · exact cmpB_trans hy (h1 z hz), h⟩
      · exact List.pairwise_cons.2 ⟨h1, h2⟩
theorem putB_length : ∀ (l : List Bl) (x : Bl), (putB l x).length ≤ l.length + 1
  | [], x => by simp [putB]
  | y :: l, x => by
    have := putB_length l x
    unfold putB
    split
    · simp; exact this
    · split <;> simp
/-- All of some put into others. -/
def putL (l m : List Bl) : List Bl := m.foldl putB l
theorem putL_snoc (l m : List Bl) (k : Nat) (h : k < m.length) : putL l (m.take (k + 1)) = putB (putL l (m.take k)) (m.getD k bl0) := by
  rw [bls_take m k h, putL, List.foldl_append]; rfl
theorem putL_rises : ∀ {m l : List Bl}, Rises l → Rises (putL l m)
  | [], l, h => h
  | x :: m, l, h => putL_rises (m := m) (putB_rises h)
theorem putL_tot (k : Pk) : ∀ (m l : List Bl), ltot k (putL l m) = ltot k (l ++ m)
  | [], l => by simp [putL]
  | x :: m, l => by
    have h1 : ltot k (putL (putB l x) m) = ltot k (putB l x ++ m) := putL_tot k m (putB l x)
    show ltot k (putL (putB l x) m) = _
    rw [h1, ltot_append, putB_tot, ltot_append, ltot]
    omega
theorem putL_keys (k : Pk) : ∀ (m l : List Bl), (∃ y ∈ putL l m, y.key = k) ↔ ∃ y ∈ l ++ m, y.key = k
  | [], l => by simp [putL]
  | x :: m, l => by
    have h1 := putL_keys k m (putB l x)
    show (∃ y ∈ putL (putB l x) m, y.key = k) ↔ _
    rw [h1]
    have h2 := putB_keys k l x
    constructor
    · rintro ⟨y, hy, e⟩
      rcases List.mem_append.1 hy with hy | hy
      · rcases h2.1 ⟨y, hy, e⟩ with ⟨z, hz, ez⟩ | ez
        · exact ⟨z, List.mem_append_left _ hz, ez⟩
        · exact ⟨x, List.mem_append_right _ (List.mem_cons_self ..), ez⟩
      · exact ⟨y, List.mem_append_right _ (List.mem_cons_of_mem _ hy), e⟩
    · rintro ⟨y, hy, e⟩
      rcases List.mem_append.1 hy with hy | hy
      · obtain ⟨z, hz, ez⟩ := h2.2 (.inl ⟨y, hy, e⟩)
        exact ⟨z, List.mem_append_left _ hz, ez⟩
      · rcases List.mem_cons.1 hy with rfl | hy
        · obtain ⟨z, hz, ez⟩ := h2.2 (.inr e)
          exact ⟨z, List.mem_append_left _ hz, ez⟩
        · exact ⟨y, List.mem_append_right _ hy, e⟩
theorem putL_length : ∀ (m l : List Bl), (putL l m).length ≤ l.length + m.length
  | [], l => by simp [putL]
  | x :: m, l => by
    have h1 : (putL (putB l x) m).length ≤ _ := putL_length m (putB l x)
    have h2 := putB_length l x
    show (putL (putB l x) m).length ≤ _
    simp only [List.length_cons]
    omega
theorem Rises.nodup {l : List Bl} (h : Rises l) : (l.map Bl.key).Nodup := by
  rw [List.nodup_iff_pairwise_ne, List.pairwise_map]
  exact h.imp (fun {x y} hxy e => by have := cmpB_zero.2 e; omega)
/-- As many as there are places. -/
theorem putL_count {a b : List Bl} (ha : Rises a) : (putL a b).length = (parts (a ++ b)).length := by
  have h1 : ((putL a b).map Bl.key).Perm ((parts (a ++ b)).map Pt.key) := (List.perm_ext_iff_of_nodup (putL_rises ha).nodup (parts_nodup _)).2 (fun k => by
    rw [parts_keys, ← putL_keys k b a]
    simp)
  have := h1.length_eq
  simpa using this
theorem putL_sums {a b : List Bl} (ha : Rises a) : Sums (a ++ b) (full (putL a b)) :=
  ⟨(putL_rises ha).sublist List.filter_sublist, full_ne _, fun k => by rw [ltot_full, putL_tot]⟩
def inB (x : Bl) : Prop := -1000000000000000000 ≤ x.amt ∧ x.amt ≤ 1000000000000000000
/-- What is wrong with them, as it is looked for. -/
theorem mgE_put {a b : List Bl} (ha : chk a = 0) (hb : chk b = 0) (h2 : (putL a b).length ≤ 200) : ((∀ x ∈ full (putL a b), inB x) → mgE a b = 0) ∧ (¬ (∀ x ∈ full (putL a b), inB x) → mgE a b = 10) := by
  have fa := chk_zero.1 ha
  have fb := chk_zero.1 hb
  have hr := putL_rises (m := b) fa.rises
  have hc := putL_count (b := b) fa.rises
  have key : (∀ x ∈ full (putL a b), inB x) ↔ mgE a b = 0 := by
    rw [mgE_zero]
    constructor
    · intro h
      refine ⟨fa, fb, by omega, fun x hx => ?_⟩
      by_cases e : ltot x.key (a ++ b) = 0
      · rw [e]; omega
      · rw [← putL_tot, ← ltot_full] at e ⊢
        obtain ⟨y, hy, ey⟩ := ltot_ex e
        have h1 := ltot_mem (putL_sums (b := b) fa.rises).rises y hy
        rw [ey] at h1
        rw [h1]
        exact h y hy
    · intro h x hx
      have h1 := ltot_mem (putL_sums (b := b) fa.rises).rises x hx
      rw [ltot_full, putL_tot] at h1
      unfold inB
      rw [← h1]
      exact ltot_all h.2.2.2 _
  refine ⟨key.1, fun h => ?_⟩
  have h0 : mgE a b ≠ 0 := fun e => h (key.2 e)
  unfold mgE at h0 ⊢
  rw [if_neg (by simp [ha]), if_neg (by simp [hb]), if_neg (by omega)] at h0 ⊢
  split at h0
  · exact absurd rfl h0
  · rename_i h3
    rw [if_neg h3]
theorem mgE_put4 {a b : List Bl} (ha : chk a = 0) (hb : chk b = 0) (h2 : 200 < (putL a b).length) : mgE a b = 4 := by
  have hc := putL_count (b := b) (chk_zero.1 ha).rises
  unfold mgE
  rw [if_neg (by simp [ha]), if_neg (by simp [hb]), if_pos (by omega)]
end Go.Proofs.YtiolkeipgpkbmaaGreatDoor

namespace Go.Proofs.YtiolkeipgpkbmaaGreatDoor
set_option linter.unusedVariables false
set_option linter.unusedSimpArgs false
set_option maxRecDepth 100000
open Go.RowKit Go.Lib

set_option maxHeartbeats 1000000 in
theorem lmAhead_any (x y : Bl) (w : World) :
    Calls Tryz.prog 47 #[.agg x.cells, .agg y.cells] w fun e w' => e = .returned (.bool (decide (cmpB x y < 0))) ∧ Below w.heap.size w w' := by
  obtain ⟨x0, x1, x2, x3⟩ := x
  obtain ⟨y0, y1, y2, y3⟩ := y
  simp only [Bl.cells, cmpB]
  have bl : Below w.heap.size w ((w.alloc (.cells #[.int .i64 x0, .string x1, .string x2, .int .i64 x3] 93)).alloc (.cells #[.int .i64 y0, .string y1, .string y2, .int .i64 y3] 93)) := ((Below.refl _ w).alloc (Nat.le_refl _) _).alloc (by simp) _
  by_cases h0 : x0 = y0
  · subst h0
    have e0 : cmpI x0 x0 = 0 := by simp [cmpI]
    rw [e0, if_neg (by simp)]
    by_cases h1 : x1 = y1
    · subst h1
      rw [if_neg (by simp [ldCmpS_eq.2 rfl])]
      have er : decide (cmpS x2 y2 < 0) = Op.bytesLess x2.toList y2.toList := by rw [Bool.eq_iff_iff, decide_eq_true_eq, cmpS_neg]
      rw [er]
      clear er e0
      go_enter Tryz.func47, Tryz.ntmps47
      go_wp2
      go_ret
      exact ⟨rfl, bl⟩
    · have hc : cmpS x1 y1 ≠ 0 := fun h => h1 (ldCmpS_eq.1 h)
      rw [if_pos hc]
      have er : decide (cmpS x1 y1 < 0) = Op.bytesLess x1.toList y1.toList := by rw [Bool.eq_iff_iff, decide_eq_true_eq, cmpS_neg]
      rw [er]
      have h1' : ¬ x1.toList = y1.toList := fun e => h1 (toList_inj e)
      have h1b := en_ne h1
      clear er e0 hc h1
      go_enter Tryz.func47, Tryz.ntmps47
      go_wp2
      go_ret
      exact ⟨rfl, bl⟩
  · have hc : cmpI x0 y0 ≠ 0 := by unfold cmpI; split <;> (try split) <;> omega
    rw [if_pos hc]
    have er : decide (cmpI x0 y0 < 0) = decide (x0 < y0) := by
      unfold cmpI
      by_cases h : x0 < y0
      · simp [h]
      · rw [if_neg h]; simp [h]; split <;> omega
    rw [er]
    have h0' : (x0 != y0) = true := by simp [h0]
    clear er hc
    go_enter Tryz.func47, Tryz.ntmps47
    go_wp2
    go_ret
    exact ⟨rfl, bl⟩

set_option maxHeartbeats 4000000 in
theorem lmCheck_any (a : Option Addr) (cap : Nat) (l : List Bl) (w : World) (hlen : l.length ≤ 9223372036854775807) (h : IsBl w a l cap) :
    Calls Tryz.prog 17 #[.slice a l.length cap] w fun e w' => e = .returned (.int .i64 (chk l)) ∧ Below w.heap.size w w' := by
  by_cases h2 : 200 < l.length
  · have e4 : chk l = 4 := if_pos h2
    rw [e4]
    have i1 : (200 : Int) < l.length := by omega
    clear h e4
    go_enter Tryz.func17, Tryz.ntmps17
    go_wp2
    go_ret
    exact ⟨rfl, Below.refl _ _⟩
  have i1 : ¬ (200 : Int) < l.length := by omega
  have i2 : (l.length : Int) ≤ 200 := by omega
  obtain ⟨res, hres⟩ : ∃ res, chk l = res := ⟨_, rfl⟩
  have Hres : Hid (chkTo l l.length = res) := by
    rw [← hres]; unfold chk; rw [if_neg h2]; exact rfl
  rw [hres]
  clear hres
  have HL : Hid (IsBl w a l cap) := h
  clear h
  go_enter Tryz.func17, Tryz.ntmps17
  go_wp2
  go_loopw [3] (fun i wr => ∃ k : Nat, k ≤ l.length ∧ i = .int .i64 k ∧ Hid (chkTo l k = 0) ∧ Hid (Below w.heap.size w wr)) (fun i _ => l.length - (RowKit.intOf i).toNat)
  case atStart => exact ⟨0, Nat.zero_le _, rfl, rfl, Below.refl _ _⟩
  case round =>
    obtain ⟨k, hk, rfl, H0, HB⟩ := hrel
    by_cases hlt : k < l.length
    · obtain ⟨b, off, rfl, hb, hc⟩ := HL.out.some hlt
      have i0 : (0 : Int) ≤ k := by omega
      have i3 : (k : Int) < l.length := by omega
      have HC : Hid (BlsAt w b off l) := hc
      obtain ⟨y, hyy⟩ : ∃ y, l.getD k bl0 = y := ⟨_, rfl⟩
      have HYY : Hid (l.getD k bl0 = y) := hyy
      have HY : Hid (BlAt w b (off + k * 4) y) := by have := hc k hlt; rw [hyy] at this; exact this
      clear hyy hc
      obtain ⟨y0, y1, y2, y3⟩ := y
      go_upto_region 6 with fail
      go_cut [27] from 13 to 27 (fun t wx => t = .bool (decide (0 < k ∧ ¬ cmpB (l.getD (k - 1) bl0) ⟨y0, y1, y2, y3⟩ < 0)) ∧ Hid (Below wr.heap.size wr wx))
      case first =>
        rcases k with _ | m
        · go_wp2_with fail
          go_quiet (fail)
          rename Nat => nk
          have HZ : Hid (Below wr.heap.size wr (wr.drewN nk)) := en_drewN (Below.refl _ _) nk
          go_wp2
          go_meet
          case rel => exact ⟨by simp, HZ⟩
        · have hx := (HC.out m (by omega)).below HB.out hb
          have hy := HY.out.below HB.out hb
          have HER : Hid (decide (0 < m + 1 ∧ ¬ cmpB (l.getD (m + 1 - 1) bl0) ⟨y0, y1, y2, y3⟩ < 0) = !decide (cmpB (l.getD m bl0) ⟨y0, y1, y2, y3⟩ < 0)) := by
            unfold Hid
            rw [Nat.add_sub_cancel, Bool.eq_iff_iff]
            simp
          have HCm : Hid (∀ W, Calls Tryz.prog 47 #[.agg (l.getD m bl0).cells, .agg (Bl.mk y0 y1 y2 y3).cells] W fun e w' => e = .returned (.bool (decide (cmpB (l.getD m bl0) ⟨y0, y1, y2, y3⟩ < 0))) ∧ Below W.heap.size W w') := fun W => lmAhead_any _ _ W
          generalize l.getD m bl0 = x at hx HER HCm
          generalize decide (cmpB x ⟨y0, y1, y2, y3⟩ < 0) = c at *
          obtain ⟨x0, x1, x2, x3⟩ := x
          obtain ⟨d0, d1, d2, d3⟩ := hx
          obtain ⟨f0, f1, f2, f3⟩ := hy
          simp only [Bl.cells] at d0 d1 d2 d3 f0 f1 f2 f3 HCm
          have hbW : b < wr.heap.size := Nat.lt_of_lt_of_le hb HB.out.size
          have HK : Hid (∀ W V, Below W.heap.size W V → b < W.heap.size → (W.cell? ⟨b, off + m * 4, none⟩ = some (.int .i64 x0) ∧ W.cell? ⟨b, off + m * 4 + 1, none⟩ = some (.string x1) ∧ W.cell? ⟨b, off + m * 4 + 2, none⟩ = some (.string x2) ∧ W.cell? ⟨b, off + m * 4 + 3, none⟩ = some (.int .i64 x3)) ∧ W.cell? ⟨b, off + (m + 1) * 4, none⟩ = some (.int .i64 y0) ∧ W.cell? ⟨b, off + (m + 1) * 4 + 1, none⟩ = some (.string y1) ∧ W.cell? ⟨b, off + (m + 1) * 4 + 2, none⟩ = some (.string y2) ∧ W.cell? ⟨b, off + (m + 1) * 4 + 3, none⟩ = some (.int .i64 y3) → (V.cell? ⟨b, off + m * 4, none⟩ = some (.int .i64 x0) ∧ V.cell? ⟨b, off + m * 4 + 1, none⟩ = some (.string x1) ∧ V.cell? ⟨b, off + m * 4 + 2, none⟩ = some (.string x2) ∧ V.cell? ⟨b, off + m * 4 + 3, none⟩ = some (.int .i64 x3)) ∧ V.cell? ⟨b, off + (m + 1) * 4, none⟩ = some (.int .i64 y0) ∧ V.cell? ⟨b, off + (m + 1) * 4 + 1, none⟩ = some (.string y1) ∧ V.cell? ⟨b, off + (m + 1) * 4 + 2, none⟩ = some (.string y2) ∧ V.cell? ⟨b, off + (m + 1) * 4 + 3, none⟩ = some (.int .i64 y3)) := fun W V hB hlt hh => by
            have C : ∀ o, V.cell? ⟨b, o, none⟩ = W.cell? ⟨b, o, none⟩ := fun o => hB.cell (p := ⟨b, o, none⟩) hlt
            simp only [C]
            exact hh
          have j0 : (0 : Int) ≤ m := by omega
          have j1 : (m : Int) + 1 < l.length := by omega
          have j2 : (m : Int) < l.length := by omega
          have i6 : (m : Int) + 1 - 1 = m := by omega
          have i7 : ((m : Int) + 1).toNat = m + 1 := by omega
          have i8 : (0 : Int) ≤ (m : Int) + 1 := by omega
          have i9 : (0 : Int) < (m : Int) + 1 := by omega
          have iw1 : IntKind.i64.wrap (m : Int) = m := by
            simp only [IntKind.wrap, IntKind.bits, IntKind.signed]
            simp
            omega
          have iw2 : IntKind.i64.wrap ((m : Int) + 1 - 1) = m := by rw [i6, iw1]
          clear HC HYY HY HL H0 Hres i0 i3 HB
          go_wp2_with fail
          go_region_held3 (fun u => (u.cell? ⟨b, off + m * 4, none⟩ = some (.int .i64 x0) ∧ u.cell? ⟨b, off + m * 4 + 1, none⟩ = some (.string x1) ∧ u.cell? ⟨b, off + m * 4 + 2, none⟩ = some (.string x2) ∧ u.cell? ⟨b, off + m * 4 + 3, none⟩ = some (.int .i64 x3)) ∧ u.cell? ⟨b, off + (m + 1) * 4, none⟩ = some (.int .i64 y0) ∧ u.cell? ⟨b, off + (m + 1) * 4 + 1, none⟩ = some (.string y1) ∧ u.cell? ⟨b, off + (m + 1) * 4 + 2, none⟩ = some (.string y2) ∧ u.cell? ⟨b, off + (m + 1) * 4 + 3, none⟩ = some (.int .i64 y3)) (go_keep) (first | (go_at_call 47; refine (HCm.out _).mono ?_; rintro e w' ⟨rfl, hb'⟩; obtain ⟨⟨p0, p1, p2, p3⟩, p4, p5, p6, p7⟩ := HK.out _ _ hb' (by simpa using hbW) (by simpa using ⟨⟨d0, d1, d2, d3⟩, f0, f1, f2, f3⟩)))
          all_goals
            go_wp2
            go_meet
            case rel => exact ⟨by rw [HER.out], (Below.refl _ _).drew.trans hb'⟩
      case rest =>
        obtain ⟨rfl, HBc⟩ := hcut
        have HBw : Hid (Below w.heap.size w wc) := HB.out.trans (HBc.out.mono HB.out.size)
        obtain ⟨f0, f1, f2, f3⟩ := HY.out.below HBw.out hb
        simp only at f0 f1 f2 f3
        have HA : Hid (chkAt l k = if 0 < k ∧ ¬ cmpB (l.getD (k - 1) bl0) ⟨y0, y1, y2, y3⟩ < 0 then 5 else if ¬ (-1000000000000000000 ≤ y3 ∧ y3 ≤ 1000000000000000000) then 1 else if y3 = 0 then 3 else 0) := by
          unfold chkAt
          rw [HYY.out]
          exact rfl
        have HRet : Hid (∀ c, c ≠ 0 → chkAt l k = c → res = c) := fun c h0 h1 => by
          rw [← Hres.out, chkTo_first H0.out (by rw [h1]; exact h0) hlt, h1]
        clear HBc HB HC HYY HL HY
        by_cases c1 : 0 < k ∧ ¬ cmpB (l.getD (k - 1) bl0) ⟨y0, y1, y2, y3⟩ < 0
        · have e5 : res = 5 := HRet.out 5 (by decide) (by rw [HA.out, if_pos c1])
          rw [decide_eq_true c1]
          subst e5
          clear HA HRet c1 Hres
          go_wp2
          go_ret
          exact ⟨rfl, HBw.out⟩
        · rw [decide_eq_false c1]
          by_cases c2 : -1000000000000000000 ≤ y3 ∧ y3 ≤ 1000000000000000000
          · have c2a : ¬ y3 < -1000000000000000000 := by omega
            have c2b : ¬ 1000000000000000000 < y3 := by omega
            by_cases c3 : y3 = 0
            · have e5 : res = 3 := HRet.out 3 (by decide) (by rw [HA.out, if_neg c1, if_neg (by simpa using c2), if_pos c3])
              subst e5
              subst c3
              clear HA HRet c1 Hres c2
              go_wp2
              go_ret
              exact ⟨rfl, HBw.out⟩
            · have e0 : chkTo l (k + 1) = 0 := by
                unfold chkTo
                rw [if_neg (by simp [H0.out]), HA.out, if_neg c1, if_neg (by simpa using c2), if_neg c3]
              have HE : Hid (chkTo l (k + 1) = 0) := e0
              have c3' : (y3 == 0) = false := by rw [beq_eq_false_iff_ne]; exact c3
              clear HA HRet c1 e0 c2
              go_wp2
              go_roundw
              case rel => exact ⟨k + 1, by omega, by go_num, HE, HBw⟩
              case measure => simp [RowKit.intOf]; omega
          · have e5 : res = 1 := HRet.out 1 (by decide) (by rw [HA.out, if_neg c1, if_pos c2])
            subst e5
            clear HA HRet c1 Hres
            by_cases c2a : y3 < -1000000000000000000
            · clear c2
              go_wp2
              go_ret
              exact ⟨rfl, HBw.out⟩
            · have c2b : 1000000000000000000 < y3 := by omega
              clear c2
              go_wp2
              go_ret
              exact ⟨rfl, HBw.out⟩
    · have hk2 : k = l.length := by omega
      subst hk2
      have e5 : res = 0 := by rw [← Hres.out, H0.out]
      subst e5
      clear Hres
      go_wp2
      go_ret
      exact ⟨rfl, HB.out⟩
end Go.Proofs.YtiolkeipgpkbmaaGreatDoor

namespace Go.Proofs.YtiolkeipgpkbmaaGreatDoor
set_option linter.unusedVariables false
set_option linter.unusedSimpArgs false
set_option maxRecDepth 100000
open Go.RowKit Go.Lib

theorem find_hit {p : Bl → Bool} {b : List Bl} {k : Nat} (h : (b.take k).find? p = none) (hk : k < b.length) (hp : p (b.getD k bl0) = true) : b.find? p = some (b.getD k bl0) := by
  have e : b = b.take k ++ b.getD k bl0 :: b.drop (k + 1) := by rw [← bls_drop b k hk, List.take_append_drop]
  generalize b.getD k bl0 = x at *
  rw [e, List.find?_append, h, List.find?_cons_of_pos hp]
  rfl
theorem find_miss {p : Bl → Bool} {b : List Bl} {k : Nat} (h : (b.take k).find? p = none) (hk : k < b.length) (hp : p (b.getD k bl0) = false) : (b.take (k + 1)).find? p = none := by
  rw [bls_take b k hk, List.find?_append, h, List.find?_cons_of_neg (by rw [hp]; simp)]
  rfl
set_option maxHeartbeats 4000000 in
theorem refGet_any (a : Option Addr) (cap : Nat) (b : List Bl) (en : Int) (acc cur : ByteArray) (w : World) (hlen : (b.length : Int) ≤ 9223372036854775807) (h : IsBl w a b cap) :
    Calls Tryz.prog 19 #[.slice a b.length cap, .int .i64 en, .string acc, .string cur] w fun e w' => e = .returned (.int .i64 (getB b en acc cur)) ∧ w' = w := by
  have HH : Hid (IsBl w a b cap) := h
  obtain ⟨res, hres⟩ : ∃ res, getB b en acc cur = res := ⟨_, rfl⟩
  have Hres : Hid (getB b en acc cur = res) := hres
  rw [hres]
  clear hres h
  go_enter Tryz.func19, Tryz.ntmps19
  go_wp2
  go_loop [9] (fun i => ∃ k : Nat, k ≤ b.length ∧ i = .int .i64 k ∧ Hid ((b.take k).find? (hasB en acc cur) = none)) (fun i => b.length - (RowKit.intOf i).toNat)
  case atStart => exact ⟨0, Nat.zero_le _, rfl, rfl⟩
  case round =>
    obtain ⟨k, hk, rfl, H⟩ := hrel
    by_cases hlt : k < b.length
    · obtain ⟨bb, off, e, hb, hc⟩ := HH.out.some hlt
      subst e
      have hy : BlAt w bb (off + k * 4) (b.getD k bl0) := hc k hlt
      have HHit : Hid (hasB en acc cur (b.getD k bl0) = true → res = (b.getD k bl0).amt) := fun hp => by
        rw [← Hres.out]; unfold getB; rw [find_hit H.out hlt hp]; rfl
      have HMiss : Hid (hasB en acc cur (b.getD k bl0) = false → (b.take (k + 1)).find? (hasB en acc cur) = none) := fun hp => find_miss H.out hlt hp
      clear hc H
      generalize b.getD k bl0 = y at *
      obtain ⟨y0, y1, y2, y3⟩ := y
      obtain ⟨d0, d1, d2, d3⟩ := hy
      simp only at d0 d1 d2 d3
      have i0 : (0 : Int) ≤ k := by omega
      have i1 : (k : Int) < b.length := by omega
      by_cases c1 : y0 = en
      · subst c1
        by_cases c2 : y1 = acc
        · subst c2
          by_cases c3 : y2 = cur
          · subst c3
            have er : res = y3 := HHit.out (by simp [hasB])
            subst er
            clear HHit HMiss
            go_wp2
            go_ret
            exact ⟨rfl, rfl⟩
          · have c3' := ch_ne c3
            have HN : Hid _ := HMiss.out (by simp [hasB, c3])
            clear HHit HMiss
            go_wp2
            go_round
            case rel => exact ⟨k + 1, by omega, by go_num, HN⟩
            case measure => simp [RowKit.intOf]; omega
        · have c2' := ch_ne c2
          have HN : Hid _ := HMiss.out (by simp [hasB, c2])
          clear HHit HMiss
          go_wp2
          go_round
          case rel => exact ⟨k + 1, by omega, by go_num, HN⟩
          case measure => simp [RowKit.intOf]; omega
      · have c1' : (y0 == en) = false := by rw [beq_eq_false_iff_ne]; exact c1
        have HN : Hid _ := HMiss.out (by simp [hasB, c1])
        clear HHit HMiss
        go_wp2
        go_round
        case rel => exact ⟨k + 1, by omega, by go_num, HN⟩
        case measure => simp [RowKit.intOf]; omega
    · have ek : k = b.length := by omega
      subst ek
      have er : res = 0 := by
        have := H.out
        rw [List.take_length] at this
        rw [← Hres.out]; unfold getB; rw [this]; rfl
      subst er
      clear H
      go_wp2
      go_ret
      exact ⟨rfl, rfl⟩
end Go.Proofs.YtiolkeipgpkbmaaGreatDoor

namespace Go.Proofs.YtiolkeipgpkbmaaGreatDoor
set_option linter.unusedVariables false
set_option linter.unusedSimpArgs false
set_option maxRecDepth 100000
open Go.RowKit Go.Lib

theorem ap_below {B : Nat} {w a b : World} {row : Option Nat} (h : Below B w a) (k : a.grownBy b row) (hs : B ≤ a.heap.size) (hr : ∀ p, row = some p → B ≤ p) : Below B w b := h.grown k hs hr
theorem refWhen_any (en pe : Int) (w : World) :
    Calls Tryz.prog 18 #[.int .i64 en, .int .i64 pe] w fun e w' => e = .returned (.int .i64 (if (upTo en 12 && upTo pe 120) = false then 1 else 0)) ∧ w' = w := by
  have H1 := entity_any en w
  have H2 := period_any pe w
  cases u1 : upTo en 12
  · rw [u1] at H1
    go_enter Tryz.func18, Tryz.ntmps18
    go_wp2_with fail
    refine H1.mono ?_
    rintro e w' ⟨rfl, hw⟩
    rw [hw]; clear hw w'
    go_wp2_with fail
    refine H2.mono ?_
    rintro e w' ⟨rfl, hw⟩
    rw [hw]; clear hw w'
    go_wp2
    go_ret
    exact ⟨rfl, rfl⟩
  · rw [u1] at H1
    cases u2 : upTo pe 120
    · rw [u2] at H2
      go_enter Tryz.func18, Tryz.ntmps18
      go_wp2_with fail
      refine H1.mono ?_
      rintro e w' ⟨rfl, hw⟩
      rw [hw]; clear hw w'
      go_wp2_with fail
      refine H2.mono ?_
      rintro e w' ⟨rfl, hw⟩
      rw [hw]; clear hw w'
      go_wp2
      go_ret
      exact ⟨rfl, rfl⟩
    · rw [u2] at H2
      go_enter Tryz.func18, Tryz.ntmps18
      go_wp2_with fail
      refine H1.mono ?_
      rintro e w' ⟨rfl, hw⟩
      rw [hw]; clear hw w'
      go_wp2_with fail
      refine H2.mono ?_
      rintro e w' ⟨rfl, hw⟩
      rw [hw]; clear hw w'
      go_wp2
      go_ret
      exact ⟨rfl, rfl⟩
end Go.Proofs.YtiolkeipgpkbmaaGreatDoor
