/-
  What was given out is not there any more: for every chart, all pools, all balances and every entity the call of daylaw5.AllotTwice returns true, and its arguments read as they did. The library's tables are as the program's text lays them (the card ties them). No other condition.
-/
import Derived.Test.YtmlooibihjfahaaGreatDoorZt17
import Derived.Test.YtmlooibihjfahaaGreatDoorZt0
import Derived.Deep.Slices
import Derived.OpenShut
import Derived.Test.YtmlooibihjfahaaGreatDoorZt14
import Derived.Test.YtmlooibihjfahaaGreatDoorZt7
import Derived.Test.YtmlooibihjfahaaGreatDoorRows
import Derived.Test.YtmlooibihjfahaaGreatDoorCards
import Derived.Test.YtmlooibihjfahaaGreatDoorTie
import Derived.ChangeSame
import Derived.ChangeVars
import Derived.JoinedOf
import Derived.RowKit
import Derived.RowKitTokens
import Derived.LaidLaws
import Derived.LaidHandle
import Derived.Stop.Joined
import Derived.SevenTiedAt
import Derived.ProofKit
import Derived.Below
import Derived.ShutString
import Derived.ChangeOld
import Derived.SizedLaws
import Derived.Lib.LaidTab
import Derived.Stop.LaidErr
namespace Go.Proofs.YtmlooibihjfahaaGreatDoor
set_option linter.unusedVariables false
set_option linter.unusedSimpArgs false
set_option maxRecDepth 100000
open Go.RowKit Go.Lib

theorem put_more (en : Int) (ahd l : List Ln) (j : Nat) (h : j < l.length) : putL [] (lnsBs en (ahd ++ l.take (j + 1))) = putB (putL [] (lnsBs en (ahd ++ l.take j))) (lnB en (l.getD j ln0)) := by
  rw [lns_take l j h, ← List.append_assoc]
  unfold lnsBs putL
  rw [List.map_append, List.foldl_append]
  rfl

set_option maxHeartbeats 8000000 in
theorem twice_walk (a a2 a3 : Option Addr) (cap cap2 cap3 : Nat) (c : List Ac) (l : List Po) (b : List Bl) (en : Int) (w : World) (h : IsSl w a c cap) (hl : IsPs w a2 l cap2) (hll : l.length ≤ 9223372036854775807) (hb : IsBl w a3 b cap3) (hbl : b.length ≤ 9223372036854775807) (hbo : ∀ x ∈ b, BlOk x) (htx : ∀ p ∈ l, PoTx p) (hen : -9223372036854775808 ≤ en ∧ en ≤ 9223372036854775807) :
    Calls Tryz.prog 3 #[.slice a c.length cap, .slice a2 l.length cap2, .slice a3 b.length cap3, .int .i64 en] w fun e w' => e = .returned (.bool true) ∧ Below w.heap.size w w' := by
  have HF := at_fact w w.heap.size (w.heap.size + 1) (w.heap.size + 1 + 1) rfl rfl rfl
  obtain ⟨V3, hV3⟩ : ∃ V3, (((w.alloc (.cells #[.string ⟨#[49, 48]⟩] 9)).alloc (.cells #[.int .i64 1] 3)).alloc (.cells #[.string ⟨#[53, 48]⟩, .string ⟨#[69, 85, 82]⟩, .slice (some ⟨w.heap.size, 0, none⟩) 1 1, .slice (some ⟨w.heap.size + 1, 0, none⟩) 1 1] 28)) = V3 := ⟨_, rfl⟩
  rw [hV3] at HF
  have hs3 : V3.heap.size = w.heap.size + 3 := by rw [← hV3]; simp
  have HF3 : Hid (∀ W, Below V3.heap.size V3 W → IsPs W (some ⟨w.heap.size + 1 + 1, 0, none⟩) [atP w.heap.size (w.heap.size + 1)] 1 ∧ Below w.heap.size w W) := fun W hW => HF W (by rw [← hs3]; exact hW)
  have HV3 : Hid ((((w.alloc (.cells #[.string ⟨#[49, 48]⟩] 9)).alloc (.cells #[.int .i64 1] 3)).alloc (.cells #[.string ⟨#[53, 48]⟩, .string ⟨#[69, 85, 82]⟩, .slice (some ⟨w.heap.size, 0, none⟩) 1 1, .slice (some ⟨w.heap.size + 1, 0, none⟩) 1 1] 28)) = V3) := hV3
  have HC : Hid (IsSl w a c cap) := h
  have HL : Hid (IsPs w a2 l cap2) := hl
  have HB : Hid (IsBl w a3 b cap3) := hb
  have HBo : Hid (∀ x ∈ b, BlOk x) := hbo
  have HTx : Hid (∀ p ∈ l, PoTx p) := htx
  have HAc : Hid (∀ W, Calls Tryz.prog 5 #[] W fun e w' => e = .returned (.slice (some ⟨W.heap.size, 0, none⟩) 5 5) ∧ IsSl w' (some ⟨W.heap.size, 0, none⟩) jC 5 ∧ Below W.heap.size W w') := fun W => accounts_any W
  clear h hl hb hbo htx HF hV3 hs3
  go_enter Tryz.func3, Tryz.ntmps3
  go_upto_region 2 with fail
  rw [HV3.out]
  clear HV3
  obtain ⟨q3, hq3⟩ : ∃ q3, w.heap.size + 1 + 1 = q3 := ⟨_, rfl⟩
  rw [hq3] at HF3 ⊢
  obtain ⟨q2, hq2⟩ : ∃ q2, w.heap.size + 1 = q2 := ⟨_, rfl⟩
  rw [hq2] at HF3 ⊢
  clear hq3 hq2
  go_wp2_with fail
  refine (HAc.out V3).mono ?_
  rintro e w1 ⟨rfl, hsl, hb1⟩
  obtain ⟨hps, hbw1⟩ := HF3.out w1 hb1
  have b12 : Below w1.heap.size w1 (w1.alloc (.cells #[.int .i64 1, .string ⟨#[53, 48]⟩, .string ⟨#[69, 85, 82]⟩, .int .i64 8] 36)) := (Below.refl _ w1).alloc (Nat.le_refl _) _
  have hbl1 : IsBl (w1.alloc (.cells #[.int .i64 1, .string ⟨#[53, 48]⟩, .string ⟨#[69, 85, 82]⟩, .int .i64 8] 36)) (some ⟨w1.heap.size, 0, none⟩) [atB] 1 := isBl_new (x := atB) (World.alloc_heap_new w1 _)
  have HE1 : Hid (Calls Tryz.prog 4 #[.slice (some ⟨V3.heap.size, 0, none⟩) 5 5, .slice (some ⟨q3, 0, none⟩) 1 1, .slice (some ⟨w1.heap.size, 0, none⟩) 1 1, .int .i64 1, .int .i64 1] (w1.alloc (.cells #[.int .i64 1, .string ⟨#[53, 48]⟩, .string ⟨#[69, 85, 82]⟩, .int .i64 8] 36)) fun e w' => ∃ la lc va vc, e = .returned (.tuple #[.slice (some va) 1 vc, .nilIface]) ∧ w'.cell? ⟨va.block, va.off + 3, none⟩ = some (.slice (some la) 2 lc) ∧ va.spot = none ∧ la.spot = none ∧ w'.cell? ⟨la.block, la.off + 3 + 2, none⟩ = some (.int .i64 8) ∧ Below w.heap.size w w') := by
    refine (alEntries_any (some ⟨V3.heap.size, 0, none⟩) (some ⟨q3, 0, none⟩) (some ⟨w1.heap.size, 0, none⟩) 5 1 1 jC [atP w.heap.size q2] [atB] 1 1 _ (hsl.below b12) (hps.below b12) (by simp) hbl1 (by simp)).mono ?_
    rintro e w' ⟨z1, _, z3⟩
    obtain ⟨v, L, rfl, hm, hL⟩ := z3 (at_bad _ _)
    rw [show ([atP w.heap.size q2] : List Po).length = 1 from rfl, at_all] at hL
    obtain ⟨j, rfl, _, _, _, hj⟩ := ep_one hL
    obtain ⟨va, vc, rfl, hjs⟩ := hm.isJs
    rcases hjs.lies with h0 | ⟨bb, off, rfl, hlt, hat⟩
    · cases h0
    have hat0 := hat 0 (by simp)
    have hln := hjs.lns j (List.mem_singleton.2 rfl)
    rw [hj] at hln
    rcases hln.lies with h0 | ⟨lb, lo, hla, hll', hlat⟩
    · cases h0
    have hl1 := (hlat 1 (by simp)).c2
    have hc3 := hat0.c3
    simp only [List.getD_cons_zero, Nat.zero_mul, Nat.add_zero] at hc3
    rw [hj, hla] at hc3
    exact ⟨⟨lb, lo, none⟩, j.cap, ⟨bb, off, none⟩, vc, rfl, hc3, rfl, rfl, by simpa using hl1, hbw1.trans ((b12.mono hbw1.size).trans (z1.mono (Nat.le_trans hbw1.size b12.size)))⟩
  clear hsl hps hbl1 b12 hb1 HF3 HAc
  go_wp2_with fail
  refine HE1.out.mono ?_
  rintro e w3 ⟨⟨lb, lo, ls⟩, lc, ⟨vb, vo, vs⟩, vc, rfl, e1, e2, e3, e4, hb3⟩
  simp only at e1 e2 e3 e4
  subst e2
  subst e3
  have HB3 : Hid (Below w.heap.size w w3) := hb3
  clear HE1 hb3 hbw1
  by_cases c0 : l.length = 0
  · have l0 : l = [] := List.eq_nil_of_length_eq_zero c0
    subst l0
    clear c0
    go_wp2
    go_ret
    exact ⟨rfl, HB3.out⟩
  obtain ⟨p, r, rfl⟩ : ∃ p r, l = p :: r := by
    cases l with
    | nil => exact absurd rfl c0
    | cons p r => exact ⟨p, r, rfl⟩
  have hls : ((p :: r).length : Int) = (r.length : Int) + 1 := by simp
  have n0 : (((p :: r).length : Int) == 0) = false := by rw [beq_eq_false_iff_ne]; omega
  obtain ⟨n, hn⟩ : ∃ n, (p :: r).length = n := ⟨_, rfl⟩
  have hcapn : (p :: r).length ≤ cap2 := HL.out.cap
  have hlp : 1 ≤ (p :: r).length := by simp
  rw [hn] at n0 hcapn hlp ⊢
  have HP : Hid (IsPs w a2 [p] cap2) := by
    have := HL.out.take 1
    exact this
  obtain ⟨b2, o2, rfl, _⟩ : ∃ b2 o2, a2 = some ⟨b2, o2, none⟩ ∧ True := by
    rcases HL.out.lies with h0 | ⟨b2, o2, e, _⟩
    · cases h0
    · exact ⟨b2, o2, e, trivial⟩
  have HT : Hid (PoTx p) := HTx.out p (List.mem_cons_self ..)
  have HEn : Hid (∀ W a' c' (R : List Bl), Below w.heap.size w W → IsBl W a' R c' → R.length ≤ 9223372036854775807 → Calls Tryz.prog 4 #[.slice a c.length cap, .slice (some ⟨b2, o2, none⟩) 1 cap2, .slice a' R.length c', .int .i64 en, .int .i64 2] W (AlEnd c [p] R en 2 W)) := fun W a' c' R hW hR hRl => alEntries_any a (some ⟨b2, o2, none⟩) a' cap cap2 c' c [p] R en 2 W (HC.out.below hW) (HP.out.below hW) (by simp) hR hRl
  have i1 : (1 : Int) ≤ cap2 := by omega
  have i2 : (1 : Int) ≤ n := by omega
  clear HL HTx HC HP hls c0 hn
  by_cases c1 : alBad c [p] b en 2 ≠ 0
  · have HE : Hid (Calls Tryz.prog 4 #[.slice a c.length cap, .slice (some ⟨b2, o2, none⟩) 1 cap2, .slice a3 b.length cap3, .int .i64 en, .int .i64 2] w3 fun e w' => e = .returned (.tuple #[.slice none 0 0, .iface 50 (.int .i64 (alBad c [p] b en 2))]) ∧ Below w.heap.size w w') := by
      refine (HEn.out w3 a3 cap3 b HB3.out (HB.out.below HB3.out) hbl).mono ?_
      rintro e w' ⟨z1, z2, _⟩
      exact ⟨by rw [z2 c1, chE_ne c1], HB3.out.trans (z1.mono HB3.out.size)⟩
    generalize alBad c [p] b en 2 = z at HE
    clear HEn c1
    go_wp2_with fail
    refine HE.out.mono ?_
    rintro e w4 ⟨rfl, hb4⟩
    have HB4 : Hid (Below w.heap.size w w4) := hb4
    clear HE hb4 e1 e4
    go_wp2
    go_ret
    exact ⟨rfl, HB4.out⟩
  have c1' := Decidable.of_not_not c1
  have HE : Hid (Calls Tryz.prog 4 #[.slice a c.length cap, .slice (some ⟨b2, o2, none⟩) 1 cap2, .slice a3 b.length cap3, .int .i64 en, .int .i64 2] w3 fun e w' => ∃ va vc L, e = .returned (.tuple #[.slice va L.length vc, .nilIface]) ∧ IsJs w' va L vc ∧ L.map Je.ep = alTo en 2 b [p] 1 ∧ Below w.heap.size w w') := by
    refine (HEn.out w3 a3 cap3 b HB3.out (HB.out.below HB3.out) hbl).mono ?_
    rintro e w' ⟨z1, _, z3⟩
    obtain ⟨v, L, rfl, hm, hL⟩ := z3 c1'
    obtain ⟨va, vc, rfl, hjs⟩ := hm.isJs
    exact ⟨va, vc, L, rfl, hjs, hL, HB3.out.trans (z1.mono HB3.out.size)⟩
  have HOne : Hid (alBad c [p] b en 2 = 0) := c1'
  clear c1 c1'
  go_wp2_with fail
  refine HE.out.mono ?_
  rintro e w4 ⟨va, vc, L, rfl, hjs, hL, hb4⟩
  obtain ⟨hm, hL1⟩ := al_lines hL
  have HM : Hid (lnsBs en (L.flatMap Je.lns) = (if getB b en p.acc p.cur = 0 then [] else lnsBs en (goL p (getB b en p.acc p.cur)))) := hm
  have HPk : Hid (PutOk (lnsBs en (L.flatMap Je.lns))) := by rw [hm]; exact lines_ok HOne.out HT.out hen
  have HJ : Hid (IsJs w4 va L vc) := hjs
  have HB4 : Hid (Below w.heap.size w w4) := hb4
  obtain ⟨ln, hln⟩ : ∃ ln, L.length = ln := ⟨_, rfl⟩
  have Hln : Hid (L.length = ln) := hln
  rw [hln] at hL1 ⊢
  have i3 : (ln : Int) ≤ 1 := by omega
  clear HE hjs hL hb4 hm hln e1 e4 HB3
  go_wp2
  go_loopw [14, 15] (fun v i wr => ∃ (k : Nat) (sa : Option Addr) (sn sc : Nat), k ≤ ln ∧ i = .int .i64 k ∧ v = .slice sa sn sc ∧ Hid (BlRow wr w4.heap.size (.slice sa sn sc) (putL [] (lnsBs en ((L.take k).flatMap Je.lns))) ∧ Below w4.heap.size w4 wr)) (fun _ i _ => ln - (RowKit.intOf i).toNat)
  case atStart => exact ⟨0, none, 0, 0, Nat.zero_le _, rfl, rfl, BlRow.nil _ _, Below.refl _ _⟩
  case round =>
    obtain ⟨k, sa, sn, sc, hk, rfl, rfl, HR⟩ := hrel
    by_cases hkl : k < ln
    · have hjk : k < L.length := by rw [Hln.out]; exact hkl
      rcases HJ.out.lies with h0 | ⟨jb, jo, hva, hjb, hat⟩
      · rw [h0] at hjk; simp at hjk
      subst hva
      have HA : Hid (∀ W, Below w4.heap.size w4 W → W.cell? ⟨jb, jo + k * 4 + 3, none⟩ = some (.slice (L.getD k je0).adr (L.getD k je0).lns.length (L.getD k je0).cap) ∧ IsLn W (L.getD k je0).adr (L.getD k je0).lns (L.getD k je0).cap) := fun W hW => ⟨((hat k hjk).below hW hjb).c3, (HJ.out.lns _ (jes_mem L k hjk)).below hW⟩
      have HTk : Hid ((L.take (k + 1)).flatMap Je.lns = (L.take k).flatMap Je.lns ++ (L.getD k je0).lns) := by
        rw [jes_take L k hjk]; unfold Hid; rw [List.flatMap_append]; simp
      have HSub : Hid (PutOk (lnsBs en ((L.take k).flatMap Je.lns ++ (L.getD k je0).lns))) := by
        rw [← HTk.out]
        have e : lnsBs en (L.flatMap Je.lns) = lnsBs en ((L.take (k + 1)).flatMap Je.lns) ++ lnsBs en ((L.drop (k + 1)).flatMap Je.lns) := by
          unfold lnsBs
          rw [← List.map_append, ← List.flatMap_append, List.take_append_drop]
        have q := HPk.out
        rw [e] at q
        exact ⟨by have := q.len; rw [List.length_append] at this; omega, fun x hx => q.amt x (List.mem_append_left _ hx), fun x hx => q.key x (List.mem_append_left _ hx)⟩
      have j0 : (0 : Int) ≤ k := by omega
      have j1 : (k : Int) < ln := by omega
      clear hat
      generalize L.getD k je0 = je at *
      generalize (L.take k).flatMap Je.lns = ahd at *
      have HSt : Hid (∀ j, j < je.lns.length → putL [] (lnsBs en (ahd ++ je.lns.take (j + 1))) = putB (putL [] (lnsBs en (ahd ++ je.lns.take j))) (lnB en (je.lns.getD j ln0)) ∧ (putL [] (lnsBs en (ahd ++ je.lns.take j))).length ≤ 400 ∧ (∀ y ∈ putL [] (lnsBs en (ahd ++ je.lns.take j)), y.key = (lnB en (je.lns.getD j ln0)).key → -9223372036854775808 ≤ y.amt + (lnB en (je.lns.getD j ln0)).amt ∧ y.amt + (lnB en (je.lns.getD j ln0)).amt ≤ 9223372036854775807)) := fun j hj => by
        have hsub : PutOk (lnsBs en (ahd ++ je.lns.take j)) := by
          have := HSub.out.take (ahd.length + j)
          unfold lnsBs at this ⊢
          rw [← List.map_take, List.take_append, List.take_of_length_le (by omega), show ahd.length + j - ahd.length = j by omega] at this
          exact this
        refine ⟨put_more en ahd je.lns j hj, ?_, put_next hsub ?_⟩
        · have := putL_length (lnsBs en (ahd ++ je.lns.take j)) []
          have h2 := hsub.len
          simp only [List.length_nil] at this
          omega
        · exact HSub.out.amt (lnB en (je.lns.getD j ln0)) (List.mem_map.2 ⟨_, List.mem_append_right _ (lns_mem je.lns j hj), rfl⟩)
      obtain ⟨wo, hwo⟩ : ∃ wo, wo = wr := ⟨_, rfl⟩
      subst hwo
      have HFirst : Hid (BlRow wo w4.heap.size (.slice sa sn sc) (putL [] (lnsBs en (ahd ++ je.lns.take 0))) ∧ Below w4.heap.size w4 wo) := by
        have := HR.out
        rw [List.take_zero, List.append_nil]
        exact this
      obtain ⟨jr, jen, jpe, lad, lcp, lns⟩ := je
      simp only at HA HSt HFirst HTk HSub
      obtain ⟨f3, _⟩ := HA.out wo HR.out.2
      have l20 : lns.length ≤ 150 := by
        have := HSub.out.len
        unfold lnsBs at this
        rw [List.length_map, List.length_append] at this
        omega
      have i6 : (lns.length : Int) ≤ 150 := by omega
      clear HR
      go_wp2
      go_loopw [14, 16] (fun v i wr => ∃ (j : Nat) (sa : Option Addr) (sn sc : Nat), j ≤ lns.length ∧ i = .int .i64 j ∧ v = .slice sa sn sc ∧ Hid (BlRow wr w4.heap.size (.slice sa sn sc) (putL [] (lnsBs en (ahd ++ lns.take j))) ∧ Below w4.heap.size w4 wr)) (fun _ i _ => lns.length - (RowKit.intOf i).toNat)
      case atStart => exact ⟨0, sa, sn, sc, Nat.zero_le _, rfl, rfl, HFirst⟩
      case round =>
        obtain ⟨j, sa, sn, sc, hj, rfl, rfl, HR⟩ := hrel
        clear f3
        obtain ⟨f3, hli⟩ := HA.out wr HR.out.2
        by_cases hjl : j < lns.length
        · rcases hli.lies with h0 | ⟨lb, lo, hla, hlb, hlat⟩
          · rw [h0] at hjl; simp at hjl
          subst hla
          have hy := hlat j hjl
          obtain ⟨st1, st2, st3⟩ := HSt.out j hjl
          obtain ⟨r1, r2⟩ := HR.out
          obtain ⟨hsn, hib⟩ := BlRow.isBl' r1
          have x0 : Below wr.heap.size wr (wr.alloc (.cells (lns.getD j ln0).cells 38)) := (Below.refl _ wr).alloc (Nat.le_refl _) _
          have x1 := r2.alloc r2.size (.cells (lns.getD j ln0).cells 38)
          have hnw := LnAt.new wr (lns.getD j ln0) 38
          have HPu : Hid (Calls Tryz.prog 6 #[.slice sa sn sc, .agg (lnB en (lns.getD j ln0)).cells] (wr.alloc (.cells (lns.getD j ln0).cells 38)) fun e w' => ∃ ta tn tc, e = .returned (.slice ta tn tc) ∧ BlRow w' w4.heap.size (.slice ta tn tc) (putL [] (lnsBs en (ahd ++ lns.take (j + 1)))) ∧ Below w4.heap.size w4 w') := by
            have := lmPut_any sa sc (putL [] (lnsBs en (ahd ++ lns.take j))) (lnB en (lns.getD j ln0)) (wr.alloc (.cells (lns.getD j ln0).cells 38)) st2 (hib.below x0) st3
            rw [← hsn] at this
            refine this.mono ?_
            rintro e w' ⟨v, rfl, hh⟩
            obtain ⟨z1, z2⟩ := hh.out
            obtain ⟨ta, tc, ev, _⟩ := z1.isBl
            subst ev
            refine ⟨ta, _, tc, rfl, ?_, x1.trans (z2.mono x1.size)⟩
            rw [st1]
            exact z1.mono x1.size
          clear st1 st2 st3 r1 r2 hsn hib x0 x1 HR hli hlat
          generalize lns.getD j ln0 = y at *
          obtain ⟨y0, y1, y2⟩ := y
          obtain ⟨g0, g1, g2⟩ := hy
          obtain ⟨k0, k1, k2⟩ := hnw
          simp only [Ln.cells, Bl.cells, lnB, Nat.zero_add] at g0 g1 g2 k0 k1 k2 HPu
          have m0 : (0 : Int) ≤ j := by omega
          have m1 : (j : Int) < lns.length := by omega
          clear HSt HTk HSub HFirst HA
          go_wp2_with fail
          refine HPu.out.mono ?_
          rintro e w5 ⟨ta, tn, tc, rfl, z1, z2⟩
          have HR5 : Hid (BlRow w5 w4.heap.size (.slice ta tn tc) (putL [] (lnsBs en (ahd ++ lns.take (j + 1)))) ∧ Below w4.heap.size w4 w5) := ⟨z1, z2⟩
          clear HPu z1 z2
          go_wp2
          go_roundw
          case rel => exact ⟨j + 1, ta, tn, tc, by omega, by go_num, rfl, HR5⟩
          case measure => simp [RowKit.intOf]; omega
        · have ej : j = lns.length := by omega
          subst ej
          have HR6 : Hid (BlRow wr w4.heap.size (.slice sa sn sc) (putL [] (lnsBs en ((L.take (k + 1)).flatMap Je.lns))) ∧ Below w4.heap.size w4 wr) := by
            have := HR.out
            rw [List.take_length] at this
            rw [HTk.out]
            exact this
          have m1 : ¬ (lns.length : Int) < lns.length := by omega
          clear HR HSt HTk HSub HFirst HA hli
          go_wp2
          go_roundw
          case rel => exact ⟨k + 1, sa, sn, sc, by omega, by go_num, rfl, HR6⟩
          case measure => simp [RowKit.intOf]; omega
    · have ek : k = ln := by omega
      subst ek
      obtain ⟨r1, r2⟩ := HR.out
      have hLn := Hln.out
      rw [List.take_of_length_le (by omega)] at r1
      obtain ⟨hsn, hib⟩ := BlRow.isBl' r1
      obtain ⟨M, hM⟩ : ∃ M, lnsBs en (L.flatMap Je.lns) = M := ⟨_, rfl⟩
      rw [hM] at r1 hsn hib HM HPk
      have hbw : Below w.heap.size w wr := HB4.out.trans (r2.mono HB4.out.size)
      have hlen4 : (putL [] M).length ≤ 400 := by
        have := putL_length M []
        have h2 := HPk.out.len
        simp only [List.length_nil] at this
        omega
      have HFu : Hid (Calls Tryz.prog 8 #[.slice sa sn sc] wr fun e w' => ∃ ta tc, e = .returned (.slice ta (full (putL [] M)).length tc) ∧ IsBl w' ta (full (putL [] M)) tc ∧ Below w.heap.size w w') := by
        have := lmFull_any sa sc (putL [] M) wr hlen4 hib
        rw [← hsn] at this
        refine this.mono ?_
        rintro e w' ⟨v, rfl, hh⟩
        obtain ⟨z1, z2⟩ := hh.out
        obtain ⟨ta, tc, ev, hi⟩ := z1.isBl
        subst ev
        exact ⟨ta, tc, rfl, hi, hbw.trans (z2.mono hbw.size)⟩
      have hfl : (full (putL [] M)).length ≤ 9223372036854775807 := by
        have := List.length_filter_le (fun x : Bl => x.amt != 0) (putL [] M)
        have e : (full (putL [] M)).length ≤ (putL [] M).length := this
        omega
      have HMo : Hid (∀ x ∈ full (putL [] M), BlOk x) := put_ok HPk.out
      have HGo : Hid (∀ R, mgE b (full (putL [] M)) = 0 → MgR b (full (putL [] M)) R → alBad c [p] R en 2 = 0 ∧ alTo en 2 R [p] 1 = [] ∧ R.length ≤ 9223372036854775807) := fun R h1 h2 => by
        obtain ⟨o1, o2, o3, o4, o5⟩ := al_one HOne.out
        obtain ⟨g1, g2⟩ := gone o1 o2 M HM.out h1 h2
        obtain ⟨t1, t2⟩ := al_again o4 g2 o5 g1
        exact ⟨t1, t2, by have := h2.len; omega⟩
      have HBw : Hid (IsBl w a3 b cap3) := HB.out
      have j1 : ¬ (k : Int) < k := by omega
      clear r1 r2 hsn hib HR hM HM HPk hLn hlen4 HJ HT HB4
      go_wp2_with fail
      refine HFu.out.mono ?_
      rintro e w5 ⟨ta, tc, rfl, hif, hb5⟩
      have HIF : Hid (IsBl w5 ta (full (putL [] M)) tc) := hif
      have HB5 : Hid (Below w.heap.size w w5) := hb5
      clear HFu hif hb5 hbw
      generalize full (putL [] M) = F at *
      by_cases c2 : mgE b F ≠ 0
      · have HMg : Hid (Calls _ _ _ _ _) := merge_bad a3 ta cap3 tc b F w5 (HBw.out.below HB5.out) HIF.out hbl hfl HBo.out HMo.out c2
        generalize mgE b F = z at HMg
        clear HGo c2 HMo HBo
        go_wp2_with fail
        refine HMg.out.mono ?_
        rintro e w6 ⟨rfl, hb6⟩
        have HB6 : Hid (Below w.heap.size w w6) := HB5.out.trans (hb6.mono HB5.out.size)
        clear HMg hb6
        go_wp2
        go_ret
        exact ⟨rfl, HB6.out⟩
      have c2' := Decidable.of_not_not c2
      have HMg : Hid (Calls _ _ _ _ _) := merge_ok a3 ta cap3 tc b F w5 (HBw.out.below HB5.out) HIF.out HBo.out HMo.out c2'
      go_wp2_with fail
      refine HMg.out.mono ?_
      rintro e w6 ⟨ra, rc, R, rfl, hh⟩
      obtain ⟨hb6, hir, hmr⟩ := hh.out
      obtain ⟨t1, t2, t3⟩ := HGo.out R c2' hmr
      have hbw6 := HB5.out.trans (hb6.mono HB5.out.size)
      have HE2 : Hid (Calls Tryz.prog 4 #[.slice a c.length cap, .slice (some ⟨b2, o2, none⟩) 1 cap2, .slice ra R.length rc, .int .i64 en, .int .i64 2] w6 fun e w' => ∃ xa xc, e = .returned (.tuple #[.slice xa 0 xc, .nilIface]) ∧ Below w.heap.size w w') := by
        refine (HEn.out w6 ra rc R hbw6 hir t3).mono ?_
        rintro e w' ⟨z1, _, z3⟩
        obtain ⟨v, L', rfl, hm', hL'⟩ := z3 t1
        rw [show ([p] : List Po).length = 1 from rfl, t2] at hL'
        have e0 : L' = [] := List.map_eq_nil_iff.1 hL'
        subst e0
        obtain ⟨xa, xc, rfl, _⟩ := hm'.isJs
        exact ⟨xa, xc, rfl, hbw6.trans (z1.mono hbw6.size)⟩
      clear HMg hh hb6 hir hmr t1 t2 t3 hbw6 HGo HEn c2 c2' HMo HBo HIF HBw
      go_wp2_with fail
      refine HE2.out.mono ?_
      rintro e w7 ⟨xa, xc, rfl, hb7⟩
      have HB7 : Hid (Below w.heap.size w w7) := hb7
      clear HE2 hb7
      go_wp2
      go_ret
      exact ⟨rfl, HB7.out⟩
end Go.Proofs.YtmlooibihjfahaaGreatDoor

namespace Go.Proofs.YtmlooibihjfahaaGreatDoor
set_option linter.unusedVariables false
set_option linter.unusedSimpArgs false
set_option maxRecDepth 100000
open Go.RowKit Go.Lib Go.Deep

section
variable {H : Type} {enc : TypeId × Value → H} {w : World} {base : Nat} {spare : Nat → Bool} {held : Bool}

theorem ch_string {m : Nat} {c : Value} {y : DataW H × List MemPlace} (h : DataW.trod enc Tryz.prog w base spare held m 9 [c] = some y) : ∃ s, c = .string s ∧ s.size ≤ maxLen := by
  cases m with
  | zero => simp [DataW.trod] at h
  | succ m =>
    rw [DataW.trod_step] at h
    unfold DataW.trodStep at h
    rw [Tryz.underlying9] at h
    cases c <;> simp at h
    exact ⟨_, rfl, h.1⟩

theorem ch_int {m : Nat} {c : Value} {y : DataW H × List MemPlace} (h : DataW.trod enc Tryz.prog w base spare held m 3 [c] = some y) : ∃ n, c = .int .i64 n ∧ (Lit.int .i64 n).wf = true := by
  cases m with
  | zero => simp [DataW.trod] at h
  | succ m =>
    rw [DataW.trod_step] at h
    unfold DataW.trodStep at h
    rw [Tryz.underlying3] at h
    cases c <;> simp at h
    rename_i k n
    obtain ⟨⟨rfl, h2⟩, _⟩ := h
    exact ⟨n, rfl, h2⟩

theorem ch_bool {m : Nat} {c : Value} {y : DataW H × List MemPlace} (h : DataW.trod enc Tryz.prog w base spare held m 4 [c] = some y) : ∃ n, c = .bool n := by
  cases m with
  | zero => simp [DataW.trod] at h
  | succ m =>
    rw [DataW.trod_step] at h
    unfold DataW.trodStep at h
    rw [Tryz.underlying4] at h
    cases c <;> simp at h
    exact ⟨_, rfl⟩

/-- What is asked of an account that came in. -/
def AcOk (a : Ac) : Prop := a.code.size ≤ maxLen ∧ a.name.size ≤ maxLen ∧ (Lit.int .i64 a.kind).wf = true ∧ a.par.size ≤ maxLen

theorem acct_cells : Tryz.prog.cellsOf 56 = 5 := by kernel_rfl
theorem acct_str : Tryz.prog.cellsOf 9 = 1 := by kernel_rfl
theorem acct_int : Tryz.prog.cellsOf 3 = 1 := by kernel_rfl
theorem acct_bool : Tryz.prog.cellsOf 4 = 1 := by kernel_rfl

theorem open_acct {m : Nat} {cs : List Value} {x : DataW H × List MemPlace} (h : DataW.trod enc Tryz.prog w base spare held m 56 cs = some x) : ∃ a : Ac, cs = a.cells.toList ∧ AcOk a := by
  cases m with
  | zero => simp [DataW.trod] at h
  | succ m =>
    rw [DataW.trod_step] at h
    unfold DataW.trodStep at h
    rw [Tryz.underlying56] at h
    simp only [acct_cells] at h
    split at h
    · rename_i hl
      match cs, hl with
      | [c0, c1, c2, c3, c4], _ =>
        simp [acct_str, acct_int, acct_bool] at h
        cases h0 : DataW.trod enc Tryz.prog w base spare held m 9 [c0]
        · simp [h0] at h
        cases h1 : DataW.trod enc Tryz.prog w base spare held m 9 [c1]
        · simp [h0, h1] at h
        cases h2 : DataW.trod enc Tryz.prog w base spare held m 3 [c2]
        · simp [h0, h1, h2] at h
        cases h3 : DataW.trod enc Tryz.prog w base spare held m 9 [c3]
        · simp [h0, h1, h2, h3] at h
        cases h4 : DataW.trod enc Tryz.prog w base spare held m 4 [c4]
        · simp [h0, h1, h2, h3, h4] at h
        obtain ⟨f, rfl, hf⟩ := ch_string h0
        obtain ⟨t, rfl, ht⟩ := ch_string h1
        obtain ⟨p, rfl, hp⟩ := ch_int h2
        obtain ⟨n, rfl, hn⟩ := ch_string h3
        obtain ⟨d, rfl⟩ := ch_bool h4
        exact ⟨⟨f, t, p, n, d⟩, rfl, hf, ht, hp, hn⟩
    · cases h

theorem ac_cells (w : World) (b off : Nat) (a : Ac) (h : ∀ i, i < 5 → w.cell? ⟨b, off + i, none⟩ = a.cells.toList[i]?) : AcAt w b off a :=
  ⟨h 0 (by omega), h 1 (by omega), h 2 (by omega), h 3 (by omega), h 4 (by omega)⟩

theorem ch_add (b off n : Nat) : (⟨b, off, none⟩ : Addr).add n = ⟨b, off + n, none⟩ := by
  unfold Addr.add
  split
  · rename_i h; subst h; rfl
  · rfl

/-- A chart that came in. -/
theorem acs_of_trod {W : World} {a : Option Addr} {len cap fuel : Nat} {x : DataW H × List MemPlace} (h : DataW.trod enc Tryz.prog W 0 (fun _ => true) true fuel 22 [.slice a len cap] = some x) :
    ∃ l : List Ac, l.length = len ∧ (∀ k, k < l.length → AcOk (l.getD k ac0)) ∧ IsSl W a l cap := by
  rcases open_slice Tryz.underlying22 h with ⟨hcs, _⟩ | ⟨x, l, c, m, n, D, Pl, hcs, _, hl, hm, hmm, _, hx⟩
  · simp at hcs
    obtain ⟨rfl, rfl, rfl⟩ := hcs
    exact ⟨[], rfl, by simp, ⟨by simp, .inl rfl⟩⟩
  · simp at hcs
    obtain ⟨rfl, rfl, rfl⟩ := hcs
    have hmm2 : m = cap := hmm
    rw [acct_cells] at hx
    have hr : ∀ i, i < len → ∃ r : Ac, (∀ j, j < 5 → W.cell? ((x.add (i * 5)).add j) = r.cells.toList[j]?) ∧ AcOk r := fun i hi => by
      obtain ⟨cs', h1, h2⟩ := hx i (by omega)
      obtain ⟨r, rfl, ok⟩ := open_acct h2
      exact ⟨r, (World.cells?_some h1).2.2, ok⟩
    obtain ⟨f, hf⟩ := @choose_lt Ac ⟨ac0⟩ _ _ hr
    have hget : ∀ k, k < len → ((List.range len).map f).getD k ac0 = f k := fun k hk => by simp [List.getD, hk]
    have hlen : ((List.range len).map f).length = len := by simp
    refine ⟨(List.range len).map f, hlen, fun k hk => ?_, ⟨by rw [hlen]; exact hl, ?_⟩⟩
    · rw [hlen] at hk
      rw [hget k hk]
      exact (hf k hk).2
    · by_cases h0 : len = 0
      · subst h0
        exact .inl rfl
      · right
        obtain ⟨b, off, spot⟩ := x
        have hc : W.cell? ⟨b, off, spot⟩ = some (.string (f 0).code) := (hf 0 (by omega)).1 0 (by omega)
        have hspot : spot = none := World.cell?_spot hc
        subst hspot
        have hlt : b < W.heap.size := World.block_lt_of_cell? _ _ hc
        refine ⟨b, off, rfl, hlt, fun k hk => ?_⟩
        rw [hlen] at hk
        rw [hget k hk]
        refine ac_cells W b (off + k * 5) (f k) (fun i hi => ?_)
        have := (hf k hk).1 i hi
        rw [ch_add, ch_add] at this
        exact this
end
end Go.Proofs.YtmlooibihjfahaaGreatDoor

namespace Go.Proofs.YtmlooibihjfahaaGreatDoor
set_option linter.unusedVariables false
set_option linter.unusedSimpArgs false
set_option maxRecDepth 100000
open Go.RowKit Go.Lib

theorem ld_add (b off i : Nat) : (⟨b, off, none⟩ : Addr).add i = ⟨b, off + i, none⟩ := by
  rcases Nat.eq_zero_or_pos i with h | h
  · subst h; simp [Addr.add]
  · simp [Addr.add]; omega
theorem ld_wf {n : Int} (h : (Lit.int .i64 n).wf = true) : -9223372036854775808 ≤ n ∧ n ≤ 9223372036854775807 := by
  simp [Lit.wf, IntKind.min, IntKind.max, IntKind.bits, IntKind.signed] at h
  omega
section
variable {H : Type} {enc : TypeId × Value → H}
theorem ld_cell_string {w : World} {base : Nat} {spare : Nat → Bool} {held : Bool} {m : Nat} {c : Value} {y : DataW H × List MemPlace} (h : DataW.trod enc Tryz.prog w base spare held m 9 [c] = some y) : ∃ s, c = .string s ∧ s.size ≤ maxLen := by
  cases m with
  | zero => simp [DataW.trod] at h
  | succ m =>
    rw [DataW.trod_step] at h
    unfold DataW.trodStep at h
    rw [Tryz.underlying9] at h
    cases c <;> simp at h
    exact ⟨_, rfl, h.1⟩

theorem ld_cell_int {w : World} {base : Nat} {spare : Nat → Bool} {held : Bool} {m : Nat} {c : Value} {y : DataW H × List MemPlace} (h : DataW.trod enc Tryz.prog w base spare held m 3 [c] = some y) : ∃ n, c = .int .i64 n ∧ (Lit.int .i64 n).wf = true := by
  cases m with
  | zero => simp [DataW.trod] at h
  | succ m =>
    rw [DataW.trod_step] at h
    unfold DataW.trodStep at h
    rw [Tryz.underlying3] at h
    cases c <;> simp at h
    rename_i k n
    obtain ⟨⟨rfl, h2⟩, _⟩ := h
    exact ⟨n, rfl, h2⟩

theorem ld_bal_cells : Tryz.prog.cellsOf 36 = 4 := by kernel_rfl
theorem ld_open_bal {w : World} {base : Nat} {spare : Nat → Bool} {held : Bool} {m : Nat} {cs : List Value} {x : DataW H × List MemPlace} (h : DataW.trod enc Tryz.prog w base spare held m 36 cs = some x) : ∃ a : Bl, cs = a.cells.toList ∧ BlOk a := by
  cases m with
  | zero => simp [DataW.trod] at h
  | succ m =>
    rw [DataW.trod_step] at h
    unfold DataW.trodStep at h
    rw [Tryz.underlying36] at h
    simp only [ld_bal_cells] at h
    split at h
    · rename_i hl
      match cs, hl with
      | [c0, c1, c2, c3], _ =>
        simp [ldP_str, ldP_int] at h
        cases h0 : DataW.trod enc Tryz.prog w base spare held m 3 [c0]
        · simp [h0] at h
        cases h1 : DataW.trod enc Tryz.prog w base spare held m 9 [c1]
        · simp [h0, h1] at h
        cases h2 : DataW.trod enc Tryz.prog w base spare held m 9 [c2]
        · simp [h0, h1, h2] at h
        cases h3 : DataW.trod enc Tryz.prog w base spare held m 3 [c3]
        · simp [h0, h1, h2, h3] at h
        obtain ⟨f, rfl, hf⟩ := ld_cell_int h0
        obtain ⟨s, rfl, hs⟩ := ld_cell_string h1
        obtain ⟨t, rfl, ht⟩ := ld_cell_string h2
        obtain ⟨p, rfl, hp⟩ := ld_cell_int h3
        exact ⟨⟨f, s, t, p⟩, rfl, ⟨ld_wf hf, hs, ht⟩, ld_wf hp⟩
    · cases h

/-- Balances that came in. -/
theorem ld_bls_of_trod {W : World} {a : Option Addr} {len cap fuel : Nat} {x : DataW H × List MemPlace} (h : DataW.trod enc Tryz.prog W 0 (fun _ => true) true fuel 24 [.slice a len cap] = some x) :
    ∃ l : List Bl, l.length = len ∧ IsBl W a l cap ∧ (∀ x ∈ l, BlOk x) ∧ len ≤ maxLen := by
  rcases Go.Deep.open_slice Tryz.underlying24 h with ⟨hcs, _⟩ | ⟨x, l, c, m, n, D, Pl, hcs, _, hl, hm, hmm, _, hx⟩
  · simp at hcs
    obtain ⟨rfl, rfl, rfl⟩ := hcs
    exact ⟨[], rfl, ⟨by simp, .inl rfl⟩, by simp, by unfold maxLen; omega⟩
  · simp at hcs
    obtain ⟨rfl, rfl, rfl⟩ := hcs
    have hmm2 : m = cap := hmm
    rw [ld_bal_cells] at hx
    have hr : ∀ i, i < len → ∃ r : Bl, (∀ j, j < 4 → W.cell? ((x.add (i * 4)).add j) = r.cells.toList[j]?) ∧ BlOk r := fun i hi => by
      obtain ⟨cs', h1, h2⟩ := hx i (by omega)
      obtain ⟨r, rfl, hw⟩ := ld_open_bal h2
      exact ⟨r, (World.cells?_some h1).2.2, hw⟩
    obtain ⟨f, hf⟩ := @Go.Deep.choose_lt Bl ⟨bl0⟩ _ _ hr
    have hget : ∀ k, k < len → ((List.range len).map f).getD k bl0 = f k := fun k hk => by simp [List.getD, hk]
    have hlen : ((List.range len).map f).length = len := by simp
    refine ⟨(List.range len).map f, hlen, ⟨by rw [hlen]; exact hl, ?_⟩, ?_, Nat.le_trans hl hm⟩
    · by_cases h0 : len = 0
      · subst h0
        exact .inl rfl
      · right
        obtain ⟨b, off, spot⟩ := x
        have hc : W.cell? ⟨b, off, spot⟩ = some (.int .i64 (f 0).ent) := (hf 0 (by omega)).1 0 (by omega)
        have hspot : spot = none := World.cell?_spot hc
        subst hspot
        have hlt : b < W.heap.size := World.block_lt_of_cell? _ _ hc
        refine ⟨b, off, rfl, hlt, fun k hk => ?_⟩
        rw [hlen] at hk
        rw [hget k hk]
        have C : ∀ i, i < 4 → W.cell? ⟨b, off + k * 4 + i, none⟩ = (f k).cells.toList[i]? := fun i hi => by
          have := (hf k hk).1 i hi
          rw [ld_add, ld_add] at this
          exact this
        exact ⟨C 0 (by omega), C 1 (by omega), C 2 (by omega), C 3 (by omega)⟩
    · intro y hy
      obtain ⟨k, hk, rfl⟩ := List.mem_map.1 hy
      exact (hf k (List.mem_range.1 hk)).2

end

end Go.Proofs.YtmlooibihjfahaaGreatDoor

namespace Go.Proofs.YtmlooibihjfahaaGreatDoor
set_option linter.unusedVariables false
set_option linter.unusedSimpArgs false
set_option maxRecDepth 100000
open Go.RowKit Go.Lib
section
variable {H : Type} {enc : TypeId × Value → H}
theorem al_str_cells : Tryz.prog.cellsOf 9 = 1 := by kernel_rfl
theorem al_int_cells : Tryz.prog.cellsOf 3 = 1 := by kernel_rfl
/-- Texts that came in. -/
theorem txs_of_trod {W : World} {a : Option Addr} {len cap fuel : Nat} {x : DataW H × List MemPlace} (h : DataW.trod enc Tryz.prog W 0 (fun _ => true) true fuel 25 [.slice a len cap] = some x) :
    ∃ l : List ByteArray, l.length = len ∧ IsTx W a l cap ∧ (∀ t ∈ l, t.size ≤ maxLen) ∧ len ≤ maxLen := by
  rcases Go.Deep.open_slice Tryz.underlying25 h with ⟨hcs, _⟩ | ⟨x, l, c, m, n, D, Pl, hcs, _, hl, hm, hmm, _, hx⟩
  · simp at hcs
    obtain ⟨rfl, rfl, rfl⟩ := hcs
    exact ⟨[], rfl, ⟨by simp, .inl rfl⟩, by simp, by unfold maxLen; omega⟩
  · simp at hcs
    obtain ⟨rfl, rfl, rfl⟩ := hcs
    have hmm2 : m = cap := hmm
    rw [al_str_cells] at hx
    have hr : ∀ i, i < len → ∃ r : ByteArray, W.cell? (x.add (i * 1)) = some (.string r) ∧ r.size ≤ maxLen := fun i hi => by
      obtain ⟨cs', h1, h2⟩ := hx i (by omega)
      have hl1 : cs'.length = 1 := (World.cells?_some h1).2.1
      match cs', hl1 with
      | [c0], _ =>
        obtain ⟨s, rfl, hs⟩ := ld_cell_string h2
        have := (World.cells?_some h1).2.2 0 (by omega)
        simp [Addr.add] at this
        refine ⟨s, ?_, hs⟩
        simpa [Addr.add] using this
    obtain ⟨f, hf⟩ := @Go.Deep.choose_lt ByteArray ⟨ByteArray.empty⟩ _ _ hr
    have hget : ∀ k, k < len → ((List.range len).map f).getD k ByteArray.empty = f k := fun k hk => by simp [List.getD, hk]
    have hlen : ((List.range len).map f).length = len := by simp
    refine ⟨(List.range len).map f, hlen, ⟨by rw [hlen]; exact hl, ?_⟩, ?_, Nat.le_trans hl hm⟩
    · by_cases h0 : len = 0
      · subst h0
        exact .inl rfl
      · right
        obtain ⟨b, off, spot⟩ := x
        have hc := (hf 0 (by omega)).1
        simp only [Nat.zero_mul] at hc
        have hc' : W.cell? ⟨b, off, spot⟩ = some (.string (f 0)) := by simpa [Addr.add] using hc
        have hspot : spot = none := World.cell?_spot hc'
        subst hspot
        refine ⟨b, off, rfl, World.block_lt_of_cell? _ _ hc', fun k hk => ?_⟩
        rw [hlen] at hk
        rw [hget k hk]
        have := (hf k hk).1
        rw [Nat.mul_one, ld_add] at this
        exact this
    · intro y hy
      obtain ⟨k, hk, rfl⟩ := List.mem_map.1 hy
      exact (hf k (List.mem_range.1 hk)).2
/-- Numbers that came in. -/
theorem ws_of_trod {W : World} {a : Option Addr} {len cap fuel : Nat} {x : DataW H × List MemPlace} (h : DataW.trod enc Tryz.prog W 0 (fun _ => true) true fuel 26 [.slice a len cap] = some x) :
    ∃ l : List Int, l.length = len ∧ IsW W a l cap ∧ (∀ t ∈ l, -9223372036854775808 ≤ t ∧ t ≤ 9223372036854775807) ∧ len ≤ maxLen := by
  rcases Go.Deep.open_slice Tryz.underlying26 h with ⟨hcs, _⟩ | ⟨x, l, c, m, n, D, Pl, hcs, _, hl, hm, hmm, _, hx⟩
  · simp at hcs
    obtain ⟨rfl, rfl, rfl⟩ := hcs
    exact ⟨[], rfl, ⟨by simp, .inl rfl⟩, by simp, by unfold maxLen; omega⟩
  · simp at hcs
    obtain ⟨rfl, rfl, rfl⟩ := hcs
    have hmm2 : m = cap := hmm
    rw [al_int_cells] at hx
    have hr : ∀ i, i < len → ∃ r : Int, W.cell? (x.add (i * 1)) = some (.int .i64 r) ∧ (-9223372036854775808 ≤ r ∧ r ≤ 9223372036854775807) := fun i hi => by
      obtain ⟨cs', h1, h2⟩ := hx i (by omega)
      have hl1 : cs'.length = 1 := (World.cells?_some h1).2.1
      match cs', hl1 with
      | [c0], _ =>
        obtain ⟨s, rfl, hs⟩ := ld_cell_int h2
        have := (World.cells?_some h1).2.2 0 (by omega)
        simp [Addr.add] at this
        refine ⟨s, ?_, ld_wf hs⟩
        simpa [Addr.add] using this
    obtain ⟨f, hf⟩ := @Go.Deep.choose_lt Int ⟨0⟩ _ _ hr
    have hget : ∀ k, k < len → ((List.range len).map f).getD k 0 = f k := fun k hk => by simp [List.getD, hk]
    have hlen : ((List.range len).map f).length = len := by simp
    refine ⟨(List.range len).map f, hlen, ⟨by rw [hlen]; exact hl, ?_⟩, ?_, Nat.le_trans hl hm⟩
    · by_cases h0 : len = 0
      · subst h0
        exact .inl rfl
      · right
        obtain ⟨b, off, spot⟩ := x
        have hc := (hf 0 (by omega)).1
        simp only [Nat.zero_mul] at hc
        have hc' : W.cell? ⟨b, off, spot⟩ = some (.int .i64 (f 0)) := by simpa [Addr.add] using hc
        have hspot : spot = none := World.cell?_spot hc'
        subst hspot
        refine ⟨b, off, rfl, World.block_lt_of_cell? _ _ hc', fun k hk => ?_⟩
        rw [hlen] at hk
        rw [hget k hk]
        have := (hf k hk).1
        rw [Nat.mul_one, ld_add] at this
        exact this
    · intro y hy
      obtain ⟨k, hk, rfl⟩ := List.mem_map.1 hy
      exact (hf k (List.mem_range.1 hk)).2
theorem al_pool_cells : Tryz.prog.cellsOf 28 = 4 := by kernel_rfl
theorem al_txs_cells : Tryz.prog.cellsOf 25 = 1 := by kernel_rfl
theorem al_ws_cells : Tryz.prog.cellsOf 26 = 1 := by kernel_rfl
theorem al_cell_txs {w : World} {base : Nat} {spare : Nat → Bool} {held : Bool} {m : Nat} {c : Value} {y : DataW H × List MemPlace} (h : DataW.trod enc Tryz.prog w base spare held m 25 [c] = some y) : ∃ a len cap, c = .slice a len cap := by
  rcases Go.Deep.open_slice Tryz.underlying25 h with ⟨hcs, _⟩ | ⟨x, l, c', m, n, D, Pl, hcs, _⟩
  · simp at hcs; exact ⟨_, _, _, hcs⟩
  · simp at hcs; exact ⟨_, _, _, hcs⟩
theorem al_cell_ws {w : World} {base : Nat} {spare : Nat → Bool} {held : Bool} {m : Nat} {c : Value} {y : DataW H × List MemPlace} (h : DataW.trod enc Tryz.prog w base spare held m 26 [c] = some y) : ∃ a len cap, c = .slice a len cap := by
  rcases Go.Deep.open_slice Tryz.underlying26 h with ⟨hcs, _⟩ | ⟨x, l, c', m, n, D, Pl, hcs, _⟩
  · simp at hcs; exact ⟨_, _, _, hcs⟩
  · simp at hcs; exact ⟨_, _, _, hcs⟩
theorem al_open_pool {w : World} {m : Nat} {cs : List Value} {x : DataW H × List MemPlace} (h : DataW.trod enc Tryz.prog w 0 (fun _ => true) true m 28 cs = some x) :
    ∃ p : Po, cs = p.cells.toList ∧ PoOk w p ∧ PoTx p := by
  cases m with
  | zero => simp [DataW.trod] at h
  | succ m =>
    rw [DataW.trod_step] at h
    unfold DataW.trodStep at h
    rw [Tryz.underlying28] at h
    simp only [al_pool_cells] at h
    split at h
    · rename_i hl
      match cs, hl with
      | [c0, c1, c2, c3], _ =>
        simp [ldP_str, al_txs_cells, al_ws_cells] at h
        cases h0 : DataW.trod enc Tryz.prog w 0 (fun _ => true) true m 9 [c0]
        · simp [h0] at h
        cases h1 : DataW.trod enc Tryz.prog w 0 (fun _ => true) true m 9 [c1]
        · simp [h0, h1] at h
        cases h2 : DataW.trod enc Tryz.prog w 0 (fun _ => true) true m 25 [c2]
        · simp [h0, h1, h2] at h
        cases h3 : DataW.trod enc Tryz.prog w 0 (fun _ => true) true m 26 [c3]
        · simp [h0, h1, h2, h3] at h
        obtain ⟨s, rfl, hs⟩ := ld_cell_string h0
        obtain ⟨t, rfl, ht⟩ := ld_cell_string h1
        obtain ⟨a, len, cap, rfl⟩ := al_cell_txs h2
        obtain ⟨l, rfl, g1, g2, g3⟩ := txs_of_trod h2
        obtain ⟨a', len', cap', rfl⟩ := al_cell_ws h3
        obtain ⟨l', rfl, k1, k2, k3⟩ := ws_of_trod h3
        unfold maxLen at g3 k3
        exact ⟨⟨s, t, a, cap, l, a', cap', l'⟩, rfl, ⟨g1, k1, by show l.length ≤ _; omega, by show l'.length ≤ _; omega⟩, ⟨hs, ht, g2⟩⟩
    · cases h
/-- Pools that came in. -/
theorem pos_of_trod {W : World} {a : Option Addr} {len cap fuel : Nat} {x : DataW H × List MemPlace} (h : DataW.trod enc Tryz.prog W 0 (fun _ => true) true fuel 23 [.slice a len cap] = some x) :
    ∃ L : List Po, L.length = len ∧ IsPs W a L cap ∧ (∀ p ∈ L, PoTx p) ∧ len ≤ maxLen := by
  rcases Go.Deep.open_slice Tryz.underlying23 h with ⟨hcs, _⟩ | ⟨x, l, c, m, n, D, Pl, hcs, _, hl, hm, hmm, hxx, hx⟩
  · simp at hcs
    obtain ⟨rfl, rfl, rfl⟩ := hcs
    exact ⟨[], rfl, ⟨by simp, .inl rfl, by simp⟩, by simp, by unfold maxLen; omega⟩
  · simp at hcs
    obtain ⟨rfl, rfl, rfl⟩ := hcs
    have hmm2 : m = cap := hmm
    rw [al_pool_cells] at hx
    have hr : ∀ i, i < len → ∃ r : Po, (∀ j, j < 4 → W.cell? ((x.add (i * 4)).add j) = r.cells.toList[j]?) ∧ PoOk W r ∧ PoTx r := fun i hi => by
      obtain ⟨cs', h1, h2⟩ := hx i (by omega)
      obtain ⟨r, rfl, hw⟩ := al_open_pool h2
      exact ⟨r, (World.cells?_some h1).2.2, hw⟩
    obtain ⟨f, hf⟩ := @Go.Deep.choose_lt Po ⟨po0⟩ _ _ hr
    have hget : ∀ k, k < len → ((List.range len).map f).getD k po0 = f k := fun k hk => by simp [List.getD, hk]
    have hlen : ((List.range len).map f).length = len := by simp
    refine ⟨(List.range len).map f, hlen, ⟨by rw [hlen]; exact hl, ?_, ?_⟩, ?_, Nat.le_trans hl hm⟩
    · by_cases h0 : len = 0
      · subst h0
        exact .inl rfl
      · right
        obtain ⟨b, off, spot⟩ := x
        have hc : W.cell? ⟨b, off, spot⟩ = some (.string (f 0).acc) := (hf 0 (by omega)).1 0 (by omega)
        have hspot : spot = none := World.cell?_spot hc
        subst hspot
        refine ⟨b, off, rfl, World.block_lt_of_cell? _ _ hc, fun k hk => ?_⟩
        rw [hlen] at hk
        rw [hget k hk]
        have C : ∀ i, i < 4 → W.cell? ⟨b, off + k * 4 + i, none⟩ = (f k).cells.toList[i]? := fun i hi => by
          have := (hf k hk).1 i hi
          rw [ld_add, ld_add] at this
          exact this
        exact ⟨C 0 (by omega), C 1 (by omega), C 2 (by omega), C 3 (by omega)⟩
    · intro y hy
      obtain ⟨k, hk, rfl⟩ := List.mem_map.1 hy
      exact (hf k (List.mem_range.1 hk)).2.1
    · intro y hy
      obtain ⟨k, hk, rfl⟩ := List.mem_map.1 hy
      exact (hf k (List.mem_range.1 hk)).2.2
end
end Go.Proofs.YtmlooibihjfahaaGreatDoor

namespace Go.Proofs.YtmlooibihjfahaaGreatDoor
open Go.ChangeShapes Go.WideShapes Go.RowKit Go.ChangeAt Go.Deep
open Go.ChangeMaps (open_string shut_string)
set_option linter.unusedVariables false
set_option linter.unusedSimpArgs false

theorem att_own : ownKnob Tryz.prog.godebug = none := by kernel_rfl
theorem att_laidOut : laidOutB Tryz.prog = true := by kernel_rfl
/-- A table's cells. -/
def att_cells (d : DataW Unit) : Array Value :=
  match d with
  | .agg l => (l.map fun x => match x with
    | .lit (.int k z) => Value.int k z
    | _ => .bool false).toArray
  | _ => #[]
def att_put (cs : Array Value) (o : Obj) : Obj :=
  match o with
  | .cells _ t frozen => .cells cs t frozen
  | o => o
/-- A world that meets the condition. -/
theorem att_met (os : Os) (args : Array Value) : laidMetH Tryz.prog Rows.allotTwiceRow.laid ((({ World.holding Tryz.prog os ⟨#[], #[], []⟩ with heap := (((World.holding Tryz.prog os ⟨#[], #[], []⟩).heap.modify 3 (att_put (att_cells Rows.laid_math_bits_deBruijn32tab))).modify 4 (att_put (att_cells Rows.laid_math_bits_deBruijn64tab))).modify 2 (att_put (att_cells Rows.laid_internal_strconv_uint64pow10)) } : World).forCall (fun _ _ => 0) ⟨#[], args, []⟩).memory) :=
  (show laidMet Tryz.prog Rows.allotTwiceRow.laid _ from laidMet_of_run' 8 (by kernel_rfl) (by kernel_rfl))

set_option maxRecDepth 100000 in
theorem att_lifted (os : Os) (started : os.Started) (H : Type) (enc : TypeId × Value → H) :
    ReturnsInHanded {} Tryz.checked os 3 .any (fun w args => (Rows.allotTwiceSpec.pre enc Tryz.prog Tryz.f3 [] false w args ∧ laidMetH Tryz.prog Rows.allotTwiceRow.laid w) ∧ sizedMet enc Tryz.prog Tryz.f3 (OpenSpec.ofChange Rows.allotTwiceSpec) false w args)
      (Rows.allotTwiceSpec.post enc Tryz.prog Tryz.f3 false true false false) := by
  refine returnsInHanded_of_change_and (C := Tryz.checked) (X := fun w _ => laidMetH Tryz.prog Rows.allotTwiceRow.laid w) (fun _ _ _ hh h => h.of_heap hh) att_own started (by kernel_rfl) Tryz.func3
    (ChangeSpec.witness_at (enc := enc) (C := Tryz.checked) (os := os) (X := fun w _ => laidMetH Tryz.prog Rows.allotTwiceRow.laid w) false ({ World.holding Tryz.prog os ⟨#[], #[], []⟩ with heap := (((World.holding Tryz.prog os ⟨#[], #[], []⟩).heap.modify 3 (att_put (att_cells Rows.laid_math_bits_deBruijn32tab))).modify 4 (att_put (att_cells Rows.laid_math_bits_deBruijn64tab))).modify 2 (att_put (att_cells Rows.laid_internal_strconv_uint64pow10)) } : World) #[.slice none 0 0, .slice none 0 0, .slice none 0 0, .int .i64 0] 8 rfl (by kernel_rfl) (by kernel_rfl) (by kernel_rfl) (by kernel_rfl) (by kernel_rfl) (att_met os _)) ?_
  intro W base args ds gs before hval0 hW hcnd hsz0 hL _
  clear hsz0
  have hval : ∀ (j : Nat) t v, Tryz.f3.params[j]? = some t → args[j]? = some v → Value.okWide Tryz.prog W .any base t v := hval0
  have hW' := hW
  obtain ⟨p, q, hA0, hV, rfl, hfz, hnd⟩ := hW
  have hA : DataW.TrodAll enc Tryz.prog W 0 (fun _ => true) true Tryz.f3.params.toList args.toList ds p := hA0
  rw [Tryz.params3] at hA hval
  obtain ⟨v0, vs0, d0, ds0, p0, q0, hargs, rfl, rfl, h0, r0⟩ := trodAll_cons hA
  obtain ⟨v1, vs1, d1, ds1, p1, q1, rfl, rfl, rfl, h1, r1⟩ := trodAll_cons r0
  obtain ⟨v2, vs2, d2, ds2, p2, q2, rfl, rfl, rfl, h2, r2⟩ := trodAll_cons r1
  obtain ⟨v3, vs3, d3, ds3, p3, q3, rfl, rfl, rfl, h3, r3⟩ := trodAll_cons r2
  obtain ⟨rfl, rfl, rfl⟩ := trodAll_nil r3
  obtain rfl : args = #[v0, v1, v2, v3] := by cases args; simp_all
  obtain ⟨rfl, rfl⟩ := trodVars_none hV
  obtain ⟨a0, len0, cap0, rfl⟩ := okWide_slice Tryz.underlying22 (hval 0 22 v0 rfl rfl)
  have k0 := h0
  have lt0 : ∀ x ∈ p0, x.block < W.heap.size := by obtain ⟨m, hm⟩ := k0; exact DataW.trod_lt m _ _ _ hm
  obtain ⟨l0, hl0, ho0, hi0⟩ : ∃ l : List Ac, l.length = len0 ∧ (∀ k, k < l.length → AcOk (l.getD k ac0)) ∧ IsSl W a0 l cap0 := by
    obtain ⟨fuel, hf⟩ := h0
    exact acs_of_trod hf
  subst hl0
  obtain ⟨a1, len1, cap1, rfl⟩ := okWide_slice Tryz.underlying23 (hval 1 23 v1 rfl rfl)
  have k1 := h1
  have lt1 : ∀ x ∈ p1, x.block < W.heap.size := by obtain ⟨m, hm⟩ := k1; exact DataW.trod_lt m _ _ _ hm
  obtain ⟨l1, hl1, hi1, ho1, hm1⟩ : ∃ l : List Po, l.length = len1 ∧ IsPs W a1 l cap1 ∧ (∀ p ∈ l, PoTx p) ∧ len1 ≤ maxLen := by
    obtain ⟨fuel, hf⟩ := h1
    exact pos_of_trod hf
  subst hl1
  have hb1 : l1.length ≤ 9223372036854775807 := by unfold maxLen at hm1; exact hm1
  obtain ⟨a2, len2, cap2, rfl⟩ := okWide_slice Tryz.underlying24 (hval 2 24 v2 rfl rfl)
  have k2 := h2
  have lt2 : ∀ x ∈ p2, x.block < W.heap.size := by obtain ⟨m, hm⟩ := k2; exact DataW.trod_lt m _ _ _ hm
  obtain ⟨l2, hl2, hi2, ho2, hm2⟩ : ∃ l : List Bl, l.length = len2 ∧ IsBl W a2 l cap2 ∧ (∀ x ∈ l, BlOk x) ∧ len2 ≤ maxLen := by
    obtain ⟨fuel, hf⟩ := h2
    exact ld_bls_of_trod hf
  subst hl2
  have hb2 : l2.length ≤ 9223372036854775807 := by unfold maxLen at hm2; exact hm2
  obtain ⟨x3, rfl, rfl, rfl, w3⟩ := open_int Tryz.underlying3 (hval 3 3 v3 rfl rfl) h3
  have wb3 := bounds_i64 w3
  clear hA0 hval0
  refine (twice_walk a0 a1 a2 cap0 cap1 cap2 l0 l1 l2 x3 W hi0 hi1 hb1 hi2 hb2 ho2 ho1 ⟨by omega, by omega⟩).mono fun e W' ⟨he, bel⟩ => ?_
  subst he
  exact ⟨_, rfl, _, _, _, [], _, [], hW', trodAll_mk1 (shut_bool Tryz.underlying4 _), (trodAll_cons_mk (Below.trod att_laidOut (by kernel_rfl) (of_decide_eq_true (by kernel_rfl)) k0 bel lt0) (trodAll_cons_mk (Below.trod att_laidOut (by kernel_rfl) (of_decide_eq_true (by kernel_rfl)) k1 bel lt1) (trodAll_cons_mk (Below.trod att_laidOut (by kernel_rfl) (of_decide_eq_true (by kernel_rfl)) k2 bel lt2) (trodAll_cons_mk (shut_int Tryz.underlying3 w3) trodAll_mk0)))), rfl, bel.frame _, fun h => by cases h⟩

theorem att_over : Rows.AllotTwiceSaid :=
  OpenClaim.holds_of_wide 3 Tryz.f3 rfl rfl rfl rfl rfl rfl rfl ⟨rfl, rfl, rfl, rfl, rfl⟩ rfl rfl rfl rfl rfl (by kernel_rfl) Tryz.func3 (by kernel_rfl)
    (of_decide_eq_true (by kernel_rfl)) (by unfold Func.isWrapper; first | (rw [if_pos (by decide +kernel)]; kernel_rfl) | (rw [if_neg (by decide +kernel)]; exact ⟨rfl, rfl⟩))
    (fun os started H enc _ => att_lifted os started H enc)

/-- The statement. -/
theorem allotTwice_holds : Rows.AllotTwiceCardSaid :=
  Claim7.holds_tied_plain_at .later [] [.data, .data, .data] true _ false
    att_over (fun _ h => by cases h) (by kernel_rfl) (fun _ h => by cases h) allotTwice_row_tie rfl ⟨rfl, rfl⟩ (by kernel_rfl) rfl
    (fun f fn hf hfn => by
      obtain rfl : f = 3 := Option.some.inj ((show Tryz.prog.funcNamed "quarterday/daylaw5.AllotTwice" = some 3 by kernel_rfl).symm.trans hf) |>.symm
      obtain rfl : fn = Tryz.f3 := (Option.some.inj (Tryz.func3.symm.trans hfn)).symm
      exact ⟨by kernel_rfl, fun j t ht => by
        rw [Tryz.params3] at ht
        have h3 : t = 22 ∨ t = 23 ∨ t = 24 ∨ t = 3 := by
          rcases j with _ | _ | _ | _ | j
          · exact (.inl (by simpa using ht.symm))
          · exact (.inr (.inl (by simpa using ht.symm)))
          · exact (.inr (.inr (.inl (by simpa using ht.symm))))
          · exact (.inr (.inr (.inr (by simpa using ht.symm))))
          · simp at ht
        rcases h3 with rfl | rfl | rfl | rfl
        · exact (show Tryz.prog.wantsStandIn 22 = false by kernel_rfl)
        · exact (show Tryz.prog.wantsStandIn 23 = false by kernel_rfl)
        · exact (show Tryz.prog.wantsStandIn 24 = false by kernel_rfl)
        · exact (show Tryz.prog.wantsStandIn 3 = false by kernel_rfl)⟩)
    (by kernel_rfl)
#print axioms allotTwice_holds
end Go.Proofs.YtmlooibihjfahaaGreatDoor
