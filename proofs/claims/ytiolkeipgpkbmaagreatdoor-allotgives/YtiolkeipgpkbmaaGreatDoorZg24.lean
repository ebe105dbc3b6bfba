/-
  The contracts of dayref1.Amount, Few, Ref: they say what the program's own say.
-/
import Derived.Test.YtiolkeipgpkbmaaGreatDoorZg17
import Derived.Test.YtiolkeipgpkbmaaGreatDoorZg23
import Derived.Laws.NewBlocks
import Derived.Test.YtiolkeipgpkbmaaGreatDoorZg20
namespace Go.Proofs.YtiolkeipgpkbmaaGreatDoor
set_option linter.unusedVariables false
set_option linter.unusedSimpArgs false
set_option maxRecDepth 100000
open Go.RowKit Go.Lib

theorem digS_size (i : Nat) : (digS i).size ≤ 2 := by
  unfold digS
  split
  · exact Nat.le_succ 1
  · exact Nat.le_refl 2
/-- The ref of a pool's entry. -/
def refA (i : Nat) : ByteArray := (⟨#[97, 108, 108, 111, 116, 45]⟩ : ByteArray) ++ digS i
/-- The entry of a pool, if there is one. -/
def poE (en pe : Int) (b : List Bl) (i : Nat) (p : Po) : List Ep := if getB b en p.acc p.cur = 0 then [] else [⟨refA i, en, pe, goL p (getB b en p.acc p.cur)⟩]
/-- The entries of the first pools. -/
def alTo (en pe : Int) (b : List Bl) (l : List Po) (k : Nat) : List Ep := (List.range k).flatMap fun i => poE en pe b i (l.getD i po0)
theorem alTo_next (en pe : Int) (b : List Bl) (l : List Po) (k : Nat) : alTo en pe b l (k + 1) = alTo en pe b l k ++ poE en pe b k (l.getD k po0) := by
  unfold alTo; rw [List.range_succ, List.flatMap_append]; simp
def isAmt (n : Int) : Prop := -1000000000000000 ≤ n ∧ n ≤ 1000000000000000
abbrev decAmt (n : Int) : Decidable (isAmt n) := inferInstanceAs (Decidable (_ ∧ _))
/-- What is wrong with what a pool has. -/
def hasBad (b : List Bl) (en : Int) (p : Po) : Int := @ite _ (isAmt (getB b en p.acc p.cur)) (decAmt _) 0 1
/-- What is wrong with all that is handed in. -/
def alBad (c : List Ac) (l : List Po) (b : List Bl) (en pe : Int) : Int :=
  if psBad c l ≠ 0 then psBad c l else if chk b ≠ 0 then chk b else if (upTo en 12 && upTo pe 120) = false then 1 else firstTo (fun k => hasBad b en (l.getD k po0)) l.length
/-- What Entries leaves. -/
def AlEnd (c : List Ac) (l : List Po) (b : List Bl) (en pe : Int) (w : World) (e : Ending) (w' : World) : Prop :=
  Below w.heap.size w w' ∧ (alBad c l b en pe ≠ 0 → e = .returned (.tuple #[.slice none 0 0, chE (alBad c l b en pe)])) ∧
    (alBad c l b en pe = 0 → ∃ v L, e = .returned (.tuple #[v, .nilIface]) ∧ Made w' w.heap.size v L ∧ L.map Je.ep = alTo en pe b l l.length)
theorem poBad_ok {c : List Ac} {p : Po} (h : poBad c p = 0) : p.ws.length = p.tos.length ∧ 0 < p.tos.length ∧ p.tos.length ≤ 19 ∧ shBad p.ws = 0 ∧ (∀ k, k < p.tos.length → toBad c p.acc p.tos k = 0) ∧ leafBad c p.acc = 0 ∧ isCur p.cur = true := by
  unfold poBad at h
  split at h
  · contradiction
  · rename_i h1
    split at h
    · omega
    · rename_i h2
      split at h
      · omega
      · rename_i h3
        split at h
        · omega
        · rename_i h4
          split at h
          · contradiction
          · rename_i h5
            refine ⟨by omega, by omega, by omega, h, firstTo_zero (Decidable.of_not_not h5), Decidable.of_not_not h1, by simpa using h2⟩
theorem psBad_ok {c : List Ac} {l : List Po} (h : psBad c l = 0) : chBad c = 0 ∧ l.length ≤ 20 ∧ ∀ k, k < l.length → poBad c (l.getD k po0) = 0 := by
  unfold psBad at h
  split at h
  · contradiction
  · rename_i h1
    split at h
    · omega
    · exact ⟨Decidable.of_not_not h1, by omega, firstTo_zero h⟩

set_option maxHeartbeats 8000000 in
theorem alEntries_any (a a2 a3 : Option Addr) (cap cap2 cap3 : Nat) (c : List Ac) (l : List Po) (b : List Bl) (en pe : Int) (w : World) (h : IsSl w a c cap) (hl : IsPs w a2 l cap2) (hll : l.length ≤ 9223372036854775807) (hb : IsBl w a3 b cap3) (hbl : b.length ≤ 9223372036854775807) :
    Calls Tryz.prog 8 #[.slice a c.length cap, .slice a2 l.length cap2, .slice a3 b.length cap3, .int .i64 en, .int .i64 pe] w (AlEnd c l b en pe w) := by
  have HErr : Hid (∀ z W, z ≠ 0 → alBad c l b en pe = z → Below w.heap.size w W → AlEnd c l b en pe w (.returned (.tuple #[.slice none 0 0, .iface 37 (.int .i64 z)])) W) := fun z W h0 h1 h2 => by
    refine ⟨h2, fun _ => by rw [h1, chE_ne h0], fun e => absurd (h1.symm.trans e) h0⟩
  have HOk : Hid (∀ v L W, alBad c l b en pe = 0 → Below w.heap.size w W → Made W w.heap.size v L → L.map Je.ep = alTo en pe b l l.length → AlEnd c l b en pe w (.returned (.tuple #[v, .nilIface])) W) := fun v L W h1 h2 h3 h4 =>
    ⟨h2, fun h0 => absurd h1 h0, fun _ => ⟨v, L, rfl, h3, h4⟩⟩
  have HC : Hid (Calls _ _ _ _ _) := alCheck_any a a2 cap cap2 c l w h hl hll
  by_cases c1 : psBad c l ≠ 0
  · have e1 : alBad c l b en pe = psBad c l := by unfold alBad; rw [if_pos c1]
    have HE : Hid (∀ W, Below w.heap.size w W → AlEnd c l b en pe w (.returned (.tuple #[.slice none 0 0, .iface 37 (.int .i64 (psBad c l))])) W) := fun W hW => HErr.out _ W c1 e1 hW
    rw [chE_ne c1] at HC
    clear h hl hb c1 e1 HErr HOk
    generalize psBad c l = z at *
    go_enter Tryz.func8, Tryz.ntmps8
    go_wp2_with (go_at_call 5; refine HC.out.mono ?_; rintro e w1 ⟨rfl, hb1⟩)
    go_ret2
    exact HE.out _ hb1
  have c1' := Decidable.of_not_not c1
  rw [c1', chE_zero] at HC
  have HCb : Hid (∀ W, Below w.heap.size w W → Calls Tryz.prog 22 #[.slice a3 b.length cap3] W fun e w' => e = .returned (chE (chk b)) ∧ Below w.heap.size w w') := fun W hW => by
    refine (ldCheck_any a3 cap3 b W hbl (hb.below hW)).mono ?_
    rintro e w' ⟨rfl, h2⟩
    exact ⟨rfl, hW.trans (h2.mono hW.size)⟩
  by_cases c2 : chk b ≠ 0
  · have e1 : alBad c l b en pe = chk b := by unfold alBad; rw [if_neg c1, if_pos c2]
    have HE : Hid (∀ W, Below w.heap.size w W → AlEnd c l b en pe w (.returned (.tuple #[.slice none 0 0, .iface 37 (.int .i64 (chk b))])) W) := fun W hW => HErr.out _ W c2 e1 hW
    rw [chE_ne c2] at HCb
    clear h hl hb c1 c1' c2 e1 HErr HOk
    generalize chk b = z at *
    go_enter Tryz.func8, Tryz.ntmps8
    go_wp2_with (first | (go_at_call 5; refine HC.out.mono ?_; rintro e w1 ⟨rfl, hb1⟩) | (go_at_call 22; refine (HCb.out _ hb1).mono ?_; rintro e w2 ⟨rfl, hb2⟩))
    go_ret2
    exact HE.out _ hb2
  have c2' := Decidable.of_not_not c2
  rw [c2', chE_zero] at HCb
  have HU1 : Hid (∀ W, Calls Tryz.prog 23 #[.int .i64 en] W fun e w' => e = .returned (.bool (upTo en 12)) ∧ w' = W) := fun W => isEntity_any en W
  have HU2 : Hid (∀ W, Calls Tryz.prog 24 #[.int .i64 pe] W fun e w' => e = .returned (.bool (upTo pe 120)) ∧ w' = W) := fun W => isPeriod_any pe W
  by_cases c3 : (upTo en 12 && upTo pe 120) = false
  · have e1 : alBad c l b en pe = 1 := by unfold alBad; rw [if_neg c1, if_neg c2, if_pos c3]
    have HE : Hid (∀ W, Below w.heap.size w W → AlEnd c l b en pe w (.returned (.tuple #[.slice none 0 0, .iface 37 (.int .i64 1)])) W) := fun W hW => HErr.out _ W (by decide) e1 hW
    clear h hl hb c1 c1' c2 c2' e1 HErr HOk
    cases u1 : upTo en 12
    · rw [u1] at HU1
      clear c3 u1
      go_enter Tryz.func8, Tryz.ntmps8
      go_wp2_with (first | (go_at_call 5; refine HC.out.mono ?_; rintro e w1 ⟨rfl, hb1⟩) | (go_at_call 22; refine (HCb.out _ hb1).mono ?_; rintro e w2 ⟨rfl, hb2⟩) | (go_at_call 23; refine (HU1.out _).mono ?_; rintro e w' ⟨rfl, rfl⟩))
      go_ret2
      exact HE.out _ hb2
    · have u2 : upTo pe 120 = false := by rw [u1] at c3; simpa using c3
      rw [u1] at HU1
      rw [u2] at HU2
      clear c3 u1 u2
      go_enter Tryz.func8, Tryz.ntmps8
      go_wp2_with fail
      refine HC.out.mono ?_
      rintro e w1 ⟨rfl, hb1⟩
      go_wp2_with fail
      refine (HCb.out _ hb1).mono ?_
      rintro e w2 ⟨rfl, hb2⟩
      go_wp2_with fail
      refine (HU1.out _).mono ?_
      rintro e w' ⟨rfl, hw⟩
      rw [hw]; clear hw w'
      go_wp2_with fail
      refine (HU2.out _).mono ?_
      rintro e w' ⟨rfl, hw⟩
      rw [hw]; clear hw w'
      go_wp2
      go_ret2
      exact HE.out _ hb2
  have c3' : upTo en 12 = true ∧ upTo pe 120 = true := by simpa using c3
  have HB0 : Hid (alBad c l b en pe = firstTo (fun k => hasBad b en (l.getD k po0)) l.length) := by unfold alBad Hid; rw [if_neg c1, if_neg c2, if_neg c3]
  rw [c3'.1] at HU1
  rw [c3'.2] at HU2
  obtain ⟨p1, p2, p3⟩ := psBad_ok c1'
  have HPo : Hid (∀ k, k < l.length → poBad c (l.getD k po0) = 0) := p3
  have HPs : Hid (IsPs w a2 l cap2) := hl
  have HBl : Hid (IsBl w a3 b cap3 ∧ (b.length : Int) ≤ 9223372036854775807) := ⟨hb, by omega⟩
  have i2 : (l.length : Int) ≤ 20 := by omega
  clear h hl hb c1 c1' c2 c2' c3 c3' p1 p3
  obtain ⟨i0, hi, hz0, hz1, hz2⟩ := info_parts je_info
  go_enter Tryz.func8, Tryz.ntmps8
  go_wp2_with fail
  refine HC.out.mono ?_
  rintro e w1 ⟨rfl, hb1⟩
  go_wp2_with fail
  refine (HCb.out _ hb1).mono ?_
  rintro e w2 ⟨rfl, hb2⟩
  clear HC HCb hb1
  go_wp2_with fail
  refine (HU1.out _).mono ?_
  rintro e w' ⟨rfl, hw⟩
  rw [hw]; clear hw w' HU1
  go_wp2_with fail
  refine (HU2.out _).mono ?_
  rintro e w' ⟨rfl, hw⟩
  rw [hw]; clear hw w' HU2
  have HB2 : Hid (Below w.heap.size w w2) := hb2
  clear hb2
  go_wp2
  go_loopw [14, 42] (fun v i wr => ∃ (k : Nat) (L : List Je), k ≤ l.length ∧ i = .int .i64 k ∧ Hid (Made wr w.heap.size v L ∧ L.map Je.ep = alTo en pe b l k ∧ L.length ≤ k) ∧ Hid (firstTo (fun k => hasBad b en (l.getD k po0)) k = 0) ∧ Hid (Below w.heap.size w wr)) (fun _ i _ => l.length - (RowKit.intOf i).toNat)
  case atStart => exact ⟨0, [], Nat.zero_le _, rfl, ⟨Made.nil _ _, rfl, Nat.le_refl _⟩, rfl, HB2⟩
  case round =>
    obtain ⟨k, L, hk, rfl, HM, H0, HB⟩ := hrel
    obtain ⟨av, cv, ev, _⟩ := HM.out.1.isJs
    subst ev
    by_cases hkn : k < l.length
    · obtain ⟨bb, off, e, hblt, hc, hok⟩ := ((HPs.out).below HB.out).at hkn
      subst e
      have hpo := HPo.out k hkn
      obtain ⟨q1, q2, q3, q4, _⟩ := poBad_ok hpo
      have B1 := HB.out.alloc HB.out.size (.cells (l.getD k po0).cells 45)
      have b11 : Below wr.heap.size wr (wr.alloc (.cells (l.getD k po0).cells 45)) := (Below.refl _ wr).alloc (Nat.le_refl _) _
      have hx := PoAt.new wr (l.getD k po0) 45
      have HIn : Hid (Calls Tryz.prog 25 #[.slice a3 b.length cap3, .int .i64 en, .string (l.getD k po0).acc, .string (l.getD k po0).cur] (wr.alloc (.cells (l.getD k po0).cells 45)) fun e w' => e = .returned (.int .i64 (getB b en (l.getD k po0).acc (l.getD k po0).cur)) ∧ Below (wr.alloc (.cells (l.getD k po0).cells 45)).heap.size (wr.alloc (.cells (l.getD k po0).cells 45)) w') := ldHas_any a3 cap3 b en (l.getD k po0).acc (l.getD k po0).cur _ HBl.out.2 (HBl.out.1.below B1)
      have HKeep : Hid (∀ W, Below (wr.alloc (.cells (l.getD k po0).cells 45)).heap.size (wr.alloc (.cells (l.getD k po0).cells 45)) W → Below w.heap.size w W ∧ Below wr.heap.size wr W ∧ PoAt W wr.heap.size 0 (l.getD k po0) ∧ PoOk W (l.getD k po0)) := fun W hW => by
        have hs : wr.heap.size < (wr.alloc (.cells (l.getD k po0).cells 45)).heap.size := by simp
        exact ⟨B1.trans (hW.mono B1.size), b11.trans (hW.mono b11.size), hx.below hW hs, (hok.below b11).below hW⟩
      have HNx : Hid (alTo en pe b l (k + 1) = alTo en pe b l k ++ poE en pe b k (l.getD k po0)) := alTo_next en pe b l k
      have HBd : Hid (hasBad b en (l.getD k po0) = 0 → firstTo (fun k => hasBad b en (l.getD k po0)) (k + 1) = 0) := fun h => by rw [firstTo_next H0.out, h]
      have HBr : Hid (hasBad b en (l.getD k po0) = 1 → alBad c l b en pe = 1) := fun h => by
        rw [HB0.out, firstTo_first H0.out (by rw [h]; decide) hkn, h]
      have HGo : Hid (∀ W has, PoOk W (l.getD k po0) → (¬ isAmt has → Calls Tryz.prog 26 #[.agg (l.getD k po0).cells, .int .i64 has] W fun e w' => e = .returned (.tuple #[.slice none 0 0, chE 1]) ∧ Below W.heap.size W w') ∧ (isAmt has → Calls Tryz.prog 26 #[.agg (l.getD k po0).cells, .int .i64 has] W fun e w' => ∃ v, e = .returned (.tuple #[v, .nilIface]) ∧ LnRow w' W.heap.size v (goL (l.getD k po0) has) ∧ Below W.heap.size W w')) := fun W has hW => ⟨fun h => given_bad _ has W h, fun h => given_ok _ has W hW q1 q3 q4 h⟩
      have HGB : Hid (hasBad b en (l.getD k po0) = @ite _ (isAmt (getB b en (l.getD k po0).acc (l.getD k po0).cur)) (decAmt _) 0 1) := rfl
      have HPE : Hid (poE en pe b k (l.getD k po0) = if getB b en (l.getD k po0).acc (l.getD k po0).cur = 0 then [] else [⟨refA k, en, pe, goL (l.getD k po0) (getB b en (l.getD k po0).acc (l.getD k po0).cur)⟩]) := rfl
      have f0 := hx.c0
      have f1 := hx.c1
      have f2 := hx.c2
      have f3 := hx.c3
      clear hok hx B1 b11 q1 q2 q3 q4 hpo
      generalize getB b en (l.getD k po0).acc (l.getD k po0).cur = has at *
      generalize hasBad b en (l.getD k po0) = hbd at *
      generalize goL (l.getD k po0) = gl at *
      generalize poE en pe b k (l.getD k po0) = pE at *
      generalize l.getD k po0 = p at *
      obtain ⟨acc, cur, tA, tC, tos, wA, wC, ws⟩ := p
      obtain ⟨d0, d1, d2, d3⟩ := hc
      simp only [Po.cells, Nat.zero_add] at d0 d1 d2 d3 f0 f1 f2 f3 HIn HKeep HGo
      have j0 : (0 : Int) ≤ k := by omega
      have j1 : (k : Int) < l.length := by omega
      by_cases g0 : has = 0
      · subst g0
        have HM2 : Hid (∀ W, Below wr.heap.size wr W → Made W w.heap.size (.slice av L.length cv) L ∧ L.map Je.ep = alTo en pe b l (k + 1) ∧ L.length ≤ k + 1) := fun W hW => by
          obtain ⟨m1, m2, m3⟩ := HM.out
          refine ⟨m1.below hW, ?_, by omega⟩
          rw [HNx.out, HPE.out, if_pos rfl, List.append_nil, m2]
        have HN : Hid (firstTo (fun k => hasBad b en (l.getD k po0)) (k + 1) = 0) := HBd.out (by rw [HGB.out, if_pos (by unfold isAmt; omega)])
        clear HBd HBr HGo HGB HPE HNx HM HOk HErr
        go_wp2_with fail
        refine HIn.out.mono ?_
        rintro e w3 ⟨rfl, hb3⟩
        obtain ⟨k1, k2, _⟩ := HKeep.out w3 hb3
        have HF : Hid _ := HM2.out w3 k2
        have HB3 : Hid (Below w.heap.size w w3) := k1
        clear HIn HKeep HM2 hb3 k1 k2
        go_wp2
        go_roundw
        case rel => exact ⟨k + 1, L, by omega, by go_num, HF, HN, HB3⟩
        case measure => simp [RowKit.intOf]; omega
      have g0' : (has == 0) = false := by rw [beq_eq_false_iff_ne]; exact g0
      go_wp2_with fail
      refine HIn.out.mono ?_
      rintro e w3 ⟨rfl, hb3⟩
      obtain ⟨k1, k2, k3, k4⟩ := HKeep.out w3 hb3
      obtain ⟨f0, f1, f2, f3⟩ := k3
      simp only [Nat.zero_add] at f0 f1 f2 f3
      have HK1 : Hid (Below w.heap.size w w3) := k1
      have HK2 : Hid (Below wr.heap.size wr w3) := k2
      obtain ⟨gB, gG⟩ := HGo.out w3 has k4
      clear HIn HKeep hb3 d0 d1 d2 d3 k1 k2 k4 HGo
      by_cases c4 : isAmt has
      · have HG : Hid (Calls _ _ _ _ _) := gG c4
        have HN : Hid (firstTo (fun k => hasBad b en (l.getD k po0)) (k + 1) = 0) := HBd.out (by rw [HGB.out, if_pos c4])
        have HP2 : Hid (alTo en pe b l (k + 1) = alTo en pe b l k ++ [⟨refA k, en, pe, gl has⟩]) := by
          rw [HNx.out, HPE.out, if_neg g0]; exact rfl
        clear gB gG HBd HBr HGB HPE HNx HOk HErr
        go_wp2_with fail
        refine HG.out.mono ?_
        rintro e w4 ⟨v4, rfl, hr4, hb4⟩
        obtain ⟨a4, c4', e4, _⟩ := hr4.isLn
        subst e4
        have HR4 : Hid (LnRow w4 w3.heap.size (.slice a4 (gl has).length c4') (gl has)) := hr4
        have HB4 : Hid (Below w3.heap.size w3 w4) := hb4
        have HIt : Hid (∀ W, Calls Tryz.prog 27 #[.int .i64 ((k : Nat) : Int)] W fun e w' => e = .returned (.string (digS k)) ∧ w' = W) := fun W => itoa_any k (by omega) W
        have HAdd : Hid (∀ v' w6, World.ownsRow w6 w.heap.size 59 4 v' (L.length + 1) (jeRow L ++ (Je.mk (refA k) en pe a4 c4' (gl has)).cells.toList) → (w4.alloc (.cells #[.string (refA k), .int .i64 en, .int .i64 pe, .slice a4 (gl has).length c4'] 59)).grownBy w6 (Value.slice av L.length cv).ownBlock → (Made w6 w.heap.size v' (L ++ [Je.mk (refA k) en pe a4 c4' (gl has)]) ∧ (L ++ [Je.mk (refA k) en pe a4 c4' (gl has)]).map Je.ep = alTo en pe b l (k + 1) ∧ (L ++ [Je.mk (refA k) en pe a4 c4' (gl has)]).length ≤ k + 1) ∧ Below w.heap.size w w6) := fun v' w6 h1 h2 => by
          obtain ⟨m1, m2, m3⟩ := HM.out
          have z1 := HK1.out.trans (HB4.out.mono HK1.out.size)
          have z2 := z1.alloc z1.size (.cells #[.string (refA k), .int .i64 en, .int .i64 pe, .slice a4 (gl has).length c4'] 59)
          have z3 : Below w4.heap.size w4 (w4.alloc (.cells #[.string (refA k), .int .i64 en, .int .i64 pe, .slice a4 (gl has).length c4'] 59)) := (Below.refl _ w4).alloc (Nat.le_refl _) _
          have m4 := ((m1.below HK2.out).below HB4.out).below z3
          refine ⟨⟨m4.add (x := Je.mk (refA k) en pe a4 c4' (gl has)) ((HR4.out.below z3).mono HK1.out.size) h1 h2, ?_, ?_⟩, z2.grown h2 z2.size fun j e => m1.row.own j e⟩
          · rw [List.map_append, m2, HP2.out]; rfl
          · rw [List.length_append]; simp; exact m3
        have HRow : Hid (World.ownsRow (w4.alloc (.cells #[.string (refA k), .int .i64 en, .int .i64 pe, .slice a4 (gl has).length c4'] 59)) w.heap.size 59 4 (.slice av L.length cv) L.length (jeRow L)) := by
          have m4 := (HM.out.1.below HK2.out).below HB4.out
          exact World.ownsRow.alloc m4.row _
        have s2 : Hid (L.length + 1 ≤ maxLen ∧ (L.length + 1) * 56 ≤ 140737488355328) := by
          have := HM.out.2.2
          unfold Hid maxLen; omega
        have s4 : Hid (w.heap.size ≤ (w4.alloc (.cells #[.string (refA k), .int .i64 en, .int .i64 pe, .slice a4 (gl has).length c4'] 59)).heap.size) := by
          have z1 := HK1.out.size
          have z2 := HB4.out.size
          unfold Hid; simp; omega
        have hds : ¬ 9223372036854775807 < 6 + (digS k).size := by have := digS_size k; omega
        clear HG hr4 hb4 HM f0 f1 f2 f3
        go_wp2_with fail
        refine (HIt.out _).mono ?_
        rintro e w' ⟨rfl, hw⟩
        rw [hw]; clear hw w' HIt
        go_wp2_with (at_builtin; refine wpList_append_own _ rfl _ _ 30 rfl w.heap.size 59 i0 (.agg #[.string ByteArray.empty, .int .i64 0, .int .i64 0, .slice none 0 0]) 4 56 Tryz.underlying30 hi hz0 hz1 hz2 rfl (by decide) _ _ _ rfl HRow.out ⟨w4.heap.size, 0, none⟩ 1 1 (Je.mk (refA k) en pe a4 c4' (gl has)).cells.toList rfl rfl (World.news_of_block (World.alloc_heap_new w4 _)) (je_one _) s2.out.1 s2.out.2 s4.out ?_)
        intro v' w6 hown' hgrow _
        obtain ⟨hm6, hb6⟩ := HAdd.out v' w6 hown' hgrow
        have HM6 : Hid _ := hm6
        have HB6 : Hid (Below w.heap.size w w6) := hb6
        clear hown' hgrow hm6 hb6 HAdd HRow
        go_wp2
        go_roundw
        case rel => exact ⟨k + 1, _, by omega, by go_num, HM6, HN, HB6⟩
        case measure => simp [RowKit.intOf]; omega
      · have HG : Hid (Calls _ _ _ _ _) := gB c4
        have HE : Hid (∀ W, Below w.heap.size w W → AlEnd c l b en pe w (.returned (.tuple #[.slice none 0 0, .iface 37 (.int .i64 1)])) W) := fun W hW => HErr.out _ W (by decide) (HBr.out (by rw [HGB.out, if_neg c4])) hW
        rw [chE_ne (by decide)] at HG
        clear gB gG HBd HBr HGB HPE HNx HOk HErr
        go_wp2_with fail
        refine HG.out.mono ?_
        rintro e w4 ⟨rfl, hb4⟩
        have HB4 : Hid (Below w.heap.size w w4) := HK1.out.trans (hb4.mono HK1.out.size)
        clear hb4 HG
        go_wp2
        go_ret2
        exact HE.out _ HB4.out
    · have ek : k = l.length := by omega
      subst ek
      obtain ⟨m1, m2, m3⟩ := HM.out
      have HE : Hid (AlEnd c l b en pe w (.returned (.tuple #[.slice av L.length cv, .nilIface])) wr) := HOk.out _ L wr (by rw [HB0.out, H0.out]) HB.out m1 m2
      clear m1 m2 m3 HM HErr HOk HPo HPs HBl
      go_wp2
      go_ret2
      exact HE.out
end Go.Proofs.YtiolkeipgpkbmaaGreatDoor

namespace Go.Proofs.YtiolkeipgpkbmaaGreatDoor
set_option linter.unusedVariables false
set_option linter.unusedSimpArgs false
set_option maxRecDepth 100000
open Go.RowKit Go.Lib

theorem en_get (s : ByteArray) (k : Nat) (h : k < s.size) : s.get! k = s[k]'h := by
  show s.data[k]! = s.data[k]'h
  exact getElem!_pos s.data k h

theorem refAmount_any (n : Int) (w : World) :
    Calls Tryz.prog 20 #[.int .i64 n] w fun e w' => e = .returned (.bool (isAmtB n)) ∧ w' = w := by
  by_cases h : -1000000000000000 ≤ n
  · have : isAmtB n = decide (n ≤ 1000000000000000) := by simp [isAmtB, h]
    rw [this]
    go_enter Tryz.func20, Tryz.ntmps20
    go_wp2
    go_ret
    exact ⟨rfl, rfl⟩
  · have : isAmtB n = false := by simp [isAmtB, h]
    rw [this]
    go_enter Tryz.func20, Tryz.ntmps20
    go_wp2
    go_ret
    exact ⟨rfl, rfl⟩

end Go.Proofs.YtiolkeipgpkbmaaGreatDoor
