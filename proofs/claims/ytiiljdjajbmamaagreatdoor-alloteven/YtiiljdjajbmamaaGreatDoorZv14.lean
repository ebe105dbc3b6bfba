/-
  Rows of numbers that are one's own; the contracts of slices.ContainsFunc over numbers, slices.Clone and allot.stepDown.
-/
import Derived.Test.YtiiljdjajbmamaaGreatDoorZv7
import Derived.Test.YtiiljdjajbmamaaGreatDoorZv13
import Derived.Laws.NewBlocks
import Derived.Test.YtiiljdjajbmamaaGreatDoorZv5
import Derived.Laws.AppendOwn
import Derived.Conc.MuLone
namespace Go.Proofs.YtiiljdjajbmamaaGreatDoor
set_option linter.unusedVariables false
set_option linter.unusedSimpArgs false
set_option maxRecDepth 100000
open Go.RowKit Go.Lib

theorem digS_size (i : Nat) : (digS i).size ≤ 2 := by
  unfold digS
  split
  · exact Nat.le_succ 1
  · exact Nat.le_refl 2
/-- The ref of a pool's entry. -/
def refA (i : Nat) : ByteArray := (⟨#[97, 108, 108, 111, 116, 45]⟩ : ByteArray) ++ digS i
/-- The entry of a pool, if there is one. -/
def poE (en pe : Int) (b : List Bl) (i : Nat) (p : Po) : List Ep := if getB b en p.acc p.cur = 0 then [] else [⟨refA i, en, pe, goL p (getB b en p.acc p.cur)⟩]
/-- The entries of the first pools. -/
def alTo (en pe : Int) (b : List Bl) (l : List Po) (k : Nat) : List Ep := (List.range k).flatMap fun i => poE en pe b i (l.getD i po0)
theorem alTo_next (en pe : Int) (b : List Bl) (l : List Po) (k : Nat) : alTo en pe b l (k + 1) = alTo en pe b l k ++ poE en pe b k (l.getD k po0) := by
  unfold alTo; rw [List.range_succ, List.flatMap_append]; simp
def isAmt (n : Int) : Prop := -1000000000000000 ≤ n ∧ n ≤ 1000000000000000
abbrev decAmt (n : Int) : Decidable (isAmt n) := inferInstanceAs (Decidable (_ ∧ _))
/-- What is wrong with what a pool has. -/
def hasBad (b : List Bl) (en : Int) (p : Po) : Int := @ite _ (isAmt (getB b en p.acc p.cur)) (decAmt _) 0 1
/-- What is wrong with all that is handed in. -/
def alBad (c : List Ac) (l : List Po) (b : List Bl) (en pe : Int) : Int :=
  if psBad c l ≠ 0 then psBad c l else if chk b ≠ 0 then chk b else if (upTo en 12 && upTo pe 120) = false then 1 else firstTo (fun k => hasBad b en (l.getD k po0)) l.length
/-- What Entries leaves. -/
def AlEnd (c : List Ac) (l : List Po) (b : List Bl) (en pe : Int) (w : World) (e : Ending) (w' : World) : Prop :=
  Below w.heap.size w w' ∧ (alBad c l b en pe ≠ 0 → e = .returned (.tuple #[.slice none 0 0, chE (alBad c l b en pe)])) ∧
    (alBad c l b en pe = 0 → ∃ v L, e = .returned (.tuple #[v, .nilIface]) ∧ Made w' w.heap.size v L ∧ L.map Je.ep = alTo en pe b l l.length)
theorem poBad_ok {c : List Ac} {p : Po} (h : poBad c p = 0) : p.ws.length = p.tos.length ∧ 0 < p.tos.length ∧ p.tos.length ≤ 19 ∧ shBad p.ws = 0 ∧ (∀ k, k < p.tos.length → toBad c p.acc p.tos k = 0) ∧ leafBad c p.acc = 0 ∧ isCur p.cur = true := by
  unfold poBad at h
  split at h
  · contradiction
  · rename_i h1
    split at h
    · omega
    · rename_i h2
      split at h
      · omega
      · rename_i h3
        split at h
        · omega
        · rename_i h4
          split at h
          · contradiction
          · rename_i h5
            refine ⟨by omega, by omega, by omega, h, firstTo_zero (Decidable.of_not_not h5), Decidable.of_not_not h1, by simpa using h2⟩
theorem psBad_ok {c : List Ac} {l : List Po} (h : psBad c l = 0) : chBad c = 0 ∧ l.length ≤ 20 ∧ ∀ k, k < l.length → poBad c (l.getD k po0) = 0 := by
  unfold psBad at h
  split at h
  · contradiction
  · rename_i h1
    split at h
    · omega
    · exact ⟨Decidable.of_not_not h1, by omega, firstTo_zero h⟩

set_option maxHeartbeats 8000000 in
theorem alEntries_any (a a2 a3 : Option Addr) (cap cap2 cap3 : Nat) (c : List Ac) (l : List Po) (b : List Bl) (en pe : Int) (w : World) (h : IsSl w a c cap) (hl : IsPs w a2 l cap2) (hll : l.length ≤ 9223372036854775807) (hb : IsBl w a3 b cap3) (hbl : b.length ≤ 9223372036854775807) :
    Calls Tryz.prog 4 #[.slice a c.length cap, .slice a2 l.length cap2, .slice a3 b.length cap3, .int .i64 en, .int .i64 pe] w (AlEnd c l b en pe w) := by
  have HErr : Hid (∀ z W, z ≠ 0 → alBad c l b en pe = z → Below w.heap.size w W → AlEnd c l b en pe w (.returned (.tuple #[.slice none 0 0, .iface 53 (.int .i64 z)])) W) := fun z W h0 h1 h2 => by
    refine ⟨h2, fun _ => by rw [h1, chE_ne h0], fun e => absurd (h1.symm.trans e) h0⟩
  have HOk : Hid (∀ v L W, alBad c l b en pe = 0 → Below w.heap.size w W → Made W w.heap.size v L → L.map Je.ep = alTo en pe b l l.length → AlEnd c l b en pe w (.returned (.tuple #[v, .nilIface])) W) := fun v L W h1 h2 h3 h4 =>
    ⟨h2, fun h0 => absurd h1 h0, fun _ => ⟨v, L, rfl, h3, h4⟩⟩
  have HC : Hid (Calls _ _ _ _ _) := alCheck_any a a2 cap cap2 c l w h hl hll
  by_cases c1 : psBad c l ≠ 0
  · have e1 : alBad c l b en pe = psBad c l := by unfold alBad; rw [if_pos c1]
    have HE : Hid (∀ W, Below w.heap.size w W → AlEnd c l b en pe w (.returned (.tuple #[.slice none 0 0, .iface 53 (.int .i64 (psBad c l))])) W) := fun W hW => HErr.out _ W c1 e1 hW
    rw [chE_ne c1] at HC
    clear h hl hb c1 e1 HErr HOk
    generalize psBad c l = z at *
    go_enter Tryz.func4, Tryz.ntmps4
    go_wp2_with (go_at_call 10; refine HC.out.mono ?_; rintro e w1 ⟨rfl, hb1⟩)
    go_ret2
    exact HE.out _ hb1
  have c1' := Decidable.of_not_not c1
  rw [c1', chE_zero] at HC
  have HCb : Hid (∀ W, Below w.heap.size w W → Calls Tryz.prog 11 #[.slice a3 b.length cap3] W fun e w' => e = .returned (chE (chk b)) ∧ Below w.heap.size w w') := fun W hW => by
    refine (ldCheck_any a3 cap3 b W hbl (hb.below hW)).mono ?_
    rintro e w' ⟨rfl, h2⟩
    exact ⟨rfl, hW.trans (h2.mono hW.size)⟩
  by_cases c2 : chk b ≠ 0
  · have e1 : alBad c l b en pe = chk b := by unfold alBad; rw [if_neg c1, if_pos c2]
    have HE : Hid (∀ W, Below w.heap.size w W → AlEnd c l b en pe w (.returned (.tuple #[.slice none 0 0, .iface 53 (.int .i64 (chk b))])) W) := fun W hW => HErr.out _ W c2 e1 hW
    rw [chE_ne c2] at HCb
    clear h hl hb c1 c1' c2 e1 HErr HOk
    generalize chk b = z at *
    go_enter Tryz.func4, Tryz.ntmps4
    go_wp2_with (first | (go_at_call 10; refine HC.out.mono ?_; rintro e w1 ⟨rfl, hb1⟩) | (go_at_call 11; refine (HCb.out _ hb1).mono ?_; rintro e w2 ⟨rfl, hb2⟩))
    go_ret2
    exact HE.out _ hb2
  have c2' := Decidable.of_not_not c2
  rw [c2', chE_zero] at HCb
  have HU1 : Hid (∀ W, Calls Tryz.prog 12 #[.int .i64 en] W fun e w' => e = .returned (.bool (upTo en 12)) ∧ w' = W) := fun W => isEntity_any en W
  have HU2 : Hid (∀ W, Calls Tryz.prog 13 #[.int .i64 pe] W fun e w' => e = .returned (.bool (upTo pe 120)) ∧ w' = W) := fun W => isPeriod_any pe W
  by_cases c3 : (upTo en 12 && upTo pe 120) = false
  · have e1 : alBad c l b en pe = 1 := by unfold alBad; rw [if_neg c1, if_neg c2, if_pos c3]
    have HE : Hid (∀ W, Below w.heap.size w W → AlEnd c l b en pe w (.returned (.tuple #[.slice none 0 0, .iface 53 (.int .i64 1)])) W) := fun W hW => HErr.out _ W (by decide) e1 hW
    clear h hl hb c1 c1' c2 c2' e1 HErr HOk
    cases u1 : upTo en 12
    · rw [u1] at HU1
      clear c3 u1
      go_enter Tryz.func4, Tryz.ntmps4
      go_wp2_with (first | (go_at_call 10; refine HC.out.mono ?_; rintro e w1 ⟨rfl, hb1⟩) | (go_at_call 11; refine (HCb.out _ hb1).mono ?_; rintro e w2 ⟨rfl, hb2⟩) | (go_at_call 12; refine (HU1.out _).mono ?_; rintro e w' ⟨rfl, rfl⟩))
      go_ret2
      exact HE.out _ hb2
    · have u2 : upTo pe 120 = false := by rw [u1] at c3; simpa using c3
      rw [u1] at HU1
      rw [u2] at HU2
      clear c3 u1 u2
      go_enter Tryz.func4, Tryz.ntmps4
      go_wp2_with fail
      refine HC.out.mono ?_
      rintro e w1 ⟨rfl, hb1⟩
      go_wp2_with fail
      refine (HCb.out _ hb1).mono ?_
      rintro e w2 ⟨rfl, hb2⟩
      go_wp2_with fail
      refine (HU1.out _).mono ?_
      rintro e w' ⟨rfl, hw⟩
      rw [hw]; clear hw w'
      go_wp2_with fail
      refine (HU2.out _).mono ?_
      rintro e w' ⟨rfl, hw⟩
      rw [hw]; clear hw w'
      go_wp2
      go_ret2
      exact HE.out _ hb2
  have c3' : upTo en 12 = true ∧ upTo pe 120 = true := by simpa using c3
  have HB0 : Hid (alBad c l b en pe = firstTo (fun k => hasBad b en (l.getD k po0)) l.length) := by unfold alBad Hid; rw [if_neg c1, if_neg c2, if_neg c3]
  rw [c3'.1] at HU1
  rw [c3'.2] at HU2
  obtain ⟨p1, p2, p3⟩ := psBad_ok c1'
  have HPo : Hid (∀ k, k < l.length → poBad c (l.getD k po0) = 0) := p3
  have HPs : Hid (IsPs w a2 l cap2) := hl
  have HBl : Hid (IsBl w a3 b cap3 ∧ (b.length : Int) ≤ 9223372036854775807) := ⟨hb, by omega⟩
  have i2 : (l.length : Int) ≤ 20 := by omega
  clear h hl hb c1 c1' c2 c2' c3 c3' p1 p3
  obtain ⟨i0, hi, hz0, hz1, hz2⟩ := info_parts je_info
  go_enter Tryz.func4, Tryz.ntmps4
  go_wp2_with fail
  refine HC.out.mono ?_
  rintro e w1 ⟨rfl, hb1⟩
  go_wp2_with fail
  refine (HCb.out _ hb1).mono ?_
  rintro e w2 ⟨rfl, hb2⟩
  clear HC HCb hb1
  go_wp2_with fail
  refine (HU1.out _).mono ?_
  rintro e w' ⟨rfl, hw⟩
  rw [hw]; clear hw w' HU1
  go_wp2_with fail
  refine (HU2.out _).mono ?_
  rintro e w' ⟨rfl, hw⟩
  rw [hw]; clear hw w' HU2
  have HB2 : Hid (Below w.heap.size w w2) := hb2
  clear hb2
  go_wp2
  go_loopw [14, 42] (fun v i wr => ∃ (k : Nat) (L : List Je), k ≤ l.length ∧ i = .int .i64 k ∧ Hid (Made wr w.heap.size v L ∧ L.map Je.ep = alTo en pe b l k ∧ L.length ≤ k) ∧ Hid (firstTo (fun k => hasBad b en (l.getD k po0)) k = 0) ∧ Hid (Below w.heap.size w wr)) (fun _ i _ => l.length - (RowKit.intOf i).toNat)
  case atStart => exact ⟨0, [], Nat.zero_le _, rfl, ⟨Made.nil _ _, rfl, Nat.le_refl _⟩, rfl, HB2⟩
  case round =>
    obtain ⟨k, L, hk, rfl, HM, H0, HB⟩ := hrel
    obtain ⟨av, cv, ev, _⟩ := HM.out.1.isJs
    subst ev
    by_cases hkn : k < l.length
    · obtain ⟨bb, off, e, hblt, hc, hok⟩ := ((HPs.out).below HB.out).at hkn
      subst e
      have hpo := HPo.out k hkn
      obtain ⟨q1, q2, q3, q4, _⟩ := poBad_ok hpo
      have B1 := HB.out.alloc HB.out.size (.cells (l.getD k po0).cells 29)
      have b11 : Below wr.heap.size wr (wr.alloc (.cells (l.getD k po0).cells 29)) := (Below.refl _ wr).alloc (Nat.le_refl _) _
      have hx := PoAt.new wr (l.getD k po0) 29
      have HIn : Hid (Calls Tryz.prog 14 #[.slice a3 b.length cap3, .int .i64 en, .agg (l.getD k po0).cells] (wr.alloc (.cells (l.getD k po0).cells 29)) fun e w' => e = .returned (.int .i64 (getB b en (l.getD k po0).acc (l.getD k po0).cur)) ∧ Below (wr.alloc (.cells (l.getD k po0).cells 29)).heap.size (wr.alloc (.cells (l.getD k po0).cells 29)) w') := inPool_any a3 cap3 b en (l.getD k po0) _ HBl.out.2 (HBl.out.1.below B1)
      have HKeep : Hid (∀ W, Below (wr.alloc (.cells (l.getD k po0).cells 29)).heap.size (wr.alloc (.cells (l.getD k po0).cells 29)) W → Below w.heap.size w W ∧ Below wr.heap.size wr W ∧ PoAt W wr.heap.size 0 (l.getD k po0) ∧ PoOk W (l.getD k po0)) := fun W hW => by
        have hs : wr.heap.size < (wr.alloc (.cells (l.getD k po0).cells 29)).heap.size := by simp
        exact ⟨B1.trans (hW.mono B1.size), b11.trans (hW.mono b11.size), hx.below hW hs, (hok.below b11).below hW⟩
      have HNx : Hid (alTo en pe b l (k + 1) = alTo en pe b l k ++ poE en pe b k (l.getD k po0)) := alTo_next en pe b l k
      have HBd : Hid (hasBad b en (l.getD k po0) = 0 → firstTo (fun k => hasBad b en (l.getD k po0)) (k + 1) = 0) := fun h => by rw [firstTo_next H0.out, h]
      have HBr : Hid (hasBad b en (l.getD k po0) = 1 → alBad c l b en pe = 1) := fun h => by
        rw [HB0.out, firstTo_first H0.out (by rw [h]; decide) hkn, h]
      have HGo : Hid (∀ W has, PoOk W (l.getD k po0) → (¬ isAmt has → Calls Tryz.prog 15 #[.agg (l.getD k po0).cells, .int .i64 has] W fun e w' => e = .returned (.tuple #[.slice none 0 0, chE 1]) ∧ Below W.heap.size W w') ∧ (isAmt has → Calls Tryz.prog 15 #[.agg (l.getD k po0).cells, .int .i64 has] W fun e w' => ∃ v, e = .returned (.tuple #[v, .nilIface]) ∧ LnRow w' W.heap.size v (goL (l.getD k po0) has) ∧ Below W.heap.size W w')) := fun W has hW => ⟨fun h => given_bad _ has W h, fun h => given_ok _ has W hW q1 q3 q4 h⟩
      have HGB : Hid (hasBad b en (l.getD k po0) = @ite _ (isAmt (getB b en (l.getD k po0).acc (l.getD k po0).cur)) (decAmt _) 0 1) := rfl
      have HPE : Hid (poE en pe b k (l.getD k po0) = if getB b en (l.getD k po0).acc (l.getD k po0).cur = 0 then [] else [⟨refA k, en, pe, goL (l.getD k po0) (getB b en (l.getD k po0).acc (l.getD k po0).cur)⟩]) := rfl
      have f0 := hx.c0
      have f1 := hx.c1
      have f2 := hx.c2
      have f3 := hx.c3
      clear hok hx B1 b11 q1 q2 q3 q4 hpo
      generalize getB b en (l.getD k po0).acc (l.getD k po0).cur = has at *
      generalize hasBad b en (l.getD k po0) = hbd at *
      generalize goL (l.getD k po0) = gl at *
      generalize poE en pe b k (l.getD k po0) = pE at *
      generalize l.getD k po0 = p at *
      obtain ⟨acc, cur, tA, tC, tos, wA, wC, ws⟩ := p
      obtain ⟨d0, d1, d2, d3⟩ := hc
      simp only [Po.cells, Nat.zero_add] at d0 d1 d2 d3 f0 f1 f2 f3 HIn HKeep HGo
      have j0 : (0 : Int) ≤ k := by omega
      have j1 : (k : Int) < l.length := by omega
      by_cases g0 : has = 0
      · subst g0
        have HM2 : Hid (∀ W, Below wr.heap.size wr W → Made W w.heap.size (.slice av L.length cv) L ∧ L.map Je.ep = alTo en pe b l (k + 1) ∧ L.length ≤ k + 1) := fun W hW => by
          obtain ⟨m1, m2, m3⟩ := HM.out
          refine ⟨m1.below hW, ?_, by omega⟩
          rw [HNx.out, HPE.out, if_pos rfl, List.append_nil, m2]
        have HN : Hid (firstTo (fun k => hasBad b en (l.getD k po0)) (k + 1) = 0) := HBd.out (by rw [HGB.out, if_pos (by unfold isAmt; omega)])
        clear HBd HBr HGo HGB HPE HNx HM HOk HErr
        go_wp2_with fail
        refine HIn.out.mono ?_
        rintro e w3 ⟨rfl, hb3⟩
        obtain ⟨k1, k2, _⟩ := HKeep.out w3 hb3
        have HF : Hid _ := HM2.out w3 k2
        have HB3 : Hid (Below w.heap.size w w3) := k1
        clear HIn HKeep HM2 hb3 k1 k2
        go_wp2
        go_roundw
        case rel => exact ⟨k + 1, L, by omega, by go_num, HF, HN, HB3⟩
        case measure => simp [RowKit.intOf]; omega
      have g0' : (has == 0) = false := by rw [beq_eq_false_iff_ne]; exact g0
      go_wp2_with fail
      refine HIn.out.mono ?_
      rintro e w3 ⟨rfl, hb3⟩
      obtain ⟨k1, k2, k3, k4⟩ := HKeep.out w3 hb3
      obtain ⟨f0, f1, f2, f3⟩ := k3
      simp only [Nat.zero_add] at f0 f1 f2 f3
      have HK1 : Hid (Below w.heap.size w w3) := k1
      have HK2 : Hid (Below wr.heap.size wr w3) := k2
      obtain ⟨gB, gG⟩ := HGo.out w3 has k4
      clear HIn HKeep hb3 d0 d1 d2 d3 k1 k2 k4 HGo
      by_cases c4 : isAmt has
      · have HG : Hid (Calls _ _ _ _ _) := gG c4
        have HN : Hid (firstTo (fun k => hasBad b en (l.getD k po0)) (k + 1) = 0) := HBd.out (by rw [HGB.out, if_pos c4])
        have HP2 : Hid (alTo en pe b l (k + 1) = alTo en pe b l k ++ [⟨refA k, en, pe, gl has⟩]) := by
          rw [HNx.out, HPE.out, if_neg g0]; exact rfl
        clear gB gG HBd HBr HGB HPE HNx HOk HErr
        go_wp2_with fail
        refine HG.out.mono ?_
        rintro e w4 ⟨v4, rfl, hr4, hb4⟩
        obtain ⟨a4, c4', e4, _⟩ := hr4.isLn
        subst e4
        have HR4 : Hid (LnRow w4 w3.heap.size (.slice a4 (gl has).length c4') (gl has)) := hr4
        have HB4 : Hid (Below w3.heap.size w3 w4) := hb4
        have HIt : Hid (∀ W, Calls Tryz.prog 16 #[.int .i64 ((k : Nat) : Int)] W fun e w' => e = .returned (.string (digS k)) ∧ w' = W) := fun W => itoa_any k (by omega) W
        have HAdd : Hid (∀ v' w6, World.ownsRow w6 w.heap.size 40 4 v' (L.length + 1) (jeRow L ++ (Je.mk (refA k) en pe a4 c4' (gl has)).cells.toList) → (w4.alloc (.cells #[.string (refA k), .int .i64 en, .int .i64 pe, .slice a4 (gl has).length c4'] 40)).grownBy w6 (Value.slice av L.length cv).ownBlock → (Made w6 w.heap.size v' (L ++ [Je.mk (refA k) en pe a4 c4' (gl has)]) ∧ (L ++ [Je.mk (refA k) en pe a4 c4' (gl has)]).map Je.ep = alTo en pe b l (k + 1) ∧ (L ++ [Je.mk (refA k) en pe a4 c4' (gl has)]).length ≤ k + 1) ∧ Below w.heap.size w w6) := fun v' w6 h1 h2 => by
          obtain ⟨m1, m2, m3⟩ := HM.out
          have z1 := HK1.out.trans (HB4.out.mono HK1.out.size)
          have z2 := z1.alloc z1.size (.cells #[.string (refA k), .int .i64 en, .int .i64 pe, .slice a4 (gl has).length c4'] 40)
          have z3 : Below w4.heap.size w4 (w4.alloc (.cells #[.string (refA k), .int .i64 en, .int .i64 pe, .slice a4 (gl has).length c4'] 40)) := (Below.refl _ w4).alloc (Nat.le_refl _) _
          have m4 := ((m1.below HK2.out).below HB4.out).below z3
          refine ⟨⟨m4.add (x := Je.mk (refA k) en pe a4 c4' (gl has)) ((HR4.out.below z3).mono HK1.out.size) h1 h2, ?_, ?_⟩, z2.grown h2 z2.size fun j e => m1.row.own j e⟩
          · rw [List.map_append, m2, HP2.out]; rfl
          · rw [List.length_append]; simp; exact m3
        have HRow : Hid (World.ownsRow (w4.alloc (.cells #[.string (refA k), .int .i64 en, .int .i64 pe, .slice a4 (gl has).length c4'] 40)) w.heap.size 40 4 (.slice av L.length cv) L.length (jeRow L)) := by
          have m4 := (HM.out.1.below HK2.out).below HB4.out
          exact World.ownsRow.alloc m4.row _
        have s2 : Hid (L.length + 1 ≤ maxLen ∧ (L.length + 1) * 56 ≤ 140737488355328) := by
          have := HM.out.2.2
          unfold Hid maxLen; omega
        have s4 : Hid (w.heap.size ≤ (w4.alloc (.cells #[.string (refA k), .int .i64 en, .int .i64 pe, .slice a4 (gl has).length c4'] 40)).heap.size) := by
          have z1 := HK1.out.size
          have z2 := HB4.out.size
          unfold Hid; simp; omega
        have hds : ¬ 9223372036854775807 < 6 + (digS k).size := by have := digS_size k; omega
        clear HG hr4 hb4 HM f0 f1 f2 f3
        go_wp2_with fail
        refine (HIt.out _).mono ?_
        rintro e w' ⟨rfl, hw⟩
        rw [hw]; clear hw w' HIt
        go_wp2_with (at_builtin; refine wpList_append_own _ rfl _ _ 30 rfl w.heap.size 40 i0 (.agg #[.string ByteArray.empty, .int .i64 0, .int .i64 0, .slice none 0 0]) 4 56 Tryz.underlying30 hi hz0 hz1 hz2 rfl (by decide) _ _ _ rfl HRow.out ⟨w4.heap.size, 0, none⟩ 1 1 (Je.mk (refA k) en pe a4 c4' (gl has)).cells.toList rfl rfl (World.news_of_block (World.alloc_heap_new w4 _)) (je_one _) s2.out.1 s2.out.2 s4.out ?_)
        intro v' w6 hown' hgrow _
        obtain ⟨hm6, hb6⟩ := HAdd.out v' w6 hown' hgrow
        have HM6 : Hid _ := hm6
        have HB6 : Hid (Below w.heap.size w w6) := hb6
        clear hown' hgrow hm6 hb6 HAdd HRow
        go_wp2
        go_roundw
        case rel => exact ⟨k + 1, _, by omega, by go_num, HM6, HN, HB6⟩
        case measure => simp [RowKit.intOf]; omega
      · have HG : Hid (Calls _ _ _ _ _) := gB c4
        have HE : Hid (∀ W, Below w.heap.size w W → AlEnd c l b en pe w (.returned (.tuple #[.slice none 0 0, .iface 53 (.int .i64 1)])) W) := fun W hW => HErr.out _ W (by decide) (HBr.out (by rw [HGB.out, if_neg c4])) hW
        rw [chE_ne (by decide)] at HG
        clear gB gG HBd HBr HGB HPE HNx HOk HErr
        go_wp2_with fail
        refine HG.out.mono ?_
        rintro e w4 ⟨rfl, hb4⟩
        have HB4 : Hid (Below w.heap.size w w4) := HK1.out.trans (hb4.mono HK1.out.size)
        clear hb4 HG
        go_wp2
        go_ret2
        exact HE.out _ HB4.out
    · have ek : k = l.length := by omega
      subst ek
      obtain ⟨m1, m2, m3⟩ := HM.out
      have HE : Hid (AlEnd c l b en pe w (.returned (.tuple #[.slice av L.length cv, .nilIface])) wr) := HOk.out _ L wr (by rw [HB0.out, H0.out]) HB.out m1 m2
      clear m1 m2 m3 HM HErr HOk HPo HPs HBl
      go_wp2
      go_ret2
      exact HE.out
end Go.Proofs.YtiiljdjajbmamaaGreatDoor

namespace Go.Proofs.YtiiljdjajbmamaaGreatDoor
set_option linter.unusedVariables false
set_option linter.unusedSimpArgs false

/-- All sizes together. -/
def absS (l : List Int) : Int := (l.map sizeI).sum
/-- What comes to those behind. -/
def cameL (t : Int) (beh : List Int) : List Int := (List.range beh.length).map (shareI t beh)
def posB (x : Int) : Bool := decide (0 < x)
/-- One gives out what it has to those behind it. -/
def downL (has : List Int) (i : Nat) (beh : List Int) : List Int :=
  if beh.any posB = true then has.take i ++ 0 :: List.zipWith (· + ·) (has.drop (i + 1)) (cameL (has.getD i 0) beh) else has
/-- What each has behind the first steps. -/
def stepL (rows : Nat → List Int) (am : List Int) : Nat → List Int
  | 0 => am
  | k + 1 => downL (stepL rows am k) k ((rows k).drop (k + 1))

theorem has_parts (has : List Int) (i : Nat) (h : i < has.length) : has = has.take i ++ has.getD i 0 :: has.drop (i + 1) := by
  have h1 : has.drop i = has.getD i 0 :: has.drop (i + 1) := by
    rw [List.drop_eq_getElem_cons h, List.getD_eq_getElem?_getD, List.getElem?_eq_getElem h]; rfl
  rw [← h1, List.take_append_drop]
theorem came_len (t : Int) (beh : List Int) : (cameL t beh).length = beh.length := by simp [cameL]
theorem down_len {has : List Int} {i : Nat} {beh : List Int} (hi : i < has.length) (hb : beh.length = has.length - (i + 1)) : (downL has i beh).length = has.length := by
  unfold downL
  split
  · simp [came_len]; omega
  · rfl
theorem zip_sum : ∀ (a b : List Int), a.length = b.length → (List.zipWith (· + ·) a b).sum = a.sum + b.sum
  | [], [], _ => by simp
  | x :: a, y :: b, h => by
    have := zip_sum a b (by simpa using h)
    simp only [List.zipWith_cons_cons, List.sum_cons, this]
    omega
theorem size_add (x y : Int) : sizeI (x + y) ≤ sizeI x + sizeI y := by unfold sizeI; split <;> split <;> split <;> omega
theorem zip_abs : ∀ (a b : List Int), a.length = b.length → absS (List.zipWith (· + ·) a b) ≤ absS a + absS b
  | [], [], _ => by simp [absS]
  | x :: a, y :: b, h => by
    have h1 := zip_abs a b (by simpa using h)
    have h2 := size_add x y
    simp only [absS, List.zipWith_cons_cons, List.map_cons, List.sum_cons] at h1 ⊢
    omega
theorem absS_append (a b : List Int) : absS (a ++ b) = absS a + absS b := by simp [absS]
theorem absS_cons (x : Int) (a : List Int) : absS (x :: a) = sizeI x + absS a := by simp [absS]
theorem absS_nonneg : ∀ a : List Int, 0 ≤ absS a
  | [] => by simp [absS]
  | x :: a => by rw [absS_cons]; have := absS_nonneg a; have := sizeI_nonneg x; omega
theorem size_le_abs {a : List Int} {x : Int} (h : x ∈ a) : sizeI x ≤ absS a := by
  induction a with
  | nil => cases h
  | cons y a ih =>
    rw [absS_cons]
    have h1 := absS_nonneg a
    have h2 := sizeI_nonneg y
    rcases List.mem_cons.1 h with rfl | h
    · omega
    · have := ih h; omega
theorem absS_pos : ∀ {l : List Int}, (∀ x ∈ l, 0 ≤ x) → absS l = l.sum
  | [], _ => by simp [absS]
  | x :: l, h => by
    have h1 := absS_pos (l := l) fun y hy => h y (List.mem_cons_of_mem _ hy)
    have h2 := h x (List.mem_cons_self ..)
    rw [absS_cons, h1, List.sum_cons]
    unfold sizeI; rw [if_neg (by omega)]
theorem absS_neg : ∀ {l : List Int}, (∀ x ∈ l, x ≤ 0) → absS l = -l.sum
  | [], _ => by simp [absS]
  | x :: l, h => by
    have h1 := absS_neg (l := l) fun y hy => h y (List.mem_cons_of_mem _ hy)
    have h2 := h x (List.mem_cons_self ..)
    rw [absS_cons, h1, List.sum_cons]
    unfold sizeI; split <;> omega
theorem came_sum {t : Int} {beh : List Int} (h : GoodW beh) : (cameL t beh).sum = t := share_sum h
theorem came_mem {t : Int} {beh : List Int} {x : Int} (hx : x ∈ cameL t beh) : ∃ i, i < beh.length ∧ x = shareI t beh i := by
  obtain ⟨i, h1, h2⟩ := List.mem_map.1 hx
  exact ⟨i, List.mem_range.1 h1, h2.symm⟩
theorem came_abs {t : Int} {beh : List Int} (h : GoodW beh) : absS (cameL t beh) = sizeI t := by
  by_cases ht : 0 ≤ t
  · rw [absS_pos fun x hx => by obtain ⟨i, h1, rfl⟩ := came_mem hx; exact ((share_bd h h1).1 ht).1, came_sum h]
    unfold sizeI; rw [if_neg (by omega)]
  · rw [absS_neg fun x hx => by obtain ⟨i, h1, rfl⟩ := came_mem hx; exact ((share_bd h h1).2 (by omega)).2, came_sum h]
    unfold sizeI; rw [if_pos (by omega)]
theorem good_beh {beh : List Int} (hl : beh.length ≤ 40) (hw : ∀ x ∈ beh, 0 ≤ x ∧ x ≤ 1000000000) (hp : beh.any posB = true) : GoodW beh := by
  refine ⟨hl, hw, ?_⟩
  obtain ⟨x, hx, h1⟩ := List.any_eq_true.1 hp
  have h2 : 0 < x := of_decide_eq_true h1
  have h3 := mem_le_sum (fun y hy => (hw y hy).1) hx
  omega
/-- Nothing is lost, and nothing grows. -/
theorem down_keeps {has : List Int} {i : Nat} {beh : List Int} (hi : i < has.length) (hb : beh.length = has.length - (i + 1)) (hl : beh.length ≤ 40) (hw : ∀ x ∈ beh, 0 ≤ x ∧ x ≤ 1000000000) : (downL has i beh).sum = has.sum ∧ absS (downL has i beh) ≤ absS has := by
  unfold downL
  split
  · rename_i hp
    have hG := good_beh hl hw hp
    have e := has_parts has i hi
    have hz : (has.drop (i + 1)).length = (cameL (has.getD i 0) beh).length := by rw [came_len, List.length_drop, hb]
    have s1 := zip_sum _ _ hz
    have s2 := zip_abs _ _ hz
    rw [came_sum hG] at s1
    rw [came_abs hG] at s2
    have t1 : has.sum = (has.take i).sum + (has.getD i 0 + (has.drop (i + 1)).sum) := by
      rw [← List.sum_cons, ← List.sum_append, ← e]
    have t2 : absS has = absS (has.take i) + (sizeI (has.getD i 0) + absS (has.drop (i + 1))) := by
      rw [← absS_cons, ← absS_append, ← e]
    refine ⟨?_, ?_⟩
    · rw [List.sum_append, List.sum_cons, s1]; omega
    · rw [absS_append, absS_cons]
      have : sizeI 0 = 0 := rfl
      omega
  · exact ⟨rfl, Int.le_refl _⟩
/-- What is asked of the weights. -/
def GoodR (rows : Nat → List Int) (n : Nat) : Prop := n ≤ 20 ∧ ∀ k, k < n → (rows k).length = n ∧ ∀ x ∈ rows k, 0 ≤ x ∧ x ≤ 1000000000
theorem step_keeps {rows : Nat → List Int} {am : List Int} (hr : GoodR rows am.length) : ∀ k, k ≤ am.length → (stepL rows am k).length = am.length ∧ (stepL rows am k).sum = am.sum ∧ absS (stepL rows am k) ≤ absS am
  | 0, _ => ⟨rfl, rfl, Int.le_refl _⟩
  | k + 1, hk => by
    obtain ⟨h1, h2, h3⟩ := step_keeps hr k (by omega)
    obtain ⟨g1, g2⟩ := hr.2 k (by omega)
    have hb : ((rows k).drop (k + 1)).length = (stepL rows am k).length - (k + 1) := by rw [List.length_drop, g1, h1]
    have hn := hr.1
    obtain ⟨d1, d2⟩ := down_keeps (has := stepL rows am k) (i := k) (by omega) hb (by rw [List.length_drop, g1]; omega) (fun x hx => g2 x (List.mem_of_mem_drop hx))
    refine ⟨?_, ?_, ?_⟩
    · show (downL _ _ _).length = _
      rw [down_len (by omega) hb, h1]
    · show (downL _ _ _).sum = _
      rw [d1, h2]
    · show absS (downL _ _ _) ≤ _
      omega
theorem abs_le : ∀ {l : List Int} {M : Int}, (∀ x ∈ l, sizeI x ≤ M) → absS l ≤ M * l.length
  | [], M, _ => by simp [absS]
  | x :: l, M, h => by
    have h1 := abs_le (l := l) (M := M) fun y hy => h y (List.mem_cons_of_mem _ hy)
    have h2 := h x (List.mem_cons_self ..)
    rw [absS_cons, List.length_cons, Int.natCast_add, Int.mul_add]
    omega
/-- Between the rounds of a step. -/
def midL (has : List Int) (i : Nat) (beh : List Int) (k : Nat) : List Int := has.take i ++ 0 :: ((List.zipWith (· + ·) (has.drop (i + 1)) (cameL (has.getD i 0) beh)).take k ++ (has.drop (i + 1)).drop k)
theorem mid_zero (has : List Int) (i : Nat) (beh : List Int) (hi : i < has.length) : midL has i beh 0 = has.set i 0 := by
  unfold midL
  rw [List.take_zero, List.nil_append, List.drop_zero]
  conv => rhs; rw [has_parts has i hi]
  rw [List.set_append_right _ _ (by rw [List.length_take]; omega), List.length_take, Nat.min_eq_left (by omega), Nat.sub_self]
  rfl
theorem mid_len (has : List Int) (i : Nat) (beh : List Int) (k : Nat) (hi : i < has.length) (hb : beh.length = has.length - (i + 1)) (hk : k ≤ beh.length) : (midL has i beh k).length = has.length := by
  unfold midL
  simp [came_len]
  omega
theorem mid_at (has : List Int) (i : Nat) (beh : List Int) (k : Nat) (hi : i < has.length) (hb : beh.length = has.length - (i + 1)) (hk : k < beh.length) : (midL has i beh k).getD (i + 1 + k) 0 = (has.drop (i + 1)).getD k 0 := by
  unfold midL
  have hz : (List.zipWith (· + ·) (has.drop (i + 1)) (cameL (has.getD i 0) beh)).length = beh.length := by simp [came_len]; omega
  rw [List.getD_eq_getElem?_getD, List.getElem?_append_right (by rw [List.length_take]; omega), List.length_take, Nat.min_eq_left (by omega), show i + 1 + k - i = k + 1 by omega, List.getElem?_cons_succ, List.getElem?_append_right (by rw [List.length_take, hz]; omega), List.length_take, hz, Nat.min_eq_left (by omega), Nat.sub_self, List.getElem?_drop, ← List.getD_eq_getElem?_getD]
  rfl
theorem mid_next (has : List Int) (i : Nat) (beh : List Int) (k : Nat) (hi : i < has.length) (hb : beh.length = has.length - (i + 1)) (hk : k < beh.length) : (midL has i beh k).set (i + 1 + k) ((has.drop (i + 1)).getD k 0 + shareI (has.getD i 0) beh k) = midL has i beh (k + 1) := by
  have hz : (List.zipWith (· + ·) (has.drop (i + 1)) (cameL (has.getD i 0) beh)).length = beh.length := by simp [came_len]; omega
  have hd : (has.drop (i + 1)).length = beh.length := by rw [List.length_drop, hb]
  have e1 : (List.zipWith (· + ·) (has.drop (i + 1)) (cameL (has.getD i 0) beh)).take (k + 1) = (List.zipWith (· + ·) (has.drop (i + 1)) (cameL (has.getD i 0) beh)).take k ++ [(has.drop (i + 1)).getD k 0 + shareI (has.getD i 0) beh k] := by
    rw [List.take_succ_eq_append_getElem (by rw [hz]; exact hk)]
    congr 2
    have q : (has.drop (i + 1)).getD k 0 = (has.drop (i + 1))[k]'(by rw [hd]; exact hk) := by
      rw [List.getD_eq_getElem?_getD, List.getElem?_eq_getElem (by rw [hd]; exact hk)]; rfl
    rw [q, List.getElem_zipWith]
    simp [cameL]
  have e2 : (has.drop (i + 1)).drop k = (has.drop (i + 1)).getD k 0 :: (has.drop (i + 1)).drop (k + 1) := by
    rw [List.drop_eq_getElem_cons (by rw [hd]; exact hk), List.getD_eq_getElem?_getD, List.getElem?_eq_getElem (by rw [hd]; exact hk)]
    rfl
  unfold midL
  rw [e1, e2, List.set_append_right _ _ (by rw [List.length_take]; omega), List.length_take, Nat.min_eq_left (by omega), show i + 1 + k - i = k + 1 by omega, List.set_cons_succ, List.set_append_right _ _ (by rw [List.length_take, hz]; omega), List.length_take, hz, Nat.min_eq_left (by omega), Nat.sub_self, List.set_cons_zero, List.append_assoc]
  rfl
theorem mid_all (has : List Int) (i : Nat) (beh : List Int) (hb : beh.length = has.length - (i + 1)) (hp : beh.any posB = true) : midL has i beh beh.length = downL has i beh := by
  have hz : (List.zipWith (· + ·) (has.drop (i + 1)) (cameL (has.getD i 0) beh)).length = beh.length := by simp [came_len]; omega
  have h1 : (List.zipWith (· + ·) (has.drop (i + 1)) (cameL (has.getD i 0) beh)).take beh.length = List.zipWith (· + ·) (has.drop (i + 1)) (cameL (has.getD i 0) beh) := List.take_of_length_le (by omega)
  have h2 : (has.drop (i + 1)).drop beh.length = [] := List.drop_eq_nil_of_le (by rw [List.length_drop]; omega)
  unfold midL downL
  rw [if_pos hp, h1, h2, List.append_nil]
end Go.Proofs.YtiiljdjajbmamaaGreatDoor

namespace Go.Proofs.YtiiljdjajbmamaaGreatDoor
set_option linter.unusedVariables false
set_option linter.unusedSimpArgs false
set_option maxRecDepth 100000
open Go.RowKit Go.Lib

/-- A row of numbers that is one's own, with places to spare. -/
def HRow (w : World) (g cap : Nat) (r : List Int) : Prop := ∃ cur : Array Value, w.heap[g]? = some (.cells cur 3 (0, 0)) ∧ cur.size = cap ∧ r.length ≤ cap ∧ cur.toList.take r.length = r.map (Value.int .i64)
theorem HRow.lt {w : World} {g cap : Nat} {r : List Int} (h : HRow w g cap r) : g < w.heap.size := by
  obtain ⟨cur, h1, _⟩ := h
  exact (Array.getElem?_eq_some_iff.1 h1).1
theorem HRow.le {w : World} {g cap : Nat} {r : List Int} (h : HRow w g cap r) : r.length ≤ cap := by
  obtain ⟨cur, h1, h2, h3, _⟩ := h
  exact h3
theorem HRow.cell {w : World} {g cap : Nat} {r : List Int} (h : HRow w g cap r) {i : Nat} (hi : i < r.length) : w.cell? ⟨g, i, none⟩ = some (.int .i64 (r.getD i 0)) := by
  obtain ⟨cur, h1, h2, h3, h4⟩ := h
  have e : cur[i]? = (r.map (Value.int .i64))[i]? := by
    rw [← h4, List.getElem?_take, if_pos hi]; simp
  simp only [World.cell?, h1]
  rw [e, List.getElem?_map, List.getElem?_eq_getElem hi, List.getD_eq_getElem?_getD, List.getElem?_eq_getElem hi]
  rfl
theorem HRow.frozen {w : World} {g cap : Nat} {r : List Int} (h : HRow w g cap r) (i : Nat) : w.frozen? ⟨g, i, none⟩ = false := by
  obtain ⟨cur, h1, _⟩ := h
  simp [World.frozen?, h1]
theorem HRow.set {w : World} {g cap : Nat} {r : List Int} (h : HRow w g cap r) (i : Nat) (x : Int) : HRow (w.setCell ⟨g, i, none⟩ (.int .i64 x)) g cap (r.set i x) := by
  obtain ⟨cur, h1, h2, h3, h4⟩ := h
  refine ⟨cur.setIfInBounds i (.int .i64 x), ?_, by simpa using h2, by simpa using h3, ?_⟩
  · rw [setCell_eq_setRow w g i cur 3 (0, 0) _ h1]
    exact setRow_heap w g cur _ 3 (0, 0) h1
  · rw [List.length_set, Array.toList_setIfInBounds, List.take_set, h4, List.map_set]
theorem HRow.below {w w' : World} {g cap : Nat} {r : List Int} (h : HRow w g cap r) (hb : Below w.heap.size w w') : HRow w' g cap r := by
  have hl := h.lt
  obtain ⟨cur, h1, h2⟩ := h
  exact ⟨cur, (hb.block g hl).trans h1, h2⟩
theorem HRow.drewN {w : World} {g cap : Nat} {r : List Int} (h : HRow w g cap r) (n : Nat) : HRow (w.drewN n) g cap r := h
theorem HRow.isW {w : World} {g cap : Nat} {r : List Int} (h : HRow w g cap r) : IsW w (some ⟨g, 0, none⟩) r cap :=
  ⟨h.le, .inr ⟨g, 0, rfl, h.lt, fun k hk => by rw [Nat.zero_add]; exact h.cell hk⟩⟩

theorem al_enters {f : FuncId} {fn : Func} (hf : Tryz.prog.funcs[f]? = some fn) (hn : (fn.name == "runtime.NumGoroutine") = false) (hb : ∃ c, fn.body = some c) (args : Array Value) (w : World) : (callFunc f args).run Tryz.prog w = .ok (.enter f args) w := by
  obtain ⟨c, hc⟩ := hb
  exact MuLone.run_callFunc_enter hf hn hc args w
/-- What is asked of a function that is told a number and says yes or no. -/
structure ITells (g : Nat) (p : Int → Bool) : Prop where
  eg : ∀ args W, (callFunc g args).run Tryz.prog W = .ok (.enter g args) W
  call : ∀ (x : Int) W, Calls Tryz.prog g #[.int .i64 x] W fun e w' => e = .returned (.bool (p x)) ∧ w' = W
set_option maxHeartbeats 1000000 in
theorem nIdx_any (g : Nat) (p : Int → Bool) (a : Option Addr) (l : List Int) (cap : Nat) (w : World) (hp : ITells g p) (h : IsW w a l cap) (hl : l.length ≤ 9223372036854775807) :
    Calls Tryz.prog 56 #[.slice a l.length cap, .func (.func g) #[] #[]] w fun e w' => (∃ r, e = .returned (.int .i64 r) ∧ decide (0 ≤ r) = l.any p) ∧ w' = w := by
  have eg := hp.eg
  have Hp : Hid (ITells g p) := hp
  have H1 : Hid (IsW w a l cap) := h
  have Hl : (l.length : Int) ≤ 9223372036854775807 := by omega
  clear hp h
  go_enter Tryz.func56, Tryz.ntmps56
  go_wp2
  go_loop [8] (fun i => ∃ k : Nat, k ≤ l.length ∧ i = .int .i64 k ∧ Hid ((l.take k).any p = false)) (fun i => l.length - (RowKit.intOf i).toNat)
  case atStart => exact ⟨0, Nat.zero_le _, rfl, rfl⟩
  case round =>
    obtain ⟨k, hk, rfl, H⟩ := hrel
    by_cases hlt : k < l.length
    · obtain ⟨b, off, e, hb, hc⟩ := H1.out.at hlt
      subst e
      have hcall := Hp.out.call (l.getD k 0) w
      have HN : Hid ((l.take (k + 1)).any p = p (l.getD k 0)) := by
        rw [w_take l k hlt]
        unfold Hid
        rw [List.any_append, H.out]
        simp
      have HT : Hid (p (l.getD k 0) = true → l.any p = true) := fun h => List.any_eq_true.2 ⟨_, w_mem l k hlt, h⟩
      generalize l.getD k 0 = x at *
      have i0 : (0 : Int) ≤ k := by omega
      have i1 : (k : Int) < l.length := by omega
      cases hq : p x
      · rw [hq] at hcall HN
        clear HT
        go_wp2_with (go_at_fn g; refine hcall.mono ?_; rintro e w' ⟨rfl, rfl⟩)
        go_round
        case rel => exact ⟨k + 1, by omega, by go_num, HN⟩
        case measure => simp [RowKit.intOf]; omega
      · rw [hq] at hcall
        have HE : Hid (decide (0 ≤ (k : Int)) = l.any p) := by rw [HT.out hq]; exact decide_eq_true i0
        clear HT HN
        go_wp2_with (go_at_fn g; refine hcall.mono ?_; rintro e w' ⟨rfl, rfl⟩)
        go_ret
        exact ⟨⟨k, rfl, HE.out⟩, rfl⟩
    · have hk2 : k = l.length := by omega
      subst hk2
      have HE : Hid (decide (0 ≤ (-1 : Int)) = l.any p) := by
        have h1 := H.out
        rw [List.take_length] at h1
        rw [h1]; exact rfl
      clear H
      go_wp2
      go_ret
      exact ⟨⟨-1, rfl, HE.out⟩, rfl⟩
theorem nHas_any (g : Nat) (p : Int → Bool) (a : Option Addr) (l : List Int) (cap : Nat) (w : World) (hp : ITells g p) (h : IsW w a l cap) (hl : l.length ≤ 9223372036854775807) :
    Calls Tryz.prog 37 #[.slice a l.length cap, .func (.func g) #[] #[]] w fun e w' => e = .returned (.bool (l.any p)) ∧ w' = w := by
  have HC : Hid (Calls _ _ _ _ _) := nIdx_any g p a l cap w hp h hl
  clear h hp
  generalize l.any p = q at *
  go_enter Tryz.func37, Tryz.ntmps37
  go_wp2_with fail
  refine HC.out.mono ?_
  rintro e w' ⟨⟨r, rfl, hr⟩, hw⟩
  rw [hw]; clear hw w'
  go_wp2
  go_ret
  refine ⟨?_, rfl⟩
  rw [← hr]
  rfl

theorem down1_tells : ITells 38 posB := by
  refine ⟨fun args W => al_enters Tryz.func38 (by kernel_rfl) ⟨_, rfl⟩ args W, fun x W => ?_⟩
  go_enter Tryz.func38, Tryz.ntmps38
  go_wp2
  go_ret
  exact ⟨rfl, rfl⟩
theorem check2_tells : ITells 36 wBad := by
  refine ⟨fun args W => al_enters Tryz.func36 (by kernel_rfl) ⟨_, rfl⟩ args W, fun x W => ?_⟩
  by_cases h : x < 0
  · have e : wBad x = true := by simp [wBad, h]
    rw [e]
    go_enter Tryz.func36, Tryz.ntmps36
    go_wp2
    go_ret
    exact ⟨rfl, rfl⟩
  · have e : wBad x = decide (1000000000 < x) := by simp [wBad, h]
    rw [e]
    go_enter Tryz.func36, Tryz.ntmps36
    go_wp2
    go_ret
    exact ⟨rfl, rfl⟩

theorem size_bd {x : Int} {M : Int} (h : sizeI x ≤ M) : -M ≤ x ∧ x ≤ M := by unfold sizeI at h; split at h <;> omega
theorem getD_mem_int {l : List Int} {i : Nat} (h : i < l.length) : l.getD i 0 ∈ l := by
  rw [List.getD_eq_getElem?_getD, List.getElem?_eq_getElem h]; exact List.getElem_mem h

set_option maxHeartbeats 8000000 in
theorem stepDown_any (g cap i n : Nat) (has beh : List Int) (aw : Option Addr) (cw : Nat) (w : World) (hr : HRow w g cap has) (hi : i < n) (hn : has.length = n) (hb : beh.length = n - (i + 1)) (hw : IsW w aw beh cw) (hl : n ≤ 20) (hg : ∀ x ∈ beh, 0 ≤ x ∧ x ≤ 1000000000) (ha : absS has ≤ 1000000000000000000) :
    Calls Tryz.prog 20 #[.slice (some ⟨g, i, none⟩) (n - i) (cap - i), .slice aw beh.length cw] w fun e w' => e = .returned .nilIface ∧ HRow w' g cap (downL has i beh) ∧ Below g w w' := by
  have HT : Hid (Calls _ _ _ _ _) := nHas_any 38 posB aw beh cw w down1_tells hw (by omega)
  have hi' : i < has.length := by omega
  have hb' : beh.length = has.length - (i + 1) := by omega
  cases hp : beh.any posB
  · have e0 : downL has i beh = has := by unfold downL; rw [if_neg (by rw [hp]; simp)]
    rw [e0]
    rw [hp] at HT
    have HR : Hid (HRow w g cap has) := hr
    clear hr e0 hp hw ha hg hb hb' hn hi'
    go_enter Tryz.func20, Tryz.ntmps20
    go_wp2_with (go_at_call 37; refine HT.out.mono ?_; rintro e w' ⟨rfl, rfl⟩)
    go_ret
    exact ⟨rfl, HR.out, Below.refl _ _⟩
  have hG := good_beh (by omega) hg hp
  have ht := size_bd (Int.le_trans (size_le_abs (getD_mem_int hi')) ha)
  have HS : Hid (Calls Tryz.prog 29 #[.int .i64 (has.getD i 0), .slice aw beh.length cw] w fun e w' => ∃ gs, e = .returned (.tuple #[.slice (some ⟨gs, 0, none⟩) beh.length beh.length, .nilIface]) ∧ NRow w' gs (cameL (has.getD i 0) beh) ∧ w.heap.size ≤ gs ∧ Below w.heap.size w w') := by
    refine (shares_any (has.getD i 0) aw beh cw w hw (by omega) (by unfold Math.I64; omega)).mono ?_
    rintro e w' ⟨h1, _, h2⟩
    obtain ⟨gs, h3, rfl, h4⟩ := h2 (good_zero hG)
    exact ⟨gs, rfl, h4, h3, h1⟩
  rw [hp] at HT
  have HM : Hid (∀ k, k < beh.length → (midL has i beh k).getD (i + 1 + k) 0 = (has.drop (i + 1)).getD k 0 ∧ (midL has i beh k).set (i + 1 + k) ((has.drop (i + 1)).getD k 0 + shareI (has.getD i 0) beh k) = midL has i beh (k + 1) ∧ (midL has i beh k).length = n) := fun k hk => ⟨mid_at has i beh k hi' hb' hk, mid_next has i beh k hi' hb' hk, by rw [mid_len has i beh k hi' hb' (by omega)]; exact hn⟩
  have HM0 : Hid (midL has i beh 0 = has.set i 0) := mid_zero has i beh hi'
  have HMe : Hid (midL has i beh beh.length = downL has i beh) := mid_all has i beh hb' hp
  have HBd : Hid (∀ k, k < beh.length → (-1000000000000000000 ≤ (has.drop (i + 1)).getD k 0 ∧ (has.drop (i + 1)).getD k 0 ≤ 1000000000000000000) ∧ -1000000000000000000 ≤ shareI (has.getD i 0) beh k ∧ shareI (has.getD i 0) beh k ≤ 1000000000000000000) := fun k hk => by
    refine ⟨size_bd (Int.le_trans (size_le_abs (List.mem_of_mem_drop (i := i + 1) (getD_mem_int (by rw [List.length_drop]; omega)))) ha), ?_⟩
    have := share_bd hG hk (t := has.getD i 0)
    by_cases h0 : 0 ≤ has.getD i 0
    · have := this.1 h0; omega
    · have := this.2 (by omega); omega
  have HR : Hid (HRow w g cap has) := hr
  have c0 : w.cell? ⟨g, i, none⟩ = some (.int .i64 (has.getD i 0)) := hr.cell hi'
  have hgl := hr.lt
  have hcap := hr.le
  obtain ⟨t, hte⟩ : ∃ t, has.getD i 0 = t := ⟨_, rfl⟩
  rw [hte] at c0 HS HM HBd ht
  have Hn : Hid (has.length = n) := hn
  obtain ⟨m, hm⟩ : ∃ m, beh.length = m := ⟨_, rfl⟩
  have Hm : Hid (beh.length = m) := hm
  have HCm : Hid (∀ k, k < m → (cameL t beh).getD k 0 = shareI t beh k) := fun k hk => by
    unfold cameL; rw [hm]; simp [List.getD_eq_getElem?_getD, hk]
  have HCl : Hid ((cameL t beh).length = m) := by rw [came_len]; exact hm
  rw [hm] at HS HM HMe HBd hb HT ⊢
  have i1 : (0 : Int) < (n : Int) - i := by omega
  have i2 : ((n - i : Nat) : Int) = (n : Int) - i := by omega
  have i3 : 0 < n - i := by omega
  have i4 : (0 : Int) < ((n - i : Nat) : Int) := by omega
  have i5 : (m : Int) ≤ 19 := by omega
  clear hr hw hg ha hp hG hi' hb' hm hte hn i2
  have Hb : Hid (m = n - (i + 1)) := hb
  clear hb
  go_enter Tryz.func20, Tryz.ntmps20
  go_wp2_with fail
  refine HT.out.mono ?_
  rintro e w' ⟨rfl, hw⟩
  rw [hw]; clear hw w' HT
  go_wp2_with fail
  refine HS.out.mono ?_
  rintro e w1 ⟨gs, rfl, hns, hgs, hb1⟩
  have HR1 : Hid (HRow w1 g cap has) := HR.out.below hb1
  have HN1 : Hid (NRow w1 gs (cameL t beh)) := hns
  have HB1 : Hid (Below g w w1) := hb1.mono (by omega)
  have hne : gs ≠ g := by omega
  have c1 := HR1.out.cell (i := i) (by rw [Hn.out]; omega)
  have f1 := HR1.out.frozen i
  generalize has.getD i 0 = z at c1
  have HR2 : Hid (HRow (w1.setCell ⟨g, i, none⟩ (.int .i64 0)) g cap (midL has i beh 0) ∧ NRow (w1.setCell ⟨g, i, none⟩ (.int .i64 0)) gs (cameL t beh) ∧ Below g w (w1.setCell ⟨g, i, none⟩ (.int .i64 0))) := by
    rw [HM0.out]
    exact ⟨HR1.out.set i 0, HN1.out.other hne i _, HB1.out.setCell (p := ⟨g, i, none⟩) (Nat.le_refl _) _⟩
  clear hns hb1 HS c0 HR1 HN1 HB1
  obtain ⟨w2, hw2⟩ : ∃ w2, w1.setCell ⟨g, i, none⟩ (.int .i64 0) = w2 := ⟨_, rfl⟩
  rw [hw2] at HR2
  have HW2 : Hid (w1.setCell ⟨g, i, none⟩ (.int .i64 0) = w2) := hw2
  clear hw2
  go_upto_region 7 with fail
  rw [HW2.out]
  clear HW2 c1 f1
  go_wp2
  go_loopw [27] (fun ix wr => ∃ k : Nat, k ≤ m ∧ ix = .int .i64 k ∧ Hid (HRow wr g cap (midL has i beh k) ∧ NRow wr gs (cameL t beh) ∧ Below g w wr)) (fun ix _ => m - (RowKit.intOf ix).toNat)
  case atStart => exact ⟨0, Nat.zero_le _, rfl, HR2⟩
  case round =>
    obtain ⟨k, hk, rfl, H⟩ := hrel
    by_cases hkm : k < m
    · obtain ⟨r1, r2, r3⟩ := H.out
      obtain ⟨m1, m2, m3⟩ := HM.out k hkm
      obtain ⟨⟨b1, b2⟩, b3, b4⟩ := HBd.out k hkm
      have hb := Hb.out
      have cs := r2.cell (i := k) (by rw [HCl.out]; exact hkm)
      rw [HCm.out k hkm] at cs
      have ch := r1.cell (i := i + 1 + k) (by rw [m3]; omega)
      rw [m1] at ch
      have fh := r1.frozen (i + 1 + k)
      have hset := r1.set (i + 1 + k) ((has.drop (i + 1)).getD k 0 + shareI t beh k)
      rw [m2] at hset
      have HN : Hid (HRow (wr.setCell ⟨g, i + 1 + k, none⟩ (.int .i64 ((has.drop (i + 1)).getD k 0 + shareI t beh k))) g cap (midL has i beh (k + 1)) ∧ NRow (wr.setCell ⟨g, i + 1 + k, none⟩ (.int .i64 ((has.drop (i + 1)).getD k 0 + shareI t beh k))) gs (cameL t beh) ∧ Below g w (wr.setCell ⟨g, i + 1 + k, none⟩ (.int .i64 ((has.drop (i + 1)).getD k 0 + shareI t beh k)))) := ⟨hset, r2.other hne _ _, r3.setCell (p := ⟨g, i + 1 + k, none⟩) (Nat.le_refl _) _⟩
      have j0 : (0 : Int) ≤ k := by omega
      have j1 : (k : Int) < m := by omega
      have j3 : (0 : Int) ≤ (k : Int) + 1 := by omega
      have j4 : (k : Int) + 1 < ((n - i : Nat) : Int) := by omega
      have j5 : ((k : Int) + 1).toNat = k + 1 := by omega
      have eo : i + 1 + k = i + (k + 1) := by omega
      rw [eo] at ch fh HN
      clear H r1 r2 r3 m1 m2 m3 hset hb eo
      generalize (has.drop (i + 1)).getD k 0 = x at *
      generalize shareI t beh k = y at *
      go_wp2
      go_roundw
      case rel => exact ⟨k + 1, by omega, by go_num, HN⟩
      case measure => simp [RowKit.intOf]; omega
    · have ek : k = m := by omega
      subst ek
      obtain ⟨r1, r2, r3⟩ := H.out
      rw [HMe.out] at r1
      have HF : Hid (HRow wr g cap (downL has i beh) ∧ Below g w wr) := ⟨r1, r3⟩
      have j1 : ¬ (k : Int) < k := by omega
      clear H r1 r2 r3
      go_wp2
      go_ret
      exact ⟨rfl, HF.out.1, HF.out.2⟩
end Go.Proofs.YtiiljdjajbmamaaGreatDoor
