/-
  ledger's map of amounts in memory; the contract of its add.
-/
import Derived.Test.YtjajmlioohehdaaGreatDoorZt7
import Derived.Test.YtjajmlioohehdaaGreatDoorZt13
import Derived.Laws.NewBlocks
import Derived.Test.YtjajmlioohehdaaGreatDoorZt12
import Derived.KernelRfl
import Derived.DeepKeys4
import Derived.WideKeyEntry
import Derived.Maps.RangeRun
namespace Go.Proofs.YtjajmlioohehdaaGreatDoor
set_option linter.unusedVariables false
set_option linter.unusedSimpArgs false
set_option maxRecDepth 100000
open Go.RowKit Go.Lib

theorem digS_size (i : Nat) : (digS i).size ≤ 2 := by
  unfold digS
  split
  · exact Nat.le_succ 1
  · exact Nat.le_refl 2
/-- The ref of a pool's entry. -/
def refA (i : Nat) : ByteArray := (⟨#[97, 108, 108, 111, 116, 45]⟩ : ByteArray) ++ digS i
/-- The entry of a pool, if there is one. -/
def poE (en pe : Int) (b : List Bl) (i : Nat) (p : Po) : List Ep := if getB b en p.acc p.cur = 0 then [] else [⟨refA i, en, pe, goL p (getB b en p.acc p.cur)⟩]
/-- The entries of the first pools. -/
def alTo (en pe : Int) (b : List Bl) (l : List Po) (k : Nat) : List Ep := (List.range k).flatMap fun i => poE en pe b i (l.getD i po0)
theorem alTo_next (en pe : Int) (b : List Bl) (l : List Po) (k : Nat) : alTo en pe b l (k + 1) = alTo en pe b l k ++ poE en pe b k (l.getD k po0) := by
  unfold alTo; rw [List.range_succ, List.flatMap_append]; simp
def isAmt (n : Int) : Prop := -1000000000000000 ≤ n ∧ n ≤ 1000000000000000
abbrev decAmt (n : Int) : Decidable (isAmt n) := inferInstanceAs (Decidable (_ ∧ _))
/-- What is wrong with what a pool has. -/
def hasBad (b : List Bl) (en : Int) (p : Po) : Int := @ite _ (isAmt (getB b en p.acc p.cur)) (decAmt _) 0 1
/-- What is wrong with all that is handed in. -/
def alBad (c : List Ac) (l : List Po) (b : List Bl) (en pe : Int) : Int :=
  if psBad c l ≠ 0 then psBad c l else if chk b ≠ 0 then chk b else if (upTo en 12 && upTo pe 120) = false then 1 else firstTo (fun k => hasBad b en (l.getD k po0)) l.length
/-- What Entries leaves. -/
def AlEnd (c : List Ac) (l : List Po) (b : List Bl) (en pe : Int) (w : World) (e : Ending) (w' : World) : Prop :=
  Below w.heap.size w w' ∧ (alBad c l b en pe ≠ 0 → e = .returned (.tuple #[.slice none 0 0, chE (alBad c l b en pe)])) ∧
    (alBad c l b en pe = 0 → ∃ v L, e = .returned (.tuple #[v, .nilIface]) ∧ Made w' w.heap.size v L ∧ L.map Je.ep = alTo en pe b l l.length)
theorem poBad_ok {c : List Ac} {p : Po} (h : poBad c p = 0) : p.ws.length = p.tos.length ∧ 0 < p.tos.length ∧ p.tos.length ≤ 19 ∧ shBad p.ws = 0 ∧ (∀ k, k < p.tos.length → toBad c p.acc p.tos k = 0) ∧ leafBad c p.acc = 0 ∧ isCur p.cur = true := by
  unfold poBad at h
  split at h
  · contradiction
  · rename_i h1
    split at h
    · omega
    · rename_i h2
      split at h
      · omega
      · rename_i h3
        split at h
        · omega
        · rename_i h4
          split at h
          · contradiction
          · rename_i h5
            refine ⟨by omega, by omega, by omega, h, firstTo_zero (Decidable.of_not_not h5), Decidable.of_not_not h1, by simpa using h2⟩
theorem psBad_ok {c : List Ac} {l : List Po} (h : psBad c l = 0) : chBad c = 0 ∧ l.length ≤ 20 ∧ ∀ k, k < l.length → poBad c (l.getD k po0) = 0 := by
  unfold psBad at h
  split at h
  · contradiction
  · rename_i h1
    split at h
    · omega
    · exact ⟨Decidable.of_not_not h1, by omega, firstTo_zero h⟩

set_option maxHeartbeats 8000000 in
theorem alEntries_any (a a2 a3 : Option Addr) (cap cap2 cap3 : Nat) (c : List Ac) (l : List Po) (b : List Bl) (en pe : Int) (w : World) (h : IsSl w a c cap) (hl : IsPs w a2 l cap2) (hll : l.length ≤ 9223372036854775807) (hb : IsBl w a3 b cap3) (hbl : b.length ≤ 9223372036854775807) :
    Calls Tryz.prog 4 #[.slice a c.length cap, .slice a2 l.length cap2, .slice a3 b.length cap3, .int .i64 en, .int .i64 pe] w (AlEnd c l b en pe w) := by
  have HErr : Hid (∀ z W, z ≠ 0 → alBad c l b en pe = z → Below w.heap.size w W → AlEnd c l b en pe w (.returned (.tuple #[.slice none 0 0, .iface 50 (.int .i64 z)])) W) := fun z W h0 h1 h2 => by
    refine ⟨h2, fun _ => by rw [h1, chE_ne h0], fun e => absurd (h1.symm.trans e) h0⟩
  have HOk : Hid (∀ v L W, alBad c l b en pe = 0 → Below w.heap.size w W → Made W w.heap.size v L → L.map Je.ep = alTo en pe b l l.length → AlEnd c l b en pe w (.returned (.tuple #[v, .nilIface])) W) := fun v L W h1 h2 h3 h4 =>
    ⟨h2, fun h0 => absurd h1 h0, fun _ => ⟨v, L, rfl, h3, h4⟩⟩
  have HC : Hid (Calls _ _ _ _ _) := alCheck_any a a2 cap cap2 c l w h hl hll
  by_cases c1 : psBad c l ≠ 0
  · have e1 : alBad c l b en pe = psBad c l := by unfold alBad; rw [if_pos c1]
    have HE : Hid (∀ W, Below w.heap.size w W → AlEnd c l b en pe w (.returned (.tuple #[.slice none 0 0, .iface 50 (.int .i64 (psBad c l))])) W) := fun W hW => HErr.out _ W c1 e1 hW
    rw [chE_ne c1] at HC
    clear h hl hb c1 e1 HErr HOk
    generalize psBad c l = z at *
    go_enter Tryz.func4, Tryz.ntmps4
    go_wp2_with (go_at_call 9; refine HC.out.mono ?_; rintro e w1 ⟨rfl, hb1⟩)
    go_ret2
    exact HE.out _ hb1
  have c1' := Decidable.of_not_not c1
  rw [c1', chE_zero] at HC
  have HCb : Hid (∀ W, Below w.heap.size w W → Calls Tryz.prog 10 #[.slice a3 b.length cap3] W fun e w' => e = .returned (chE (chk b)) ∧ Below w.heap.size w w') := fun W hW => by
    refine (ldCheck_any a3 cap3 b W hbl (hb.below hW)).mono ?_
    rintro e w' ⟨rfl, h2⟩
    exact ⟨rfl, hW.trans (h2.mono hW.size)⟩
  by_cases c2 : chk b ≠ 0
  · have e1 : alBad c l b en pe = chk b := by unfold alBad; rw [if_neg c1, if_pos c2]
    have HE : Hid (∀ W, Below w.heap.size w W → AlEnd c l b en pe w (.returned (.tuple #[.slice none 0 0, .iface 50 (.int .i64 (chk b))])) W) := fun W hW => HErr.out _ W c2 e1 hW
    rw [chE_ne c2] at HCb
    clear h hl hb c1 c1' c2 e1 HErr HOk
    generalize chk b = z at *
    go_enter Tryz.func4, Tryz.ntmps4
    go_wp2_with (first | (go_at_call 9; refine HC.out.mono ?_; rintro e w1 ⟨rfl, hb1⟩) | (go_at_call 10; refine (HCb.out _ hb1).mono ?_; rintro e w2 ⟨rfl, hb2⟩))
    go_ret2
    exact HE.out _ hb2
  have c2' := Decidable.of_not_not c2
  rw [c2', chE_zero] at HCb
  have HU1 : Hid (∀ W, Calls Tryz.prog 11 #[.int .i64 en] W fun e w' => e = .returned (.bool (upTo en 12)) ∧ w' = W) := fun W => isEntity_any en W
  have HU2 : Hid (∀ W, Calls Tryz.prog 12 #[.int .i64 pe] W fun e w' => e = .returned (.bool (upTo pe 120)) ∧ w' = W) := fun W => isPeriod_any pe W
  by_cases c3 : (upTo en 12 && upTo pe 120) = false
  · have e1 : alBad c l b en pe = 1 := by unfold alBad; rw [if_neg c1, if_neg c2, if_pos c3]
    have HE : Hid (∀ W, Below w.heap.size w W → AlEnd c l b en pe w (.returned (.tuple #[.slice none 0 0, .iface 50 (.int .i64 1)])) W) := fun W hW => HErr.out _ W (by decide) e1 hW
    clear h hl hb c1 c1' c2 c2' e1 HErr HOk
    cases u1 : upTo en 12
    · rw [u1] at HU1
      clear c3 u1
      go_enter Tryz.func4, Tryz.ntmps4
      go_wp2_with (first | (go_at_call 9; refine HC.out.mono ?_; rintro e w1 ⟨rfl, hb1⟩) | (go_at_call 10; refine (HCb.out _ hb1).mono ?_; rintro e w2 ⟨rfl, hb2⟩) | (go_at_call 11; refine (HU1.out _).mono ?_; rintro e w' ⟨rfl, rfl⟩))
      go_ret2
      exact HE.out _ hb2
    · have u2 : upTo pe 120 = false := by rw [u1] at c3; simpa using c3
      rw [u1] at HU1
      rw [u2] at HU2
      clear c3 u1 u2
      go_enter Tryz.func4, Tryz.ntmps4
      go_wp2_with fail
      refine HC.out.mono ?_
      rintro e w1 ⟨rfl, hb1⟩
      go_wp2_with fail
      refine (HCb.out _ hb1).mono ?_
      rintro e w2 ⟨rfl, hb2⟩
      go_wp2_with fail
      refine (HU1.out _).mono ?_
      rintro e w' ⟨rfl, hw⟩
      rw [hw]; clear hw w'
      go_wp2_with fail
      refine (HU2.out _).mono ?_
      rintro e w' ⟨rfl, hw⟩
      rw [hw]; clear hw w'
      go_wp2
      go_ret2
      exact HE.out _ hb2
  have c3' : upTo en 12 = true ∧ upTo pe 120 = true := by simpa using c3
  have HB0 : Hid (alBad c l b en pe = firstTo (fun k => hasBad b en (l.getD k po0)) l.length) := by unfold alBad Hid; rw [if_neg c1, if_neg c2, if_neg c3]
  rw [c3'.1] at HU1
  rw [c3'.2] at HU2
  obtain ⟨p1, p2, p3⟩ := psBad_ok c1'
  have HPo : Hid (∀ k, k < l.length → poBad c (l.getD k po0) = 0) := p3
  have HPs : Hid (IsPs w a2 l cap2) := hl
  have HBl : Hid (IsBl w a3 b cap3 ∧ (b.length : Int) ≤ 9223372036854775807) := ⟨hb, by omega⟩
  have i2 : (l.length : Int) ≤ 20 := by omega
  clear h hl hb c1 c1' c2 c2' c3 c3' p1 p3
  obtain ⟨i0, hi, hz0, hz1, hz2⟩ := info_parts je_info
  go_enter Tryz.func4, Tryz.ntmps4
  go_wp2_with fail
  refine HC.out.mono ?_
  rintro e w1 ⟨rfl, hb1⟩
  go_wp2_with fail
  refine (HCb.out _ hb1).mono ?_
  rintro e w2 ⟨rfl, hb2⟩
  clear HC HCb hb1
  go_wp2_with fail
  refine (HU1.out _).mono ?_
  rintro e w' ⟨rfl, hw⟩
  rw [hw]; clear hw w' HU1
  go_wp2_with fail
  refine (HU2.out _).mono ?_
  rintro e w' ⟨rfl, hw⟩
  rw [hw]; clear hw w' HU2
  have HB2 : Hid (Below w.heap.size w w2) := hb2
  clear hb2
  go_wp2
  go_loopw [14, 42] (fun v i wr => ∃ (k : Nat) (L : List Je), k ≤ l.length ∧ i = .int .i64 k ∧ Hid (Made wr w.heap.size v L ∧ L.map Je.ep = alTo en pe b l k ∧ L.length ≤ k) ∧ Hid (firstTo (fun k => hasBad b en (l.getD k po0)) k = 0) ∧ Hid (Below w.heap.size w wr)) (fun _ i _ => l.length - (RowKit.intOf i).toNat)
  case atStart => exact ⟨0, [], Nat.zero_le _, rfl, ⟨Made.nil _ _, rfl, Nat.le_refl _⟩, rfl, HB2⟩
  case round =>
    obtain ⟨k, L, hk, rfl, HM, H0, HB⟩ := hrel
    obtain ⟨av, cv, ev, _⟩ := HM.out.1.isJs
    subst ev
    by_cases hkn : k < l.length
    · obtain ⟨bb, off, e, hblt, hc, hok⟩ := ((HPs.out).below HB.out).at hkn
      subst e
      have hpo := HPo.out k hkn
      obtain ⟨q1, q2, q3, q4, _⟩ := poBad_ok hpo
      have B1 := HB.out.alloc HB.out.size (.cells (l.getD k po0).cells 28)
      have b11 : Below wr.heap.size wr (wr.alloc (.cells (l.getD k po0).cells 28)) := (Below.refl _ wr).alloc (Nat.le_refl _) _
      have hx := PoAt.new wr (l.getD k po0) 28
      have HIn : Hid (Calls Tryz.prog 13 #[.slice a3 b.length cap3, .int .i64 en, .agg (l.getD k po0).cells] (wr.alloc (.cells (l.getD k po0).cells 28)) fun e w' => e = .returned (.int .i64 (getB b en (l.getD k po0).acc (l.getD k po0).cur)) ∧ Below (wr.alloc (.cells (l.getD k po0).cells 28)).heap.size (wr.alloc (.cells (l.getD k po0).cells 28)) w') := inPool_any a3 cap3 b en (l.getD k po0) _ HBl.out.2 (HBl.out.1.below B1)
      have HKeep : Hid (∀ W, Below (wr.alloc (.cells (l.getD k po0).cells 28)).heap.size (wr.alloc (.cells (l.getD k po0).cells 28)) W → Below w.heap.size w W ∧ Below wr.heap.size wr W ∧ PoAt W wr.heap.size 0 (l.getD k po0) ∧ PoOk W (l.getD k po0)) := fun W hW => by
        have hs : wr.heap.size < (wr.alloc (.cells (l.getD k po0).cells 28)).heap.size := by simp
        exact ⟨B1.trans (hW.mono B1.size), b11.trans (hW.mono b11.size), hx.below hW hs, (hok.below b11).below hW⟩
      have HNx : Hid (alTo en pe b l (k + 1) = alTo en pe b l k ++ poE en pe b k (l.getD k po0)) := alTo_next en pe b l k
      have HBd : Hid (hasBad b en (l.getD k po0) = 0 → firstTo (fun k => hasBad b en (l.getD k po0)) (k + 1) = 0) := fun h => by rw [firstTo_next H0.out, h]
      have HBr : Hid (hasBad b en (l.getD k po0) = 1 → alBad c l b en pe = 1) := fun h => by
        rw [HB0.out, firstTo_first H0.out (by rw [h]; decide) hkn, h]
      have HGo : Hid (∀ W has, PoOk W (l.getD k po0) → (¬ isAmt has → Calls Tryz.prog 14 #[.agg (l.getD k po0).cells, .int .i64 has] W fun e w' => e = .returned (.tuple #[.slice none 0 0, chE 1]) ∧ Below W.heap.size W w') ∧ (isAmt has → Calls Tryz.prog 14 #[.agg (l.getD k po0).cells, .int .i64 has] W fun e w' => ∃ v, e = .returned (.tuple #[v, .nilIface]) ∧ LnRow w' W.heap.size v (goL (l.getD k po0) has) ∧ Below W.heap.size W w')) := fun W has hW => ⟨fun h => given_bad _ has W h, fun h => given_ok _ has W hW q1 q3 q4 h⟩
      have HGB : Hid (hasBad b en (l.getD k po0) = @ite _ (isAmt (getB b en (l.getD k po0).acc (l.getD k po0).cur)) (decAmt _) 0 1) := rfl
      have HPE : Hid (poE en pe b k (l.getD k po0) = if getB b en (l.getD k po0).acc (l.getD k po0).cur = 0 then [] else [⟨refA k, en, pe, goL (l.getD k po0) (getB b en (l.getD k po0).acc (l.getD k po0).cur)⟩]) := rfl
      have f0 := hx.c0
      have f1 := hx.c1
      have f2 := hx.c2
      have f3 := hx.c3
      clear hok hx B1 b11 q1 q2 q3 q4 hpo
      generalize getB b en (l.getD k po0).acc (l.getD k po0).cur = has at *
      generalize hasBad b en (l.getD k po0) = hbd at *
      generalize goL (l.getD k po0) = gl at *
      generalize poE en pe b k (l.getD k po0) = pE at *
      generalize l.getD k po0 = p at *
      obtain ⟨acc, cur, tA, tC, tos, wA, wC, ws⟩ := p
      obtain ⟨d0, d1, d2, d3⟩ := hc
      simp only [Po.cells, Nat.zero_add] at d0 d1 d2 d3 f0 f1 f2 f3 HIn HKeep HGo
      have j0 : (0 : Int) ≤ k := by omega
      have j1 : (k : Int) < l.length := by omega
      by_cases g0 : has = 0
      · subst g0
        have HM2 : Hid (∀ W, Below wr.heap.size wr W → Made W w.heap.size (.slice av L.length cv) L ∧ L.map Je.ep = alTo en pe b l (k + 1) ∧ L.length ≤ k + 1) := fun W hW => by
          obtain ⟨m1, m2, m3⟩ := HM.out
          refine ⟨m1.below hW, ?_, by omega⟩
          rw [HNx.out, HPE.out, if_pos rfl, List.append_nil, m2]
        have HN : Hid (firstTo (fun k => hasBad b en (l.getD k po0)) (k + 1) = 0) := HBd.out (by rw [HGB.out, if_pos (by unfold isAmt; omega)])
        clear HBd HBr HGo HGB HPE HNx HM HOk HErr
        go_wp2_with fail
        refine HIn.out.mono ?_
        rintro e w3 ⟨rfl, hb3⟩
        obtain ⟨k1, k2, _⟩ := HKeep.out w3 hb3
        have HF : Hid _ := HM2.out w3 k2
        have HB3 : Hid (Below w.heap.size w w3) := k1
        clear HIn HKeep HM2 hb3 k1 k2
        go_wp2
        go_roundw
        case rel => exact ⟨k + 1, L, by omega, by go_num, HF, HN, HB3⟩
        case measure => simp [RowKit.intOf]; omega
      have g0' : (has == 0) = false := by rw [beq_eq_false_iff_ne]; exact g0
      go_wp2_with fail
      refine HIn.out.mono ?_
      rintro e w3 ⟨rfl, hb3⟩
      obtain ⟨k1, k2, k3, k4⟩ := HKeep.out w3 hb3
      obtain ⟨f0, f1, f2, f3⟩ := k3
      simp only [Nat.zero_add] at f0 f1 f2 f3
      have HK1 : Hid (Below w.heap.size w w3) := k1
      have HK2 : Hid (Below wr.heap.size wr w3) := k2
      obtain ⟨gB, gG⟩ := HGo.out w3 has k4
      clear HIn HKeep hb3 d0 d1 d2 d3 k1 k2 k4 HGo
      by_cases c4 : isAmt has
      · have HG : Hid (Calls _ _ _ _ _) := gG c4
        have HN : Hid (firstTo (fun k => hasBad b en (l.getD k po0)) (k + 1) = 0) := HBd.out (by rw [HGB.out, if_pos c4])
        have HP2 : Hid (alTo en pe b l (k + 1) = alTo en pe b l k ++ [⟨refA k, en, pe, gl has⟩]) := by
          rw [HNx.out, HPE.out, if_neg g0]; exact rfl
        clear gB gG HBd HBr HGB HPE HNx HOk HErr
        go_wp2_with fail
        refine HG.out.mono ?_
        rintro e w4 ⟨v4, rfl, hr4, hb4⟩
        obtain ⟨a4, c4', e4, _⟩ := hr4.isLn
        subst e4
        have HR4 : Hid (LnRow w4 w3.heap.size (.slice a4 (gl has).length c4') (gl has)) := hr4
        have HB4 : Hid (Below w3.heap.size w3 w4) := hb4
        have HIt : Hid (∀ W, Calls Tryz.prog 15 #[.int .i64 ((k : Nat) : Int)] W fun e w' => e = .returned (.string (digS k)) ∧ w' = W) := fun W => itoa_any k (by omega) W
        have HAdd : Hid (∀ v' w6, World.ownsRow w6 w.heap.size 41 4 v' (L.length + 1) (jeRow L ++ (Je.mk (refA k) en pe a4 c4' (gl has)).cells.toList) → (w4.alloc (.cells #[.string (refA k), .int .i64 en, .int .i64 pe, .slice a4 (gl has).length c4'] 41)).grownBy w6 (Value.slice av L.length cv).ownBlock → (Made w6 w.heap.size v' (L ++ [Je.mk (refA k) en pe a4 c4' (gl has)]) ∧ (L ++ [Je.mk (refA k) en pe a4 c4' (gl has)]).map Je.ep = alTo en pe b l (k + 1) ∧ (L ++ [Je.mk (refA k) en pe a4 c4' (gl has)]).length ≤ k + 1) ∧ Below w.heap.size w w6) := fun v' w6 h1 h2 => by
          obtain ⟨m1, m2, m3⟩ := HM.out
          have z1 := HK1.out.trans (HB4.out.mono HK1.out.size)
          have z2 := z1.alloc z1.size (.cells #[.string (refA k), .int .i64 en, .int .i64 pe, .slice a4 (gl has).length c4'] 41)
          have z3 : Below w4.heap.size w4 (w4.alloc (.cells #[.string (refA k), .int .i64 en, .int .i64 pe, .slice a4 (gl has).length c4'] 41)) := (Below.refl _ w4).alloc (Nat.le_refl _) _
          have m4 := ((m1.below HK2.out).below HB4.out).below z3
          refine ⟨⟨m4.add (x := Je.mk (refA k) en pe a4 c4' (gl has)) ((HR4.out.below z3).mono HK1.out.size) h1 h2, ?_, ?_⟩, z2.grown h2 z2.size fun j e => m1.row.own j e⟩
          · rw [List.map_append, m2, HP2.out]; rfl
          · rw [List.length_append]; simp; exact m3
        have HRow : Hid (World.ownsRow (w4.alloc (.cells #[.string (refA k), .int .i64 en, .int .i64 pe, .slice a4 (gl has).length c4'] 41)) w.heap.size 41 4 (.slice av L.length cv) L.length (jeRow L)) := by
          have m4 := (HM.out.1.below HK2.out).below HB4.out
          exact World.ownsRow.alloc m4.row _
        have s2 : Hid (L.length + 1 ≤ maxLen ∧ (L.length + 1) * 56 ≤ 140737488355328) := by
          have := HM.out.2.2
          unfold Hid maxLen; omega
        have s4 : Hid (w.heap.size ≤ (w4.alloc (.cells #[.string (refA k), .int .i64 en, .int .i64 pe, .slice a4 (gl has).length c4'] 41)).heap.size) := by
          have z1 := HK1.out.size
          have z2 := HB4.out.size
          unfold Hid; simp; omega
        have hds : ¬ 9223372036854775807 < 6 + (digS k).size := by have := digS_size k; omega
        clear HG hr4 hb4 HM f0 f1 f2 f3
        go_wp2_with fail
        refine (HIt.out _).mono ?_
        rintro e w' ⟨rfl, hw⟩
        rw [hw]; clear hw w' HIt
        go_wp2_with (at_builtin; refine wpList_append_own _ rfl _ _ 29 rfl w.heap.size 41 i0 (.agg #[.string ByteArray.empty, .int .i64 0, .int .i64 0, .slice none 0 0]) 4 56 Tryz.underlying29 hi hz0 hz1 hz2 rfl (by decide) _ _ _ rfl HRow.out ⟨w4.heap.size, 0, none⟩ 1 1 (Je.mk (refA k) en pe a4 c4' (gl has)).cells.toList rfl rfl (World.news_of_block (World.alloc_heap_new w4 _)) (je_one _) s2.out.1 s2.out.2 s4.out ?_)
        intro v' w6 hown' hgrow _
        obtain ⟨hm6, hb6⟩ := HAdd.out v' w6 hown' hgrow
        have HM6 : Hid _ := hm6
        have HB6 : Hid (Below w.heap.size w w6) := hb6
        clear hown' hgrow hm6 hb6 HAdd HRow
        go_wp2
        go_roundw
        case rel => exact ⟨k + 1, _, by omega, by go_num, HM6, HN, HB6⟩
        case measure => simp [RowKit.intOf]; omega
      · have HG : Hid (Calls _ _ _ _ _) := gB c4
        have HE : Hid (∀ W, Below w.heap.size w W → AlEnd c l b en pe w (.returned (.tuple #[.slice none 0 0, .iface 50 (.int .i64 1)])) W) := fun W hW => HErr.out _ W (by decide) (HBr.out (by rw [HGB.out, if_neg c4])) hW
        rw [chE_ne (by decide)] at HG
        clear gB gG HBd HBr HGB HPE HNx HOk HErr
        go_wp2_with fail
        refine HG.out.mono ?_
        rintro e w4 ⟨rfl, hb4⟩
        have HB4 : Hid (Below w.heap.size w w4) := HK1.out.trans (hb4.mono HK1.out.size)
        clear hb4 HG
        go_wp2
        go_ret2
        exact HE.out _ HB4.out
    · have ek : k = l.length := by omega
      subst ek
      obtain ⟨m1, m2, m3⟩ := HM.out
      have HE : Hid (AlEnd c l b en pe w (.returned (.tuple #[.slice av L.length cv, .nilIface])) wr) := HOk.out _ L wr (by rw [HB0.out, H0.out]) HB.out m1 m2
      clear m1 m2 m3 HM HErr HOk HPo HPs HBl
      go_wp2
      go_ret2
      exact HE.out
end Go.Proofs.YtjajmlioohehdaaGreatDoor

namespace Go.Proofs.YtjajmlioohehdaaGreatDoor
set_option linter.unusedVariables false
set_option linter.unusedSimpArgs false
open Go.RowKit

def Bl.plus (y x : Bl) : Bl := ⟨y.ent, y.acc, y.cur, y.amt + x.amt⟩
theorem plus_key (y x : Bl) : (y.plus x).key = y.key := rfl
def putB : List Bl → Bl → List Bl
  | [], x => [x]
  | y :: l, x => if cmpB y x < 0 then y :: putB l x else if cmpB x y < 0 then x :: y :: l else y.plus x :: l
/-- How many stand ahead. -/
def putAt : List Bl → Bl → Nat
  | [], x => 0
  | y :: l, x => if cmpB y x < 0 then putAt l x + 1 else 0
theorem putAt_le : ∀ (l : List Bl) (x : Bl), putAt l x ≤ l.length
  | [], x => Nat.le_refl _
  | y :: l, x => by
    unfold putAt
    have := putAt_le l x
    split <;> simp <;> omega
theorem putAt_ahead : ∀ (l : List Bl) (x : Bl) (j : Nat), j < putAt l x → cmpB (l.getD j bl0) x < 0
  | [], x, j, h => by simp [putAt] at h
  | y :: l, x, j, h => by
    unfold putAt at h
    split at h
    · rename_i hy
      rcases j with _ | j
      · simpa using hy
      · have := putAt_ahead l x j (by omega)
        simpa using this
    · omega
theorem putAt_stop : ∀ (l : List Bl) (x : Bl), putAt l x < l.length → ¬ cmpB (l.getD (putAt l x) bl0) x < 0
  | [], x, h => by simp at h
  | y :: l, x, h => by
    unfold putAt at h ⊢
    split at h
    · rename_i hy
      rw [if_pos hy]
      have := putAt_stop l x (by simp at h; omega)
      simpa using this
    · rename_i hy
      rw [if_neg hy]
      simpa using hy
theorem putAt_eq {l : List Bl} {x : Bl} {k : Nat} (h1 : ∀ j, j < k → cmpB (l.getD j bl0) x < 0) (h2 : k < l.length → ¬ cmpB (l.getD k bl0) x < 0) (hk : k ≤ l.length) : k = putAt l x := by
  rcases (by omega : k < putAt l x ∨ k = putAt l x ∨ putAt l x < k) with h | h | h
  · exact absurd (putAt_ahead l x k h) (h2 (by have := putAt_le l x; omega))
  · exact h
  · exact absurd (h1 _ h) (putAt_stop l x (by omega))
theorem putB_eq : ∀ (l : List Bl) (x : Bl), putB l x = if putAt l x < l.length ∧ ¬ cmpB x (l.getD (putAt l x) bl0) < 0 then l.take (putAt l x) ++ (l.getD (putAt l x) bl0).plus x :: l.drop (putAt l x + 1) else l.take (putAt l x) ++ x :: l.drop (putAt l x)
  | [], x => by simp [putB, putAt]
  | y :: l, x => by
    unfold putB putAt
    by_cases h1 : cmpB y x < 0
    · simp only [h1, if_true, List.length_cons, Nat.add_lt_add_iff_right, List.getD_cons_succ, List.take_succ_cons, List.drop_succ_cons, putB_eq l x]
      split <;> simp
    · simp only [h1, if_false]
      by_cases h2 : cmpB x y < 0
      · simp [h2]
      · simp [h2]
theorem putB_tot (k : Pk) : ∀ (l : List Bl) (x : Bl), ltot k (putB l x) = ltot k l + if x.key = k then x.amt else 0
  | [], x => by simp [putB, ltot]
  | y :: l, x => by
    unfold putB
    split
    · rw [ltot, putB_tot k l x, ltot]; omega
    · split
      · rw [ltot]; omega
      · rename_i h1 h2
        have e : y.key = x.key := by
          false_or_by_contra
          rename_i hne
          exact h2 (cmpB_total h1 hne)
        rw [ltot, ltot, plus_key, e]
        simp only [Bl.plus]
        split <;> omega
theorem putB_keys (k : Pk) : ∀ (l : List Bl) (x : Bl), (∃ y ∈ putB l x, y.key = k) ↔ (∃ y ∈ l, y.key = k) ∨ x.key = k
  | [], x => by simp [putB]
  | y :: l, x => by
    have ih := putB_keys k l x
    simp only [List.mem_cons, exists_eq_or_imp] at ih ⊢
    unfold putB
    split
    · simp only [List.mem_cons, exists_eq_or_imp, ih, or_assoc]
    · split
      · simp only [List.mem_cons, exists_eq_or_imp]
        constructor
        · rintro (h | h)
          · exact .inr h
          · exact .inl h
        · rintro (h | h)
          · exact .inr h
          · exact .inl h
      · rename_i h1 h2
        have e : y.key = x.key := by
          false_or_by_contra
          rename_i hne
          exact h2 (cmpB_total h1 hne)
        simp only [List.mem_cons, exists_eq_or_imp, plus_key]
        constructor
        · intro h; exact .inl h
        · rintro (h | h)
          · exact h
          · exact .inl (e.trans h)
theorem cmpB_plus (y x z : Bl) : cmpB (y.plus x) z = cmpB y z ∧ cmpB z (y.plus x) = cmpB z y := ⟨rfl, rfl⟩
theorem putB_behind {y : Bl} : ∀ {l : List Bl} {x : Bl}, (∀ z ∈ l, cmpB y z < 0) → cmpB y x < 0 → ∀ z ∈ putB l x, cmpB y z < 0
  | [], x, _, hx, z, hz => by
    simp only [putB, List.mem_singleton] at hz
    rw [hz]; exact hx
  | q :: l, x, h, hx, z, hz => by
    have h1 := h q (List.mem_cons_self ..)
    have h2 : ∀ z ∈ l, cmpB y z < 0 := fun z hz => h z (List.mem_cons_of_mem _ hz)
    unfold putB at hz
    split at hz
    · rcases List.mem_cons.1 hz with rfl | hz
      · exact h1
      · exact putB_behind h2 hx z hz
    · split at hz
      · rcases List.mem_cons.1 hz with rfl | hz
        · exact hx
        · exact h z hz
      · rcases List.mem_cons.1 hz with rfl | hz
        · exact h1
        · exact h2 z hz
theorem putB_rises : ∀ {l : List Bl} {x : Bl}, Rises l → Rises (putB l x)
  | [], x, _ => List.pairwise_singleton _ _
  | y :: l, x, h => by
    obtain ⟨h1, h2⟩ := List.pairwise_cons.1 h
    unfold putB
    split
    · rename_i hy
      exact List.pairwise_cons.2 ⟨putB_behind h1 hy, putB_rises h2⟩
    · split
      · rename_i hy
        exact List.pairwise_cons.2 ⟨fun z hz => by
          rcases List.mem_cons.1 hz with rfl | hz
          · exact hy
          · exact cmpB_trans hy (h1 z hz), h⟩
      · exact List.pairwise_cons.2 ⟨h1, h2⟩
theorem putB_length : ∀ (l : List Bl) (x : Bl), (putB l x).length ≤ l.length + 1
  | [], x => by simp [putB]
  | y :: l, x => by
    have := putB_length l x
    unfold putB
    split
    · simp; exact this
    · split <;> simp
/-- All of some put into others. -/
def putL (l m : List Bl) : List Bl := m.foldl putB l
theorem putL_snoc (l m : List Bl) (k : Nat) (h : k < m.length) : putL l (m.take (k + 1)) = putB (putL l (m.take k)) (m.getD k bl0) := by
  rw [bls_take m k h, putL, List.foldl_append]; rfl
theorem putL_rises : ∀ {m l : List Bl}, Rises l → Rises (putL l m)
  | [], l, h => h
  | x :: m, l, h => putL_rises (m := m) (putB_rises h)
theorem putL_tot (k : Pk) : ∀ (m l : List Bl), ltot k (putL l m) = ltot k (l ++ m)
  | [], l => by simp [putL]
  | x :: m, l => by
    have h1 : ltot k (putL (putB l x) m) = ltot k (putB l x ++ m) := putL_tot k m (putB l x)
    show ltot k (putL (putB l x) m) = _
    rw [h1, ltot_append, putB_tot, ltot_append, ltot]
    omega
theorem putL_keys (k : Pk) : ∀ (m l : List Bl), (∃ y ∈ putL l m, y.key = k) ↔ ∃ y ∈ l ++ m, y.key = k
  | [], l => by simp [putL]
  | x :: m, l => by
    have h1 := putL_keys k m (putB l x)
    show (∃ y ∈ putL (putB l x) m, y.key = k) ↔ _
    rw [h1]
    have h2 := putB_keys k l x
    constructor
    · rintro ⟨y, hy, e⟩
      rcases List.mem_append.1 hy with hy | hy
      · rcases h2.1 ⟨y, hy, e⟩ with ⟨z, hz, ez⟩ | ez
        · exact ⟨z, List.mem_append_left _ hz, ez⟩
        · exact ⟨x, List.mem_append_right _ (List.mem_cons_self ..), ez⟩
      · exact ⟨y, List.mem_append_right _ (List.mem_cons_of_mem _ hy), e⟩
    · rintro ⟨y, hy, e⟩
      rcases List.mem_append.1 hy with hy | hy
      · obtain ⟨z, hz, ez⟩ := h2.2 (.inl ⟨y, hy, e⟩)
        exact ⟨z, List.mem_append_left _ hz, ez⟩
      · rcases List.mem_cons.1 hy with rfl | hy
        · obtain ⟨z, hz, ez⟩ := h2.2 (.inr e)
          exact ⟨z, List.mem_append_left _ hz, ez⟩
        · exact ⟨y, List.mem_append_right _ hy, e⟩
theorem putL_length : ∀ (m l : List Bl), (putL l m).length ≤ l.length + m.length
  | [], l => by simp [putL]
  | x :: m, l => by
    have h1 : (putL (putB l x) m).length ≤ _ := putL_length m (putB l x)
    have h2 := putB_length l x
    show (putL (putB l x) m).length ≤ _
    simp only [List.length_cons]
    omega
theorem Rises.nodup {l : List Bl} (h : Rises l) : (l.map Bl.key).Nodup := by
  rw [List.nodup_iff_pairwise_ne, List.pairwise_map]
  exact h.imp (fun {x y} hxy e => by have := cmpB_zero.2 e; omega)
/-- As many as there are places. -/
theorem putL_count {a b : List Bl} (ha : Rises a) : (putL a b).length = (parts (a ++ b)).length := by
  have h1 : ((putL a b).map Bl.key).Perm ((parts (a ++ b)).map Pt.key) := (List.perm_ext_iff_of_nodup (putL_rises ha).nodup (parts_nodup _)).2 (fun k => by
    rw [parts_keys, ← putL_keys k b a]
    simp)
  have := h1.length_eq
  simpa using this
theorem putL_sums {a b : List Bl} (ha : Rises a) : Sums (a ++ b) (full (putL a b)) :=
  ⟨(putL_rises ha).sublist List.filter_sublist, full_ne _, fun k => by rw [ltot_full, putL_tot]⟩
def inB (x : Bl) : Prop := -1000000000000000000 ≤ x.amt ∧ x.amt ≤ 1000000000000000000
/-- What is wrong with them, as it is looked for. -/
theorem mgE_put {a b : List Bl} (ha : chk a = 0) (hb : chk b = 0) (h2 : (putL a b).length ≤ 200) : ((∀ x ∈ full (putL a b), inB x) → mgE a b = 0) ∧ (¬ (∀ x ∈ full (putL a b), inB x) → mgE a b = 10) := by
  have fa := chk_zero.1 ha
  have fb := chk_zero.1 hb
  have hr := putL_rises (m := b) fa.rises
  have hc := putL_count (b := b) fa.rises
  have key : (∀ x ∈ full (putL a b), inB x) ↔ mgE a b = 0 := by
    rw [mgE_zero]
    constructor
    · intro h
      refine ⟨fa, fb, by omega, fun x hx => ?_⟩
      by_cases e : ltot x.key (a ++ b) = 0
      · rw [e]; omega
      · rw [← putL_tot, ← ltot_full] at e ⊢
        obtain ⟨y, hy, ey⟩ := ltot_ex e
        have h1 := ltot_mem (putL_sums (b := b) fa.rises).rises y hy
        rw [ey] at h1
        rw [h1]
        exact h y hy
    · intro h x hx
      have h1 := ltot_mem (putL_sums (b := b) fa.rises).rises x hx
      rw [ltot_full, putL_tot] at h1
      unfold inB
      rw [← h1]
      exact ltot_all h.2.2.2 _
  refine ⟨key.1, fun h => ?_⟩
  have h0 : mgE a b ≠ 0 := fun e => h (key.2 e)
  unfold mgE at h0 ⊢
  rw [if_neg (by simp [ha]), if_neg (by simp [hb]), if_neg (by omega)] at h0 ⊢
  split at h0
  · exact absurd rfl h0
  · rename_i h3
    rw [if_neg h3]
theorem mgE_put4 {a b : List Bl} (ha : chk a = 0) (hb : chk b = 0) (h2 : 200 < (putL a b).length) : mgE a b = 4 := by
  have hc := putL_count (b := b) (chk_zero.1 ha).rises
  unfold mgE
  rw [if_neg (by simp [ha]), if_neg (by simp [hb]), if_pos (by omega)]
end Go.Proofs.YtjajmlioohehdaaGreatDoor

namespace Go.Proofs.YtjajmlioohehdaaGreatDoor
set_option linter.unusedVariables false
set_option linter.unusedSimpArgs false
set_option maxRecDepth 100000
open Go.RowKit Go.Lib

set_option maxHeartbeats 1000000 in
theorem lmAhead_any (x y : Bl) (w : World) :
    Calls Tryz.prog 16 #[.agg x.cells, .agg y.cells] w fun e w' => e = .returned (.bool (decide (cmpB x y < 0))) ∧ Below w.heap.size w w' := by
  obtain ⟨x0, x1, x2, x3⟩ := x
  obtain ⟨y0, y1, y2, y3⟩ := y
  simp only [Bl.cells, cmpB]
  have bl : Below w.heap.size w ((w.alloc (.cells #[.int .i64 x0, .string x1, .string x2, .int .i64 x3] 36)).alloc (.cells #[.int .i64 y0, .string y1, .string y2, .int .i64 y3] 36)) := ((Below.refl _ w).alloc (Nat.le_refl _) _).alloc (by simp) _
  by_cases h0 : x0 = y0
  · subst h0
    have e0 : cmpI x0 x0 = 0 := by simp [cmpI]
    rw [e0, if_neg (by simp)]
    by_cases h1 : x1 = y1
    · subst h1
      rw [if_neg (by simp [ldCmpS_eq.2 rfl])]
      have er : decide (cmpS x2 y2 < 0) = Op.bytesLess x2.toList y2.toList := by rw [Bool.eq_iff_iff, decide_eq_true_eq, cmpS_neg]
      rw [er]
      clear er e0
      go_enter Tryz.func16, Tryz.ntmps16
      go_wp2
      go_ret
      exact ⟨rfl, bl⟩
    · have hc : cmpS x1 y1 ≠ 0 := fun h => h1 (ldCmpS_eq.1 h)
      rw [if_pos hc]
      have er : decide (cmpS x1 y1 < 0) = Op.bytesLess x1.toList y1.toList := by rw [Bool.eq_iff_iff, decide_eq_true_eq, cmpS_neg]
      rw [er]
      have h1' : ¬ x1.toList = y1.toList := fun e => h1 (toList_inj e)
      have h1b := en_ne h1
      clear er e0 hc h1
      go_enter Tryz.func16, Tryz.ntmps16
      go_wp2
      go_ret
      exact ⟨rfl, bl⟩
  · have hc : cmpI x0 y0 ≠ 0 := by unfold cmpI; split <;> (try split) <;> omega
    rw [if_pos hc]
    have er : decide (cmpI x0 y0 < 0) = decide (x0 < y0) := by
      unfold cmpI
      by_cases h : x0 < y0
      · simp [h]
      · rw [if_neg h]; simp [h]; split <;> omega
    rw [er]
    have h0' : (x0 != y0) = true := by simp [h0]
    clear er hc
    go_enter Tryz.func16, Tryz.ntmps16
    go_wp2
    go_ret
    exact ⟨rfl, bl⟩

end Go.Proofs.YtjajmlioohehdaaGreatDoor

namespace Go.Proofs.YtjajmlioohehdaaGreatDoor
set_option linter.unusedVariables false
set_option linter.unusedSimpArgs false
set_option maxRecDepth 100000
open Go.RowKit Go.Lib
theorem ldP_str : Tryz.prog.cellsOf 9 = 1 := by kernel_rfl
theorem ldP_int : Tryz.prog.cellsOf 3 = 1 := by kernel_rfl
/-- A place as it can be in memory. -/
structure PkOk (k : Pk) : Prop where
  ent : -9223372036854775808 ≤ k.1 ∧ k.1 ≤ 9223372036854775807
  acc : k.2.1.size ≤ maxLen
  cur : k.2.2.size ≤ maxLen
/-- A balance as it can be in memory. -/
structure BlOk (x : Bl) : Prop where
  key : PkOk x.key
  amt : -9223372036854775808 ≤ x.amt ∧ x.amt ≤ 9223372036854775807
end Go.Proofs.YtjajmlioohehdaaGreatDoor

namespace Go.Proofs.YtjajmlioohehdaaGreatDoor
set_option linter.unusedVariables false
set_option linter.unusedSimpArgs false
set_option maxRecDepth 100000
open Go.RowKit Go.Lib
theorem pl_laidOut : laidOutB Tryz.prog = true := by kernel_rfl
theorem pl_row : (77 : TypeId) < Tryz.prog.types.size := of_decide_eq_true (by kernel_rfl)
theorem pl_wide : (match Tryz.prog.underlying 77 with | some (.array _ _) | some (.struct _) => true | _ => false) = true := by kernel_rfl
theorem pl_law : WideMaps.KeyLaw Tryz.prog 77 := deep_law_laid pl_laidOut (m := 3) (by omega) pl_row (by kernel_rfl) pl_wide
theorem pl_type : Tryz.prog.keyType 77 = true := by kernel_rfl
theorem pl_cells : Tryz.prog.cellsOf 77 = 3 := by kernel_rfl
theorem pl_types : Tryz.prog.types.size = 174 := by kernel_rfl
/-- A key's value. -/
def plV (k : Pk) : Value := .agg #[.int .i64 k.1, .string k.2.1, .string k.2.2]
theorem keyOf_pl {k : Pk} (h : PkOk k) : ∃ kl, keyOf Tryz.prog 77 (plV k) = some kl := by
  obtain ⟨f, t, p⟩ := k
  have hp : (Lit.int .i64 f).wf = true := WalkArith.wf_i64 h.ent
  have k1 : ∀ d (s : ByteArray), s.size ≤ maxLen → Tryz.prog.keyLits (d + 1) 9 [.string s] = some [.string s.data.toList] := fun d s hs => by
    simp [Program.keyLits, Tryz.underlying9, hs]
  have k2 : ∀ d, Tryz.prog.keyLits (d + 1) 3 [.int .i64 f] = some [.int .i64 f] := fun d => by
    simp [Program.keyLits, Tryz.underlying3, hp]
  have k3 : ∀ d, Tryz.prog.keyLits (d + 1 + 1) 77 [.int .i64 f, .string t, .string p] = some [.int .i64 f, .string t.data.toList, .string p.data.toList] := fun d => by
    unfold Program.keyLits
    simp [Tryz.underlying77, pl_cells, ldP_str, ldP_int, k1 d t h.acc, k1 d p h.cur, k2 d]
  have k4 : Tryz.prog.types.size + 1 = Tryz.prog.types.size - 1 + 1 + 1 := by rw [pl_types]
  unfold keyOf
  rw [Tryz.underlying77]
  simp only [pl_type, Value.formed, Tryz.underlying77, plV, pl_cells, Value.cells]
  rw [k4, k3]
  exact ⟨_, rfl⟩
theorem plV_inj {k q : Pk} (h : plV k = plV q) : k = q := by
  obtain ⟨a, b, c⟩ := k
  obtain ⟨d, e, f⟩ := q
  simpa [plV] using h

/-- The entries: places, each with its amounts' slice, in the order in which they came. -/
def ents (ps : List Pt) (vs : Nat → Value) : List MapEntry := (List.range ps.length).map fun i => ⟨plV ((ps.map Pt.key).getD i (0, ByteArray.empty, ByteArray.empty)), vs i, i⟩
theorem ents_length (ps : List Pt) (vs : Nat → Value) : (ents ps vs).length = ps.length := by simp [ents]
theorem ents_get (ps : List Pt) (vs : Nat → Value) (i : Nat) (h : i < ps.length) : (ents ps vs)[i]? = some ⟨plV (ps[i]).key, vs i, i⟩ := by
  simp only [ents, List.getElem?_map, List.getElem?_range h, Option.map_some]
  rw [List.getD_eq_getElem?_getD, List.getElem?_map, List.getElem?_eq_getElem h]
  rfl
theorem ents_mem {ps : List Pt} {vs : Nat → Value} {e : MapEntry} (h : e ∈ ents ps vs) : ∃ i, ∃ hi : i < ps.length, e = ⟨plV (ps[i]).key, vs i, i⟩ := by
  obtain ⟨i, hi, e1⟩ := List.getElem_of_mem h
  rw [ents_length] at hi
  have := ents_get ps vs i hi
  rw [List.getElem?_eq_getElem (by rw [ents_length]; exact hi)] at this
  exact ⟨i, hi, by rw [← e1]; exact Option.some.inj this⟩
theorem ents_born (ps : List Pt) (vs : Nat → Value) : (ents ps vs).map (·.born) = List.range ps.length := by
  simp [ents, Function.comp_def]
/-- An entry's slice is set. -/
theorem ents_set (ps : List Pt) (vs : Nat → Value) (j : Nat) (hj : j < ps.length) (zs : List Int) (v : Value) : (ents ps vs).modify j (fun e => { e with val := v }) = ents (ps.set j ⟨(ps[j]).key, zs⟩) (fun i => if i = j then v else vs i) := by
  apply List.ext_getElem?
  intro i
  rw [List.getElem?_modify]
  by_cases hi : i < ps.length
  · rw [ents_get ps vs i hi, ents_get _ _ i (by simpa using hi), List.getElem_set]
    by_cases e : j = i
    · subst e; simp
    · have e2 : ¬ i = j := fun h => e h.symm
      simp [e, e2]
  · rw [List.getElem?_eq_none (by rw [ents_length]; omega), List.getElem?_eq_none (by rw [ents_length]; simp; omega)]
    rfl
theorem ents_push (ps : List Pt) (vs : Nat → Value) (p : Pt) : ents ps vs ++ [⟨plV p.key, vs ps.length, ps.length⟩] = ents (ps ++ [p]) vs := by
  apply List.ext_getElem?
  intro i
  by_cases hi : i < ps.length
  · rw [List.getElem?_append_left (by rw [ents_length]; exact hi), ents_get ps vs i hi, ents_get _ _ i (by simp; omega), List.getElem_append_left hi]
  · by_cases e : i = ps.length
    · subst e
      rw [List.getElem?_append_right (by rw [ents_length]; exact Nat.le_refl _), ents_length, ents_get _ _ _ (by simp), List.getElem_append_right (Nat.le_refl _)]
      simp
    · rw [List.getElem?_eq_none (by simp [ents_length]; omega), List.getElem?_eq_none (by rw [ents_length]; simp; omega)]

/-- The map of amounts. -/
structure PMp (W : World) (n mb : Nat) (ps : List Pt) (vs : Nat → Value) : Prop where
  map : W.heap[mb]? = some (.map (ents ps vs).toArray ps.length)
  mbn : n ≤ mb
  keys : ∀ p ∈ ps, PkOk p.key
  nodup : (ps.map Pt.key).Nodup
  rows : ∀ i (hi : i < ps.length), W.ownsRow n 3 1 (vs i) (ps[i]).zs.length ((ps[i]).zs.map (Value.int .i64))
  apart : ∀ i j, i < ps.length → j < ps.length → i ≠ j → ∀ g, (vs i).ownBlock = some g → (vs j).ownBlock ≠ some g
  i64 : ∀ p ∈ ps, ∀ z ∈ p.zs, -9223372036854775808 ≤ z ∧ z ≤ 9223372036854775807
theorem PMp.below {W U : World} {n mb : Nat} {ps : List Pt} {vs : Nat → Value} (h : PMp W n mb ps vs) (hb : Below W.heap.size W U) : PMp U n mb ps vs :=
  ⟨(hb.block mb (Array.getElem?_eq_some_iff.1 h.map).1).trans h.map, h.mbn, h.keys, h.nodup, fun i hi => by
    rcases (h.rows i hi).2 with ⟨hv, hn⟩ | ⟨g1, c1, cur, hv, hb1, hh, r⟩
    · exact ⟨(h.rows i hi).1, .inl ⟨hv, hn⟩⟩
    · exact ⟨(h.rows i hi).1, .inr ⟨g1, c1, cur, hv, hb1, (hb.block g1 (Array.getElem?_eq_some_iff.1 hh).1).trans hh, r⟩⟩, h.apart, h.i64⟩
theorem addP_none (x : Bl) : ∀ ps : List Pt, x.key ∉ ps.map Pt.key → addP ps x = ps ++ [⟨x.key, [x.amt]⟩]
  | [], _ => rfl
  | p :: ps, h => by
    simp only [List.map_cons, List.mem_cons, not_or] at h
    rw [addP, if_neg (fun e => h.1 e.symm), addP_none x ps h.2]
    rfl
theorem addP_some (x : Bl) : ∀ (ps : List Pt) (j : Nat) (hj : j < ps.length), (ps.map Pt.key).Nodup → (ps[j]).key = x.key → addP ps x = ps.set j ⟨(ps[j]).key, (ps[j]).zs ++ [x.amt]⟩
  | p :: ps, 0, _, _, e => by
    rw [addP, if_pos (by simpa using e)]
    rfl
  | p :: ps, j + 1, hj, hn, e => by
    simp only [List.map_cons, List.nodup_cons] at hn
    have hj' : j < ps.length := by simpa using hj
    have e' : (ps[j]).key = x.key := by simpa using e
    rw [addP, if_neg (fun h => hn.1 (by rw [h, ← e']; exact List.mem_map.2 ⟨_, List.getElem_mem hj', rfl⟩)), addP_some x ps j hj' hn.2 e']
    rfl
theorem pt_under : Tryz.prog.underlying 59 = some (.map 77 26) := Tryz.underlying59
theorem pt_zero (w : World) : (zeroValue 26).run Tryz.prog w = .ok (.slice none 0 0) w := by kernel_rfl
theorem setBlock_same {W : World} {b : Nat} {o : Obj} (h : W.heap[b]? = some o) : ChangeMaps.setBlock W b o = W := by
  unfold ChangeMaps.setBlock
  have : W.heap.setIfInBounds b o = W.heap := by
    apply Array.ext_getElem?
    intro i
    rw [Array.getElem?_setIfInBounds]
    by_cases e : b = i
    · subst e
      rw [if_pos rfl, if_pos (Array.getElem?_eq_some_iff.1 h).1, h]
    · rw [if_neg e]
  rw [this]
theorem setBlock_at {W : World} {b : Nat} (h : b < W.heap.size) (o : Obj) : (ChangeMaps.setBlock W b o).heap[b]? = some o := by
  simp [ChangeMaps.setBlock, h]
theorem setBlock_ne {W : World} {b i : Nat} (h : b ≠ i) (o : Obj) : (ChangeMaps.setBlock W b o).heap[i]? = W.heap[i]? := by
  simp [ChangeMaps.setBlock, Array.getElem?_setIfInBounds_ne h]
theorem setBlock_below {W : World} {b n : Nat} (hn : n ≤ b) (o : Obj) : Below n W (ChangeMaps.setBlock W b o) :=
  ⟨rfl, rfl, rfl, by simp [ChangeMaps.setBlock], fun i hi => setBlock_ne (by omega) o⟩
/-- A place that is there, or one more. -/
theorem run_entry {W : World} {n mb : Nat} {ps : List Pt} {vs : Nat → Value} (h : PMp W n mb ps vs) {k : Pk} (hk : PkOk k) :
    ∃ (ps1 : List Pt) (vs1 : Nat → Value) (j : Nat) (hj : j < ps1.length) (W1 : World), (Instr.mapEntry 59 (.map (some mb)) (plV k)).run Tryz.prog W = .ok (.tuple #[vs1 j, goInt j]) W1 ∧
      PMp W1 n mb ps1 vs1 ∧ (ps1[j]).key = k ∧ Below n W W1 ∧ W1.heap.size = W.heap.size ∧ (∀ i, i ≠ mb → W1.heap[i]? = W.heap[i]?) ∧ ps1.length ≤ ps.length + 1 ∧ (∀ p ∈ ps1, p ∈ ps ∨ p.zs = []) ∧
      ∀ x : Bl, x.key = k → addP ps x = ps1.set j ⟨(ps1[j]).key, (ps1[j]).zs ++ [x.amt]⟩ := by
  obtain ⟨kl, hkl⟩ := keyOf_pl hk
  have hlt : mb < W.heap.size := (Array.getElem?_eq_some_iff.1 h.map).1
  have hke : ∀ e ∈ (ents ps vs), ∃ l, keyOf Tryz.prog 77 e.key = some l := fun e he => by
    obtain ⟨i, hi, rfl⟩ := ents_mem he
    exact keyOf_pl (h.keys _ (List.getElem_mem hi))
  rcases pl_law.find W hkl (ents ps vs) hke with ⟨h1, h2⟩ | ⟨j, e0, h1, h2, h3⟩
  · have hno : k ∉ ps.map Pt.key := fun hm => by
      obtain ⟨p, hp, e⟩ := List.mem_map.1 hm
      obtain ⟨i, hi, e2⟩ := List.getElem_of_mem hp
      have := ents_get ps vs i hi
      refine h2 _ (List.mem_of_getElem? this) ?_
      show plV (ps[i]).key = plV k
      rw [e2, e]
    have hrun : (Instr.mapEntry 59 (.map (some mb)) (plV k)).run Tryz.prog W = .ok (.tuple #[.slice none 0 0, goInt ps.length]) (ChangeMaps.setBlock W mb (.map ((ents ps vs).toArray.push ⟨plV k, .slice none 0 0, ps.length⟩) (ps.length + 1))) := by
      simp [Instr.mapEntry, run_underlying pt_under, MapKept.run_getObj_map h.map, pl_law.check W false hkl, h1, pt_zero, MapKept.run_setObj_map _ h.map, Result.andThen, ChangeMaps.setBlock]
    refine ⟨ps ++ [⟨k, []⟩], fun i => if i = ps.length then .slice none 0 0 else vs i, ps.length, by simp, _, by simpa using hrun, ⟨?_, h.mbn, ?_, ?_, ?_, ?_, ?_⟩, by simp, setBlock_below h.mbn _, by simp [ChangeMaps.setBlock], fun i hi => setBlock_ne (fun e => hi e.symm) _, by simp, ?_, ?_⟩
    · rw [setBlock_at hlt]
      congr 2
      · rw [← ents_push]
        simp only [if_true]
        have e : ents ps (fun i => if i = ps.length then Value.slice none 0 0 else vs i) = ents ps vs := by
          unfold ents
          refine List.map_congr_left (fun i hi => ?_)
          have : i ≠ ps.length := by have := List.mem_range.1 hi; omega
          simp only [if_neg this]
        rw [e]
        try simp
      · simp
    · intro p hp
      rcases List.mem_append.1 hp with hp | hp
      · exact h.keys p hp
      · rw [List.mem_singleton.1 hp]; exact hk
    · rw [List.map_append, List.nodup_append]
      refine ⟨h.nodup, by simp, fun a ha b hb e => ?_⟩
      simp only [List.map_cons, List.map_nil, List.mem_singleton] at hb
      exact hno (by rw [← hb, ← e]; exact ha)
    · intro i hi
      by_cases e : i = ps.length
      · subst e
        simp only [if_true, List.getElem_append_right (Nat.le_refl _), Nat.sub_self, List.getElem_cons_zero, List.length_nil, List.map_nil]
        exact World.ownsRow_nil _ _ _ _
      · have hi' : i < ps.length := by simp at hi; omega
        rw [if_neg e]
        simp only [List.getElem_append_left hi']
        have hr := h.rows i hi'
        rcases hr.2 with ⟨hv, hn⟩ | ⟨g1, c1, cur, hv, hb1, hh, r⟩
        · exact ⟨hr.1, .inl ⟨hv, hn⟩⟩
        · exact ⟨hr.1, .inr ⟨g1, c1, cur, hv, hb1, (setBlock_ne (fun e => by rw [← e, h.map] at hh; cases hh) _).trans hh, r⟩⟩
    · intro i j hi hj hij g hg
      by_cases e : i = ps.length
      · rw [if_pos e] at hg; cases hg
      · rw [if_neg e] at hg
        by_cases e2 : j = ps.length
        · rw [if_pos e2]; exact fun h => by cases h
        · rw [if_neg e2]
          exact h.apart i j (by simp at hi; omega) (by simp at hj; omega) hij g hg
    · intro p hp
      rcases List.mem_append.1 hp with hp | hp
      · exact h.i64 p hp
      · rw [List.mem_singleton.1 hp]; intro z hz; simp at hz
    · intro p hp
      rcases List.mem_append.1 hp with hp | hp
      · exact .inl hp
      · exact .inr (by rw [List.mem_singleton.1 hp])
    · intro x hx
      rw [addP_none x ps (by rw [hx]; exact hno)]
      simp [hx]
  · have hj : j < ps.length := by have := (List.getElem?_eq_some_iff.1 h2).1; rw [ents_length] at this; exact this
    have he0 : e0 = ⟨plV (ps[j]).key, vs j, j⟩ := by rw [ents_get ps vs j hj] at h2; exact (Option.some.inj h2).symm
    have hkj : (ps[j]).key = k := plV_inj (by rw [he0] at h3; exact h3)
    have hj' : (ents ps vs).toArray[j]? = some e0 := by simpa using h2
    have hsame : (ents ps vs).toArray.modify j (fun e => { e with key := plV k }) = (ents ps vs).toArray := by
      apply Array.ext'
      rw [Array.toList_modify]
      apply List.ext_getElem?
      intro i
      rw [List.getElem?_modify]
      by_cases e : j = i
      · subst e
        rw [h2]
        simp only [if_true, he0]
        rw [hkj]
        rfl
      · simp [e]
    have hrun : (Instr.mapEntry 59 (.map (some mb)) (plV k)).run Tryz.prog W = .ok (.tuple #[vs j, goInt j]) W := by
      have h0 : (Instr.mapEntry 59 (.map (some mb)) (plV k)).run Tryz.prog W = .ok (.tuple #[vs j, goInt j]) (ChangeMaps.setBlock W mb (.map (ents ps vs).toArray ps.length)) := by
        have hst := pl_law.stays W hkl
        have hjl : (ents ps vs)[j]? = some e0 := h2
        have hso := MapKept.run_setObj_map (P := Tryz.prog) (.map (ents ps vs).toArray ps.length) h.map
        have hsl : (ents ps vs).modify j (fun e => { e with key := plV k }) = ents ps vs := by
          have := congrArg Array.toList hsame
          rw [Array.toList_modify] at this
          simpa using this
        simp [Instr.mapEntry, run_underlying pt_under, MapKept.run_getObj_map h.map, pl_law.check W false hkl, h1, hjl, h3, hst, hsl, hso, Result.andThen, ChangeMaps.setBlock]
        rw [he0]
        simp
      rw [setBlock_same h.map] at h0
      exact h0
    exact ⟨ps, vs, j, hj, W, hrun, h, hkj, Below.refl _ _, rfl, fun _ _ => rfl, Nat.le_succ _, fun p hp => .inl hp, fun x hx => addP_some x ps j hj h.nodup (by rw [hkj, hx])⟩
end Go.Proofs.YtjajmlioohehdaaGreatDoor
