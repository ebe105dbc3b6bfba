/-
  The contract of daysame.Entries.
-/
import Derived.Test.YtiolkeipgpkbmaaGreatDoorZg26
import Derived.Test.YtiolkeipgpkbmaaGreatDoorZg28
import Derived.Test.YtiolkeipgpkbmaaGreatDoorZg24
import Derived.Test.YtiolkeipgpkbmaaGreatDoorZg0
import Derived.Test.YtiolkeipgpkbmaaGreatDoorZg20
import Derived.Laws.StructEq
import Derived.Test.YtiolkeipgpkbmaaGreatDoorZg23
import Derived.Deep.RegionWith
namespace Go.Proofs.YtiolkeipgpkbmaaGreatDoor
set_option linter.unusedVariables false
set_option linter.unusedSimpArgs false
set_option maxRecDepth 100000
open Go.RowKit Go.Lib

/-- What the reference leaves. -/
def RgEnd (c : List Ac) (l : List Po) (b : List Bl) (en pe : Int) (w : World) (e : Ending) (w' : World) : Prop :=
  Below w.heap.size w w' ∧ (alBad c l b en pe ≠ 0 → e = .returned (.tuple #[.slice none 0 0, .int .i64 (alBad c l b en pe)])) ∧
    (alBad c l b en pe = 0 → ∃ v L, e = .returned (.tuple #[v, .int .i64 0]) ∧ Made w' w.heap.size v L ∧ L.map Je.ep = alTo en pe b l l.length)
/-- The lines up to one to whom is given. -/
def goQ (p : Po) (has : Int) (k : Nat) : List Ln := (⟨p.acc, p.cur, -has⟩ : Ln) :: ((List.range k).map (toLn p has)).filter fun x => !isNo x
theorem goQ_next (p : Po) (has : Int) (k : Nat) : goQ p has (k + 1) = goQ p has k ++ (if shareI has p.ws k = 0 then [] else [toLn p has k]) := by
  unfold goQ
  rw [range_snoc, List.filter_append, List.cons_append]
  congr 2
  by_cases h : shareI has p.ws k = 0
  · rw [if_pos h, List.filter_cons_of_neg (by unfold isNo toLn; simp [h])]; rfl
  · rw [if_neg h, List.filter_cons_of_pos (by unfold isNo toLn; simp [h])]; rfl
theorem goQ_all {p : Po} {has : Int} (h : has ≠ 0) : goQ p has p.tos.length = goL p has := by
  unfold goQ goL allL
  rw [List.filter_cons_of_pos]
  unfold isNo
  simp only [Bool.not_eq_true', decide_eq_false_iff_not]
  omega
theorem goQ_len (p : Po) (has : Int) (k : Nat) : (goQ p has k).length ≤ k + 1 := by
  unfold goQ
  have := List.length_filter_le (fun x => !isNo x) ((List.range k).map (toLn p has))
  simp at this
  simp
  omega
theorem ag_build_ln (x0 x1 : ByteArray) (x2 : Int) (w : World) : (Instr.build 61 #[(0, .string x0), (1, .string x1), (2, .int .i64 x2)]).run Tryz.prog w = .ok (.agg #[.string x0, .string x1, .int .i64 x2]) w := by
  go_simp
theorem lnRow_snoc (l : List Ln) (x : Ln) : lnRow (l ++ [x]) = lnRow l ++ [.string x.acc, .string x.cur, .int .i64 x.amt] := by
  unfold lnRow
  rw [List.flatMap_append]
  simp [Ln.cells]
theorem ag_block {W : World} {n : Nat} {v : Value} {l : List Ln} (h : LnRow W n v l) : ∀ j, v.ownBlock = some j → j < W.heap.size := fun j ej => by
  rcases h.2 with ⟨rfl, _⟩ | ⟨g, cp, cur, rfl, hg, hh, _⟩
  · cases ej
  · cases ej; exact (Array.getElem?_eq_some_iff.1 hh).1
/-- What holds between the lines of an entry. -/
structure AgIn (wa W8 W : World) (BE gs : Nat) (rf : ByteArray) (en pe : Int) (a1 : Option Addr) (n1 c1 : Nat) (Q : List Ln) : Prop where
  box : Box4 W BE rf en pe (.slice a1 n1 c1)
  len : n1 = Q.length
  row : LnRow W (BE + 1) (.slice a1 n1 c1) Q
  bel : Below wa.heap.size wa W
  sh : W.heap[gs]? = W8.heap[gs]?
  ne : ∀ j, (Value.slice a1 n1 c1).ownBlock = some j → j ≠ gs
  lt : gs < W.heap.size
  be : BE + 1 ≤ W.heap.size
  gb : BE < gs
set_option maxHeartbeats 16000000 in
theorem refAllot_any (a a2 a3 : Option Addr) (cap cap2 cap3 : Nat) (c : List Ac) (l : List Po) (b : List Bl) (en pe : Int) (w : World) (h : IsSl w a c cap) (hok : ∀ k, k < c.length → (c.getD k ac0).code.size ≤ maxLen ∧ (c.getD k ac0).name.size ≤ maxLen) (hl : IsPs w a2 l cap2) (hll : l.length ≤ 9223372036854775807) (hb : IsBl w a3 b cap3) (hbl : b.length ≤ 9223372036854775807) :
    Calls Tryz.prog 7 #[.slice a c.length cap, .slice a2 l.length cap2, .slice a3 b.length cap3, .int .i64 en, .int .i64 pe] w (RgEnd c l b en pe w) := by
  have HErr : Hid (∀ z W, z ≠ 0 → alBad c l b en pe = z → Below w.heap.size w W → RgEnd c l b en pe w (.returned (.tuple #[.slice none 0 0, .int .i64 z])) W) := fun z W h0 h1 h2 => by
    refine ⟨h2, fun _ => by rw [h1], fun e => absurd (h1.symm.trans e) h0⟩
  have HOk : Hid (∀ v L W, alBad c l b en pe = 0 → Below w.heap.size w W → Made W w.heap.size v L → L.map Je.ep = alTo en pe b l l.length → RgEnd c l b en pe w (.returned (.tuple #[v, .int .i64 0])) W) := fun v L W h1 h2 h3 h4 =>
    ⟨h2, fun h0 => absurd h1 h0, fun _ => ⟨v, L, rfl, h3, h4⟩⟩
  have HC : Hid (Calls Tryz.prog 6 #[.slice a c.length cap, .slice a2 l.length cap2] w fun e w' => e = .returned (.int .i64 (psBad c l)) ∧ Below w.heap.size w w') := refPools_any a a2 cap cap2 c l w h hok hl hll
  have HCb : Hid (∀ W, Below w.heap.size w W → Calls Tryz.prog 17 #[.slice a3 b.length cap3] W fun e w' => e = .returned (.int .i64 (chk b)) ∧ Below w.heap.size w w') := fun W hW => by
    refine (lmCheck_any a3 cap3 b W hbl (hb.below hW)).mono ?_
    rintro e w' ⟨rfl, hh⟩
    exact ⟨rfl, hW.trans (hh.mono hW.size)⟩
  have HWh : Hid (∀ W, Calls Tryz.prog 18 #[.int .i64 en, .int .i64 pe] W fun e w' => e = .returned (.int .i64 (if (upTo en 12 && upTo pe 120) = false then 1 else 0)) ∧ w' = W) := fun W => refWhen_any en pe W
  by_cases c1 : psBad c l ≠ 0
  · have HE : Hid (∀ W, Below w.heap.size w W → RgEnd c l b en pe w (.returned (.tuple #[.slice none 0 0, .int .i64 (psBad c l)])) W) := fun W hW => HErr.out _ W c1 (by unfold alBad; rw [if_pos c1]) hW
    have c1' : (psBad c l == 0) = false := by rw [beq_eq_false_iff_ne]; exact c1
    have c1'' : (psBad c l != 0) = true := by simpa using c1
    clear h hl hb HErr HOk HWh HCb c1
    generalize psBad c l = z at *
    go_enter Tryz.func7, Tryz.ntmps7
    go_wp2_with (go_at_call 6; refine HC.out.mono ?_; rintro e w1 ⟨rfl, hb1⟩)
    go_ret2
    exact HE.out _ hb1
  have c1' := Decidable.of_not_not c1
  rw [c1'] at HC
  by_cases c2 : chk b ≠ 0
  · have HE : Hid (∀ W, Below w.heap.size w W → RgEnd c l b en pe w (.returned (.tuple #[.slice none 0 0, .int .i64 (chk b)])) W) := fun W hW => HErr.out _ W c2 (by unfold alBad; rw [if_neg c1, if_pos c2]) hW
    have c2' : (chk b == 0) = false := by rw [beq_eq_false_iff_ne]; exact c2
    have c2'' : (chk b != 0) = true := by simpa using c2
    clear h hl hb HErr HOk HWh c1 c1' c2
    generalize chk b = z at *
    go_enter Tryz.func7, Tryz.ntmps7
    go_wp2_with fail
    refine HC.out.mono ?_
    rintro e w1 ⟨rfl, hb1⟩
    have HB1 : Hid (Below w.heap.size w w1) := hb1
    clear hb1 HC
    go_wp2_with fail
    refine (HCb.out w1 HB1.out).mono ?_
    rintro e w2 ⟨rfl, hb2⟩
    have HE2 : Hid _ := HE.out w2 hb2
    clear hb2 HCb HE
    go_wp2
    go_ret2
    exact HE2.out
  have c2' := Decidable.of_not_not c2
  rw [c2'] at HCb
  by_cases c3 : (upTo en 12 && upTo pe 120) = false
  · have HE : Hid (∀ W, Below w.heap.size w W → RgEnd c l b en pe w (.returned (.tuple #[.slice none 0 0, .int .i64 1])) W) := fun W hW => HErr.out _ W (by decide) (by unfold alBad; rw [if_neg c1, if_neg c2, if_pos c3]) hW
    rw [if_pos c3] at HWh
    clear h hl hb HErr HOk c1 c1' c2 c2' c3
    go_enter Tryz.func7, Tryz.ntmps7
    go_wp2_with fail
    refine HC.out.mono ?_
    rintro e w1 ⟨rfl, hb1⟩
    have HB1 : Hid (Below w.heap.size w w1) := hb1
    clear hb1 HC
    go_wp2_with fail
    refine (HCb.out w1 HB1.out).mono ?_
    rintro e w2 ⟨rfl, hb2⟩
    have HE2 : Hid _ := HE.out w2 hb2
    clear hb2 HCb HE
    go_wp2_with fail
    refine (HWh.out _).mono ?_
    rintro e w' ⟨rfl, hw⟩
    rw [hw]; clear hw w' HWh
    go_wp2
    go_ret2
    exact HE2.out
  have HB0 : Hid (alBad c l b en pe = firstTo (fun k => hasBad b en (l.getD k po0)) l.length) := by
    unfold alBad Hid; rw [if_neg c1, if_neg c2, if_neg c3]
  rw [if_neg c3] at HWh
  obtain ⟨p1, p2, p3⟩ := psBad_ok c1'
  have HPo : Hid (∀ k, k < l.length → poBad c (l.getD k po0) = 0) := p3
  have HPs : Hid (IsPs w a2 l cap2) := hl
  have HBl : Hid (IsBl w a3 b cap3 ∧ b.length ≤ 9223372036854775807) := ⟨hb, hbl⟩
  have HAm : Hid (∀ (x : Int) W, Calls Tryz.prog 20 #[.int .i64 x] W fun e w' => e = .returned (.bool (isAmtB x)) ∧ w' = W) := fun x W => refAmount_any x W
  have i2 : (l.length : Int) ≤ 20 := by omega
  clear h hl hb c1 c1' c2 c2' c3 p1 p3
  obtain ⟨i0, hi, hz0, hz1, hz2⟩ := info_parts je_info
  obtain ⟨n0, ni, nz0, nz1, nz2⟩ := info_parts ln_info
  go_enter Tryz.func7, Tryz.ntmps7
  go_wp2_with fail
  refine HC.out.mono ?_
  rintro e w1 ⟨rfl, hb1⟩
  have HB1 : Hid (Below w.heap.size w w1) := hb1
  clear hb1 HC
  go_wp2_with fail
  refine (HCb.out w1 HB1.out).mono ?_
  rintro e w2 ⟨rfl, hb2⟩
  have HB2 : Hid (Below w.heap.size w w2) := hb2
  clear hb2 HCb HB1
  go_wp2_with fail
  refine (HWh.out _).mono ?_
  rintro e w' ⟨rfl, hw⟩
  rw [hw]; clear hw w' HWh
  go_wp2
  go_loopw [13, 14] (fun v i wr => ∃ (k : Nat) (L : List Je), k ≤ l.length ∧ i = .int .i64 k ∧ Hid (Made wr w.heap.size v L ∧ L.map Je.ep = alTo en pe b l k ∧ L.length ≤ k) ∧ Hid (firstTo (fun k => hasBad b en (l.getD k po0)) k = 0) ∧ Hid (Below w.heap.size w wr)) (fun _ i _ => l.length - (RowKit.intOf i).toNat)
  case atStart => exact ⟨0, [], Nat.zero_le _, rfl, ⟨Made.nil _ _, rfl, Nat.le_refl _⟩, rfl, HB2⟩
  case round =>
    obtain ⟨k, L, hk, rfl, HM, H0, HB⟩ := hrel
    obtain ⟨av, cv, ev, _⟩ := HM.out.1.isJs
    subst ev
    by_cases hkn : k < l.length
    · obtain ⟨bb, off, e, hblt, hc, hpo⟩ := ((HPs.out).below HB.out).at hkn
      subst e
      obtain ⟨q1, q2, q3, q4, q5, q6, q7⟩ := poBad_ok (HPo.out k hkn)
      have hk20 : k < 20 := by omega
      obtain ⟨wa, hwa⟩ : ∃ wa, wr.alloc (.cells (l.getD k po0).cells 45) = wa := ⟨_, rfl⟩
      have b11 : Below wr.heap.size wr wa := by rw [← hwa]; exact (Below.refl _ wr).alloc (Nat.le_refl _) _
      have hsa : wr.heap.size < wa.heap.size := by rw [← hwa]; simp
      have hx : PoAt wa wr.heap.size 0 (l.getD k po0) := by rw [← hwa]; exact PoAt.new wr (l.getD k po0) 45
      have B1 : Below w.heap.size w wa := HB.out.trans (b11.mono HB.out.size)
      have HKeep : Hid (∀ W, Below wa.heap.size wa W → Below w.heap.size w W ∧ Below wr.heap.size wr W ∧ PoAt W wr.heap.size 0 (l.getD k po0) ∧ PoOk W (l.getD k po0)) := fun W hW =>
        ⟨B1.trans (hW.mono B1.size), b11.trans (hW.mono b11.size), hx.below hW hsa, (hpo.below b11).below hW⟩
      have HGe : Hid (Calls Tryz.prog 19 #[.slice a3 b.length cap3, .int .i64 en, .string (l.getD k po0).acc, .string (l.getD k po0).cur] wa fun e w' => e = .returned (.int .i64 (getB b en (l.getD k po0).acc (l.getD k po0).cur)) ∧ Below wa.heap.size wa w') := (refGet_any a3 cap3 b en _ _ wa (by have := HBl.out.2; omega) (HBl.out.1.below B1)).mono (by rintro e w' ⟨rfl, rfl⟩; exact ⟨rfl, Below.refl _ _⟩)
      have HDg : Hid (∀ W, Calls Tryz.prog 21 #[.int .i64 ((k : Nat) : Int)] W fun e w' => e = .returned (.string (digS k)) ∧ Below W.heap.size W w') := fun W => refDig_any k hk20 W
      have HSh : Hid (∀ has W, (-1000000000000000 ≤ has ∧ has ≤ 1000000000000000) → Below wa.heap.size wa W → Calls Tryz.prog 16 #[.int .i64 has, .slice (l.getD k po0).wA (l.getD k po0).ws.length (l.getD k po0).wC] W fun e w' => ∃ g c, e = .returned (.tuple #[.slice (some ⟨g, 0, none⟩) (l.getD k po0).tos.length c, .int .i64 0]) ∧ Hid (Below W.heap.size W w' ∧ W.heap.size ≤ g ∧ g < w'.heap.size ∧ ∀ i, i < (l.getD k po0).tos.length → w'.cell? ⟨g, i, none⟩ = some (.int .i64 (shareI has (l.getD k po0).ws i)))) := fun has W hh hW => by
        refine (refShares_ok has _ _ _ W (HKeep.out W hW).2.2.2.iw (shBad_zero q4) (by omega) (by omega)).mono ?_
        rintro e w' ⟨g, c, rfl, hx⟩
        obtain ⟨z1, z2, z3, z4, z5⟩ := hx.out
        rw [q1] at z5 ⊢
        exact ⟨g, c, rfl, z1, z2, z3, z5⟩
      have HNx : Hid (alTo en pe b l (k + 1) = alTo en pe b l k ++ poE en pe b k (l.getD k po0)) := alTo_next en pe b l k
      have HPE : Hid (poE en pe b k (l.getD k po0) = if getB b en (l.getD k po0).acc (l.getD k po0).cur = 0 then [] else [⟨refA k, en, pe, goL (l.getD k po0) (getB b en (l.getD k po0).acc (l.getD k po0).cur)⟩]) := rfl
      have HGB : Hid (hasBad b en (l.getD k po0) = @ite _ (isAmt (getB b en (l.getD k po0).acc (l.getD k po0).cur)) (decAmt _) 0 1) := rfl
      have HBd : Hid (hasBad b en (l.getD k po0) = 0 → firstTo (fun k => hasBad b en (l.getD k po0)) (k + 1) = 0) := fun h => by rw [firstTo_next H0.out, h]
      have HBr : Hid (hasBad b en (l.getD k po0) = 1 → ∀ W, Below w.heap.size w W → RgEnd c l b en pe w (.returned (.tuple #[.slice none 0 0, .int .i64 1])) W) := fun h W hW => HErr.out 1 W (by decide) (by rw [HB0.out, firstTo_first H0.out (by rw [h]; decide) hkn, h]) hW
      have HRf : Hid (refA k = (⟨#[97, 108, 108, 111, 116, 45]⟩ : ByteArray) ++ digS k) := rfl
      have HGq : Hid (∀ has, has ≠ 0 → goQ (l.getD k po0) has (l.getD k po0).tos.length = goL (l.getD k po0) has) := fun has hh => goQ_all hh
      have HQn : Hid (∀ has j, goQ (l.getD k po0) has (j + 1) = goQ (l.getD k po0) has j ++ (if shareI has (l.getD k po0).ws j = 0 then [] else [toLn (l.getD k po0) has j])) := fun has j => goQ_next _ has j
      have HTl : Hid (∀ has j, toLn (l.getD k po0) has j = ⟨(l.getD k po0).tos.getD j ByteArray.empty, (l.getD k po0).cur, shareI has (l.getD k po0).ws j⟩) := fun _ _ => rfl
      have HQ0 : Hid (∀ has, goQ (l.getD k po0) has 0 = [⟨(l.getD k po0).acc, (l.getD k po0).cur, -has⟩]) := fun _ => rfl
      have HQl : Hid (∀ has j, (goQ (l.getD k po0) has j).length ≤ j + 1) := fun has j => goQ_len _ has j
      have hds := digS_size k
      have HWa : Hid (wr.alloc (.cells (l.getD k po0).cells 45) = wa) := hwa
      clear hwa q1 q2 q4 q5 q6 q7 B1 b11 hsa hpo H0
      generalize getB b en (l.getD k po0).acc (l.getD k po0).cur = has at *
      generalize hasBad b en (l.getD k po0) = hbd at *
      generalize poE en pe b k (l.getD k po0) = pE at *
      generalize goL (l.getD k po0) = gl at *
      generalize goQ (l.getD k po0) = gq at *
      generalize toLn (l.getD k po0) = tl at *
      generalize refA k = rf at *
      generalize digS k = ds at *
      generalize l.getD k po0 = p at *
      obtain ⟨acc, cu, tA, tC, tos, wA, wC, ws⟩ := p
      obtain ⟨d0, d1, d2, d3⟩ := hc
      obtain ⟨f0, f1, f2, f3⟩ := hx
      simp only [Po.cells, Nat.zero_add] at d0 d1 d2 d3 f0 f1 f2 f3 HWa HKeep HGe HSh HGq HQn HTl HQ0 q3
      have j0 : (0 : Int) ≤ k := by omega
      have j1 : (k : Int) < l.length := by omega
      go_upto_region 13 with fail
      rw [HWa.out]
      clear HWa d0 d1 d2 d3
      go_wp2_with fail
      refine HGe.out.mono ?_
      rintro e w3 ⟨rfl, hb3⟩
      have HB3 : Hid (Below wa.heap.size wa w3) := hb3
      clear HGe hb3 f0 f1 f2 f3
      by_cases g0 : has = 0
      · subst g0
        have HM2 : Hid (Made w3 w.heap.size (.slice av L.length cv) L ∧ L.map Je.ep = alTo en pe b l (k + 1) ∧ L.length ≤ k + 1) := by
          obtain ⟨m1, m2, m3⟩ := HM.out
          refine ⟨m1.below (HKeep.out w3 HB3.out).2.1, ?_, by omega⟩
          rw [HNx.out, HPE.out, if_pos rfl, List.append_nil, m2]
        have HN : Hid (firstTo (fun k => hasBad b en (l.getD k po0)) (k + 1) = 0) := HBd.out (by rw [HGB.out, if_pos (by unfold isAmt; omega)])
        have HBw3 : Hid (Below w.heap.size w w3) := (HKeep.out w3 HB3.out).1
        clear HBd HBr HGB HPE HNx HM HOk HErr HSh HDg HKeep
        go_wp2
        go_roundw
        case rel => exact ⟨k + 1, L, by omega, by go_num, HM2, HN, HBw3⟩
        case measure => simp [RowKit.intOf]; omega
      have g0' : (has == 0) = false := by rw [beq_eq_false_iff_ne]; exact g0
      have HA3 : Hid (Calls Tryz.prog 20 #[.int .i64 has] w3 fun e w' => e = .returned (.bool (isAmtB has)) ∧ w' = w3) := HAm.out has w3
      cases g1 : isAmtB has
      · have hna : ¬ isAmt has := fun hh => by
          have : isAmtB has = true := by unfold isAmt at hh; simp [isAmtB, hh.1, hh.2]
          rw [g1] at this; cases this
        have HE : Hid (RgEnd c l b en pe w (.returned (.tuple #[.slice none 0 0, .int .i64 1])) w3) := HBr.out (by rw [HGB.out, if_neg hna]) w3 (HKeep.out w3 HB3.out).1
        rw [g1] at HA3
        clear HBd HBr HGB HPE HNx HM HOk HErr HSh HDg HKeep hna g1
        go_wp2_with fail
        refine HA3.out.mono ?_
        rintro e w' ⟨rfl, hw⟩
        rw [hw]; clear hw w' HA3
        go_wp2
        go_ret2
        exact HE.out
      have hia : -1000000000000000 ≤ has ∧ has ≤ 1000000000000000 := by have := isAmtB_iff.1 g1; unfold mostA at this; exact this
      rw [g1] at HA3
      have HN : Hid (firstTo (fun k => hasBad b en (l.getD k po0)) (k + 1) = 0) := HBd.out (by rw [HGB.out, if_pos (show isAmt has from hia)])
      have HP2 : Hid (alTo en pe b l (k + 1) = alTo en pe b l k ++ [⟨rf, en, pe, gl has⟩]) := by rw [HNx.out, HPE.out, if_neg g0]; exact rfl
      have HGq2 : Hid (gq has tos.length = gl has) := HGq.out has g0
      have wn : IntKind.i64.wrap (-has) = -has := by
        simp only [IntKind.wrap, IntKind.bits, IntKind.signed]
        simp
        omega
      clear HBd HBr HGB HPE HNx HOk HErr HGq g1 g0
      go_wp2_with fail
      refine HA3.out.mono ?_
      rintro e w' ⟨rfl, hw⟩
      rw [hw]; clear hw w' HA3
      go_wp2_with fail
      refine (HDg.out w3).mono ?_
      rintro e w4 ⟨rfl, hb4⟩
      have HB4 : Hid (Below wa.heap.size wa w4) := HB3.out.trans (hb4.mono HB3.out.size)
      clear hb4 HDg HB3
      have s1 : ¬ 9223372036854775807 < 6 + ds.size := by omega
      have hsw : wa.heap.size ≤ w4.heap.size := HB4.out.size
      obtain ⟨BE, hBE⟩ : ∃ BE, w4.heap.size = BE := ⟨_, rfl⟩
      obtain ⟨W5, hW5⟩ : ∃ W5, w4.alloc (.cells #[.string rf, .int .i64 en, .int .i64 pe, .slice none 0 0] 59) = W5 := ⟨_, rfl⟩
      have B5 : Below wa.heap.size wa W5 := by rw [← hW5]; exact HB4.out.alloc hsw _
      have hs5 : W5.heap.size = BE + 1 := by rw [← hW5, ← hBE]; simp
      have x5 : Box4 W5 BE rf en pe (.slice none 0 0) := by rw [← hW5, ← hBE]; exact Box4.new w4 rf en pe _
      obtain ⟨_, _, p5, _⟩ := HKeep.out W5 B5
      have hwB : wa.heap.size ≤ BE := by omega
      have HW5 : Hid (w4.alloc (.cells #[.string rf, .int .i64 en, .int .i64 pe, .slice none 0 0] 59) = W5) := hW5
      have HBE : Hid (w4.heap.size = BE) := hBE
      clear hW5 hBE hsw
      go_upto_region 20 with fail
      rw [← HRf.out, HW5.out, HBE.out]
      clear HW5 HBE HRf s1
      obtain ⟨f0, f1, f2, f3⟩ := p5
      simp only [Nat.zero_add] at f0 f1 f2 f3
      have y3 := x5.c3
      have HX5 : Hid (Box4 W5 BE rf en pe (.slice none 0 0) ∧ Below wa.heap.size wa W5 ∧ W5.heap.size = BE + 1) := ⟨x5, B5, hs5⟩
      have HN1 : Hid (LnRow (W5.alloc (.cells #[.string acc, .string cu, .int .i64 (-has)] 61)) (BE + 1) (.slice none 0 0) []) := LnRow.nil _ _
      have HOne1 : Hid (∀ u ∈ ([.string acc, .string cu, .int .i64 (-has)] : List Value), u.oneCell' = true) := by intro u hu; simp at hu; rcases hu with rfl | rfl | rfl <;> rfl
      have Hm1 : Hid (0 + 1 ≤ maxLen ∧ (0 + 1) * 40 ≤ 140737488355328) := by unfold Hid maxLen; omega
      have Hs1 : Hid (BE + 1 ≤ (W5.alloc (.cells #[.string acc, .string cu, .int .i64 (-has)] 61)).heap.size) := by unfold Hid; simp; omega
      clear x5 B5 hs5
      go_wp2_with (at_builtin; refine wpList_append_own _ rfl _ _ 57 rfl (BE + 1) 61 n0 (.agg #[.string ByteArray.empty, .string ByteArray.empty, .int .i64 0]) 3 40 Tryz.underlying57 ni nz0 nz1 nz2 rfl (by decide) _ _ _ rfl HN1.out ⟨W5.heap.size, 0, none⟩ 1 1 [.string acc, .string cu, .int .i64 (-has)] rfl rfl (World.news_of_block (World.alloc_heap_new W5 _)) HOne1.out Hm1.out.1 Hm1.out.2 Hs1.out ?_)
      intro v1 W6 hown1 hgrow1 _
      have r1 : LnRow W6 (BE + 1) v1 (gq has 0) := by rw [HQ0.out]; unfold LnRow; simpa [lnRow, Ln.cells] using hown1
      have hq1 : (gq has 0).length = 1 := by rw [HQ0.out]; rfl
      have x6 : Box4 W6 BE rf en pe (.slice none 0 0) := (HX5.out.1.alloc _).grown hgrow1 (fun j e => by simp [Value.ownBlock] at e)
      have B6 : Below wa.heap.size wa W6 := (HX5.out.2.1.alloc HX5.out.2.1.size _).grown hgrow1 (by have := HX5.out.2.1.size; simp; omega) (fun j e => by simp [Value.ownBlock] at e)
      obtain ⟨a1, c1, ev1, _⟩ := r1.isLn
      rw [hq1] at ev1
      subst ev1
      have hsz6 : BE + 1 ≤ W6.heap.size := by have := hgrow1.size; have := Hs1.out; omega
      have HX6 : Hid (Box4 W6 BE rf en pe (.slice none 0 0) ∧ Below wa.heap.size wa W6 ∧ LnRow W6 (BE + 1) (.slice a1 1 c1) (gq has 0) ∧ BE + 1 ≤ W6.heap.size) := ⟨x6, B6, r1, hsz6⟩
      have Hq1 : Hid ((gq has 0).length = 1) := hq1
      clear hown1 hgrow1 HN1 HOne1 Hm1 Hs1 x6 B6 r1 HX5 hsz6 f0 f1 f2 f3 y3 hq1
      have y3 := HX6.out.1.c3
      have z3 := HX6.out.1.fz 3
      obtain ⟨W7, hW7⟩ : ∃ W7, W6.setCell ⟨BE, 3, none⟩ (.slice a1 1 c1) = W7 := ⟨_, rfl⟩
      have HX7 : Hid (Box4 W7 BE rf en pe (.slice a1 1 c1) ∧ Below wa.heap.size wa W7 ∧ LnRow W7 (BE + 1) (.slice a1 1 c1) (gq has 0) ∧ BE + 1 ≤ W7.heap.size) := by
        rw [← hW7]
        exact ⟨HX6.out.1.set3 _, HX6.out.2.1.setCell (p := ⟨BE, 3, none⟩) hwB _, HX6.out.2.2.1.setOther (by omega), by have := HX6.out.2.2.2; simp [World.setCell]; exact this⟩
      have HW7 : Hid (W6.setCell ⟨BE, 3, none⟩ (.slice a1 1 c1) = W7) := hW7
      clear hW7 HX6
      go_upto_region 21 with fail
      rw [HW7.out]
      clear HW7 y3 z3
      obtain ⟨_, _, ⟨f0, f1, f2, f3⟩, _⟩ := HKeep.out W7 HX7.out.2.1
      simp only [Nat.zero_add] at f0 f1 f2 f3
      have HS7 : Hid (Calls Tryz.prog 16 #[.int .i64 has, .slice wA ws.length wC] W7 fun e w' => ∃ g c, e = .returned (.tuple #[.slice (some ⟨g, 0, none⟩) tos.length c, .int .i64 0]) ∧ Hid (Below W7.heap.size W7 w' ∧ W7.heap.size ≤ g ∧ g < w'.heap.size ∧ ∀ i, i < tos.length → w'.cell? ⟨g, i, none⟩ = some (.int .i64 (shareI has ws i)))) := HSh.out has W7 hia HX7.out.2.1
      clear HSh hia
      go_wp2_with fail
      refine HS7.out.mono ?_
      rintro e W8 ⟨gs, sc, rfl, hh⟩
      obtain ⟨z1, z2, z3, z4⟩ := hh.out
      have HZ4 : Hid (∀ i, i < tos.length → W8.cell? ⟨gs, i, none⟩ = some (.int .i64 (shareI has ws i))) := z4
      have HX8 : Hid (AgIn wa W8 W8 BE gs rf en pe a1 1 c1 (gq has 0)) :=
        ⟨HX7.out.1.below z1 (by have := HX7.out.2.2.2; omega), Hq1.out.symm, HX7.out.2.2.1.below z1, HX7.out.2.1.trans (z1.mono HX7.out.2.1.size), rfl, fun j e => by have := ag_block HX7.out.2.2.1 j e; omega, z3, by have := z1.size; have := HX7.out.2.2.2; omega, by have := HX7.out.2.2.2; omega⟩
      have n19 : (tos.length : Int) ≤ 19 := by omega
      obtain ⟨q, hq⟩ : ∃ q, wr.heap.size = q := ⟨_, rfl⟩
      have Hqw : Hid (wr.heap.size = q) := hq
      rw [hq] at f0 f1 f2 f3 ⊢
      clear HS7 hh z1 z2 z3 z4 HX7 f0 f1 f2 f3 HQ0 hq
      have HKq : Hid (∀ W, Below wa.heap.size wa W → Below w.heap.size w W ∧ Below wr.heap.size wr W ∧ PoAt W q 0 ⟨acc, cu, tA, tC, tos, wA, wC, ws⟩ ∧ PoOk W ⟨acc, cu, tA, tC, tos, wA, wC, ws⟩) := fun W hW => by rw [← Hqw.out]; exact HKeep.out W hW
      clear HKeep
      obtain ⟨wo, hwo⟩ : ∃ wo, wo = wr := ⟨_, rfl⟩
      subst hwo
      go_wp2
      go_loopw [22] (fun ix wr => ∃ j : Nat, j ≤ tos.length ∧ ix = .int .i64 j ∧ Hid (∃ a1 n1 c1, AgIn wa W8 wr BE gs rf en pe a1 n1 c1 (gq has j))) (fun ix _ => tos.length - (RowKit.intOf ix).toNat)
      case atStart => exact ⟨0, Nat.zero_le _, rfl, _, _, _, HX8.out⟩
      case round =>
        obtain ⟨j, hj, rfl, HJ⟩ := hrel
        obtain ⟨a1, n1, c1, J⟩ := HJ.out
        have HJ1 : Hid (AgIn wa W8 wr BE gs rf en pe a1 n1 c1 (gq has j)) := J
        clear HJ
        by_cases hjn : j < tos.length
        · have cs : wr.cell? ⟨gs, j, none⟩ = some (.int .i64 (shareI has ws j)) := (World.cell?_of_block (w := W8) (a := ⟨gs, j, none⟩) J.sh).trans (HZ4.out j hjn)
          have m0 : (0 : Int) ≤ j := by omega
          have m1 : (j : Int) < tos.length := by omega
          have hqn := HQn.out has j
          by_cases g2 : shareI has ws j = 0
          · rw [g2] at cs
            rw [if_pos g2, List.append_nil] at hqn
            have HJ2 : Hid (∃ a1 n1 c1, AgIn wa W8 wr BE gs rf en pe a1 n1 c1 (gq has (j + 1))) := by
              unfold Hid; rw [hqn]; exact ⟨a1, n1, c1, HJ1.out⟩
            clear J hqn HJ1 g2
            go_wp2
            go_roundw
            case rel => exact ⟨j + 1, by omega, by go_num, HJ2⟩
            case measure => simp [RowKit.intOf]; omega
          · have g2' : (shareI has ws j != 0) = true := by simpa using g2
            rw [if_neg g2, HTl.out] at hqn
            obtain ⟨hw1, _, pa, po⟩ := HKq.out wr J.bel
            obtain ⟨tb, tf, e, htb, ht⟩ := po.tx.at (k := j) hjn
            simp only at e
            subst e
            have hdr : Below wr.heap.size wr wr.drew := (Below.refl _ wr).drew
            have hBd : Below wa.heap.size wa wr.drew := J.bel.drew
            have hbe : BE < wr.heap.size := by have := J.be; omega
            have y3 := J.box.c3
            have HCell : Hid (∀ u, Below wr.drew.heap.size wr.drew u → u.cell? ⟨BE, 3, none⟩ = some (.slice a1 n1 c1) ∧ u.cell? ⟨q, 2, none⟩ = some (.slice (some ⟨tb, tf, none⟩) tos.length tC) ∧ u.cell? ⟨tb, tf + j, none⟩ = some (.string (tos.getD j ByteArray.empty)) ∧ u.cell? ⟨q, 1, none⟩ = some (.string cu) ∧ u.cell? ⟨gs, j, none⟩ = some (.int .i64 (shareI has ws j))) := fun u hu => by
              have hu2 := hBd.trans (hu.mono hBd.size)
              obtain ⟨_, _, pa2, _⟩ := HKq.out u hu2
              have t2 := pa2.c2
              have t1 := pa2.c1
              simp only [Nat.zero_add] at t1 t2
              exact ⟨(hu.cell (p := ⟨BE, 3, none⟩) hbe).trans y3, t2, (hu.cell (p := ⟨tb, tf + j, none⟩) htb).trans ht, t1, (hu.cell (p := ⟨gs, j, none⟩) J.lt).trans cs⟩
            have hrowd : LnRow wr.drew (BE + 1) (.slice a1 n1 c1) (gq has j) := J.row.below hdr
            have hboxd : Box4 wr.drew BE rf en pe (.slice a1 n1 c1) := J.box.below hdr hbe
            have hql := HQl.out has j
            have hn1 := J.len
            have hgsd : gs < wr.drew.heap.size := J.lt
            have hshd : wr.drew.heap[gs]? = W8.heap[gs]? := J.sh
            have hned := J.ne
            have hgb := J.gb
            have hbed : BE + 1 ≤ wr.drew.heap.size := J.be
            have cW : wr.drew.cell? ⟨gs, j, none⟩ = _ := (HCell.out wr.drew (Below.refl _ _)).2.2.2.2
            generalize tos.getD j ByteArray.empty = tj at *
            generalize shareI has ws j = sj at *
            have HAdd : Hid (∀ g' cap' w6, World.ownsRow w6 (BE + 1) 61 3 (.slice (some ⟨g', 0, none⟩) (n1 + 1) cap') (n1 + 1) (lnRow (gq has j) ++ [.string tj, .string cu, .int .i64 sj]) → (wr.drew.alloc (.cells #[.string tj, .string cu, .int .i64 sj] 61)).grownBy w6 (Value.slice a1 n1 c1).ownBlock → ((Value.slice a1 n1 c1).ownBlock = some g' ∨ g' = wr.drew.heap.size + 1) → g' < w6.heap.size → Box4 w6 BE rf en pe (.slice a1 n1 c1) ∧ AgIn wa W8 (w6.setCell ⟨BE, 3, none⟩ (.slice (some ⟨g', 0, none⟩) (n1 + 1) cap')) BE gs rf en pe (some ⟨g', 0, none⟩) (n1 + 1) cap' (gq has (j + 1))) := fun g' cap' w6 h1 h2 h3 h4 => by
              have hown := hrowd.own
              have x6 : Box4 w6 BE rf en pe (.slice a1 n1 c1) := (hboxd.alloc _).grown h2 (fun i e => by have := hown i e; omega)
              have hr6 : LnRow w6 (BE + 1) (.slice (some ⟨g', 0, none⟩) (n1 + 1) cap') (gq has (j + 1)) := by
                rw [hqn]
                unfold LnRow
                rw [lnRow_snoc, List.length_append, ← hn1]
                exact h1
              have hg1 : BE + 1 ≤ g' := hr6.own g' rfl
              have B6 : Below wa.heap.size wa w6 := (hBd.alloc hBd.size _).grown h2 (by have := hBd.size; simp at this ⊢; omega) (fun i e => by have := hown i e; omega)
              have hszA : (wr.drew.alloc (.cells #[.string tj, .string cu, .int .i64 sj] 61)).heap.size = wr.drew.heap.size + 1 := by simp
              have hsz := h2.size
              rw [hszA] at hsz
              have hset : (w6.setCell ⟨BE, 3, none⟩ (.slice (some ⟨g', 0, none⟩) (n1 + 1) cap')).heap.size = w6.heap.size := by simp [World.setCell]
              have hgs6 : w6.heap[gs]? = W8.heap[gs]? := by
                rw [h2.block gs (by rw [hszA]; omega) (fun e => hned gs e.symm rfl)]
                rw [Below.heap_alloc _ _ _ hgsd]
                exact hshd
              refine ⟨x6, ?_⟩
              exact ⟨x6.set3 _, by rw [hqn, List.length_append, ← hn1]; rfl, hr6.setOther (by omega), B6.setCell (p := ⟨BE, 3, none⟩) hwB _, (Below.heap_setCell _ _ _ _ (show gs ≠ BE by omega)).trans hgs6, fun i e => by cases e; rcases h3 with h3 | h3; (exact hned _ h3); (show g' ≠ gs; omega), by rw [hset]; omega, by rw [hset]; omega, hgb⟩
            have HRow : Hid (World.ownsRow (wr.drew.alloc (.cells #[.string tj, .string cu, .int .i64 sj] 61)) (BE + 1) 61 3 (.slice a1 n1 c1) n1 (lnRow (gq has j))) := by
              have := World.ownsRow.alloc hrowd (.cells #[.string tj, .string cu, .int .i64 sj] 61)
              rw [← hn1] at this
              exact this
            have hOne : ∀ u ∈ ([.string tj, .string cu, .int .i64 sj] : List Value), u.oneCell' = true := by intro u hu; simp at hu; rcases hu with rfl | rfl | rfl <;> rfl
            have HOne : Hid (∀ u ∈ ([.string tj, .string cu, .int .i64 sj] : List Value), u.oneCell' = true) := hOne
            have Hm2 : Hid (n1 + 1 ≤ maxLen ∧ (n1 + 1) * 40 ≤ 140737488355328) := by unfold Hid maxLen; omega
            have Hs2 : Hid (BE + 1 ≤ (wr.drew.alloc (.cells #[.string tj, .string cu, .int .i64 sj] 61)).heap.size) := by unfold Hid; simp; simp at hbed; omega
            have hbA : Below wr.drew.heap.size wr.drew (wr.drew.alloc (.cells #[.string tj, .string cu, .int .i64 sj] 61)) := (Below.refl _ _).alloc (Nat.le_refl _) _
            have hsA : (wr.drew.alloc (.cells #[.string tj, .string cu, .int .i64 sj] 61)).heap.size = wr.drew.heap.size + 1 := by simp
            have HSA : Hid ((wr.drew.alloc (.cells #[.string tj, .string cu, .int .i64 sj] 61)).heap.size = wr.drew.heap.size + 1) := hsA
            clear hsA hOne J HJ1 hqn hrowd hboxd hql hn1 hgsd hshd hned hbed hgb hdr hBd hbe y3 pa po htb ht hw1 cW
            go_upto_region 26 with fail
            refine wp_region_drawn (by kernel_rfl) ?_
            generalize wr.drew = U at *
            clear cs g2
            refine wpAny_take (i := 0) (v := .pointer (some ⟨BE, 3, none⟩)) rfl (by kernel_rfl) (by kernel_rfl) (by kernel_rfl) (fun _ _ _ h => h) (Or.inl ⟨by rfl, fun w => by go_simp⟩) ?_
            simp only [Act.put, List.getElem_toArray, List.getElem_cons_succ, List.getElem_cons_zero, List.setIfInBounds_toArray, List.set_cons_zero, List.set_cons_succ]
            refine wpAny_take (i := 2) (v := .pointer (some ⟨q, 2, none⟩)) rfl (by kernel_rfl) (by kernel_rfl) (by kernel_rfl) (fun _ _ _ h => h) (Or.inl ⟨by rfl, fun w => by go_simp⟩) ?_
            simp only [Act.put, List.getElem_toArray, List.getElem_cons_succ, List.getElem_cons_zero, List.setIfInBounds_toArray, List.set_cons_zero, List.set_cons_succ]
            refine wpAny_take (i := 4) (v := .int .i64 j) rfl (by kernel_rfl) (by kernel_rfl) (by kernel_rfl) (fun _ _ _ h => h) (Or.inl ⟨by rfl, fun w => by go_simp⟩) ?_
            simp only [Act.put, List.getElem_toArray, List.getElem_cons_succ, List.getElem_cons_zero, List.setIfInBounds_toArray, List.set_cons_zero, List.set_cons_succ]
            refine wpAny_take (i := 7) (v := .pointer (some ⟨q, 1, none⟩)) rfl (by kernel_rfl) (by kernel_rfl) (by kernel_rfl) (fun _ _ _ h => h) (Or.inl ⟨by rfl, fun w => by go_simp⟩) ?_
            simp only [Act.put, List.getElem_toArray, List.getElem_cons_succ, List.getElem_cons_zero, List.setIfInBounds_toArray, List.set_cons_zero, List.set_cons_succ]
            refine wpAny_take (i := 9) (v := .slice (some ⟨gs, 0, none⟩) tos.length sc) rfl (by kernel_rfl) (by kernel_rfl) (by kernel_rfl) (fun _ _ _ h => h) (Or.inl ⟨by rfl, fun w => by go_simp⟩) ?_
            simp only [Act.put, List.getElem_toArray, List.getElem_cons_succ, List.getElem_cons_zero, List.setIfInBounds_toArray, List.set_cons_zero, List.set_cons_succ]
            refine wpAny_take (i := 10) (v := .int .i64 j) rfl (by kernel_rfl) (by kernel_rfl) (by kernel_rfl) (fun _ _ _ h => h) (Or.inl ⟨by rfl, fun w => by go_simp⟩) ?_
            simp only [Act.put, List.getElem_toArray, List.getElem_cons_succ, List.getElem_cons_zero, List.setIfInBounds_toArray, List.set_cons_zero, List.set_cons_succ]
            refine wpAny_take (i := 11) (v := .pointer (some ⟨gs, j, none⟩)) rfl (by kernel_rfl) (by kernel_rfl) (by kernel_rfl) (fun _ _ _ h => h) (Or.inl ⟨by rfl, fun w => by go_simp⟩) ?_
            simp only [Act.put, List.getElem_toArray, List.getElem_cons_succ, List.getElem_cons_zero, List.setIfInBounds_toArray, List.set_cons_zero, List.set_cons_succ]
            refine any_of_L (g := 15) (T := fun u => Below U.heap.size U u) _ _ _ _ ?_
            refine L_takeC [15] (i := 1) (v := .slice a1 n1 c1) rfl (by kernel_rfl) (by kernel_rfl) (by decide) (by kernel_rfl) (by kernel_rfl) (by kernel_rfl) (by kernel_rfl) (fun _ _ _ h => h) (Or.inl ⟨by rfl, fun w' hw' => by have c0 := (HCell.out w' hw').1; clear hw'; go_simp⟩) (Below.refl _ _) ?_
            simp only [Act.put, List.getElem_toArray, List.getElem_cons_succ, List.getElem_cons_zero, List.setIfInBounds_toArray, List.set_cons_zero, List.set_cons_succ]
            refine L_takeC [15, 14, 13, 6, 5] (i := 3) (v := .slice (some ⟨tb, tf, none⟩) tos.length tC) rfl (by kernel_rfl) (by kernel_rfl) (by decide) (by kernel_rfl) (by kernel_rfl) (by kernel_rfl) (by kernel_rfl) (fun _ _ _ h => h) (Or.inl ⟨by rfl, fun w' hw' => by have c0 := (HCell.out w' hw').2.1; clear hw'; go_simp⟩) (Below.refl _ _) ?_
            simp only [Act.put, List.getElem_toArray, List.getElem_cons_succ, List.getElem_cons_zero, List.setIfInBounds_toArray, List.set_cons_zero, List.set_cons_succ]
            refine L_takeC [15, 14, 13, 6] (i := 5) (v := .pointer (some ⟨tb, tf + j, none⟩)) rfl (by kernel_rfl) (by kernel_rfl) (by decide) (by kernel_rfl) (by kernel_rfl) (by kernel_rfl) (by kernel_rfl) (fun _ _ _ h => h) (Or.inl ⟨by rfl, fun w' hw' => by clear hw'; go_simp⟩) (Below.refl _ _) ?_
            simp only [Act.put, List.getElem_toArray, List.getElem_cons_succ, List.getElem_cons_zero, List.setIfInBounds_toArray, List.set_cons_zero, List.set_cons_succ]
            refine L_takeC [15, 14, 13] (i := 6) (v := .string tj) rfl (by kernel_rfl) (by kernel_rfl) (by decide) (by kernel_rfl) (by kernel_rfl) (by kernel_rfl) (by kernel_rfl) (fun _ _ _ h => h) (Or.inl ⟨by rfl, fun w' hw' => by have c0 := (HCell.out w' hw').2.2.1; clear hw'; go_simp⟩) (Below.refl _ _) ?_
            simp only [Act.put, List.getElem_toArray, List.getElem_cons_succ, List.getElem_cons_zero, List.setIfInBounds_toArray, List.set_cons_zero, List.set_cons_succ]
            refine L_takeC [15, 14, 13] (i := 8) (v := .string cu) rfl (by kernel_rfl) (by kernel_rfl) (by decide) (by kernel_rfl) (by kernel_rfl) (by kernel_rfl) (by kernel_rfl) (fun _ _ _ h => h) (Or.inl ⟨by rfl, fun w' hw' => by have c0 := (HCell.out w' hw').2.2.2.1; clear hw'; go_simp⟩) (Below.refl _ _) ?_
            simp only [Act.put, List.getElem_toArray, List.getElem_cons_succ, List.getElem_cons_zero, List.setIfInBounds_toArray, List.set_cons_zero, List.set_cons_succ]
            refine L_takeC [15, 14, 13] (i := 12) (v := .int .i64 sj) rfl (by kernel_rfl) (by kernel_rfl) (by decide) (by kernel_rfl) (by kernel_rfl) (by kernel_rfl) (by kernel_rfl) (fun _ _ _ h => h) (Or.inl ⟨by rfl, fun w' hw' => by have c0 := (HCell.out w' hw').2.2.2.2; clear hw'; go_simp⟩) (Below.refl _ _) ?_
            simp only [Act.put, List.getElem_toArray, List.getElem_cons_succ, List.getElem_cons_zero, List.setIfInBounds_toArray, List.set_cons_zero, List.set_cons_succ]
            refine L_takeC [15, 14] (i := 13) (v := .agg #[.string tj, .string cu, .int .i64 sj]) rfl (by kernel_rfl) (by kernel_rfl) (by decide) (by kernel_rfl) (by kernel_rfl) (by kernel_rfl) (by kernel_rfl) (fun _ _ _ h => h) ?_ (Below.refl _ _) ?_
            · exact yields_build_run (by rfl) 61 _ (by rfl) #[(0, .string tj), (1, .string cu), (2, .int .i64 sj)] (by simp [Act.eval]) (fun w' _ => ag_build_ln _ _ _ w')
            simp only [Act.put, List.getElem_toArray, List.getElem_cons_succ, List.getElem_cons_zero, List.setIfInBounds_toArray, List.set_cons_zero, List.set_cons_succ]
            clear HCell
            refine L_one (i := 14) (by kernel_rfl) ?_
            refine wpOp_step rfl ?_
            intro K hK
            rw [if_pos (by rfl)]
            have hK' : Shut (∀ a w, _ → K a w) := hK
            clear hK
            go_wp2_with fail
            refine hK'.out _ _ ?_
            clear hK' K
            refine ⟨hbA, ?_⟩
            try simp only [Act.put, List.getElem_toArray, List.getElem_cons_succ, List.getElem_cons_zero, List.setIfInBounds_toArray, List.set_cons_zero, List.set_cons_succ]
            refine L_go (by kernel_rfl) (by kernel_rfl) ?_
            refine wpOp_step rfl (fun K hK => ?_)
            refine step_append_lies _ rfl (.tmp 99) (.tmp 112) 57 rfl (BE + 1) 61 n0 (.agg #[.string ByteArray.empty, .string ByteArray.empty, .int .i64 0]) 3 40 Tryz.underlying57 ni nz0 nz1 nz2 rfl (Nat.zero_lt_succ _) (.slice a1 n1 c1) n1 (lnRow (gq has j)) rfl HRow.out ⟨U.heap.size, 0, none⟩ 1 1 [.string tj, .string cu, .int .i64 sj] rfl rfl (World.news_of_block (World.alloc_heap_new U _)) HOne.out (Nat.zero_lt_one) Hm2.out.1 Hm2.out.2 Hs2.out (U.heap.size + 1) HSA.out ?_
            intro g' cap' w6 hown' hgrow hat hlt2
            obtain ⟨hx6, hj6⟩ := HAdd.out g' cap' w6 hown' hgrow hat hlt2
            have HJ6 : Hid (∃ x1 x2 x3, AgIn wa W8 (w6.setCell ⟨BE, 3, none⟩ (.slice (some ⟨g', 0, none⟩) (n1 + 1) cap')) BE gs rf en pe x1 x2 x3 (gq has (j + 1))) := ⟨_, _, _, hj6⟩
            have cx := hx6.c3
            have fx := hx6.fz 3
            refine hK _ _ ?_
            clear hK K hown' hgrow hat hlt2 hx6 hj6 HAdd HRow HOne Hm2 Hs2 HSA hbA
            refine wpAny_take (i := 16) (v := .pointer (some ⟨BE, 3, none⟩)) rfl (by kernel_rfl) (by kernel_rfl) (by kernel_rfl) (fun _ _ _ h => h) (Or.inl ⟨by rfl, fun w => by go_simp⟩) ?_
            simp only [Act.put, List.getElem_toArray, List.getElem_cons_succ, List.getElem_cons_zero, List.setIfInBounds_toArray, List.set_cons_zero, List.set_cons_succ]
            refine any_one (i := 17) (by kernel_rfl) ?_
            refine wpOp_step rfl ?_
            intro K hK
            rw [if_pos (by rfl)]
            have hK' : Shut (∀ a w, _ → K a w) := hK
            clear hK
            go_wp2_with fail
            refine hK'.out _ _ ?_
            clear hK' K
            refine wpAny_done (by kernel_rfl) ?_ _
            go_wp2
            go_roundw
            case rel => exact ⟨j + 1, by omega, by go_num, HJ6⟩
            case measure => simp [RowKit.intOf]; omega
        · obtain rfl : j = tos.length := by omega
          rw [HGq2.out] at J
          clear HJ1
          have m1 : ¬ (tos.length : Int) < tos.length := by omega
          have y0 := J.box.c0
          have y1 := J.box.c1
          have y2 := J.box.c2
          have y3 := J.box.c3
          obtain ⟨k1, k2, _, _⟩ := HKq.out wr J.bel
          have hn1 := J.len
          have HAdd : Hid (∀ v' w6, World.ownsRow w6 w.heap.size 59 4 v' (L.length + 1) (jeRow L ++ [.string rf, .int .i64 en, .int .i64 pe, .slice a1 n1 c1]) → (wr.alloc (.cells #[.string rf, .int .i64 en, .int .i64 pe, .slice a1 n1 c1] 59)).grownBy w6 (Value.slice av L.length cv).ownBlock → (Made w6 w.heap.size v' (L ++ [Je.mk rf en pe a1 c1 (gl has)]) ∧ (L ++ [Je.mk rf en pe a1 c1 (gl has)]).map Je.ep = alTo en pe b l (k + 1) ∧ (L ++ [Je.mk rf en pe a1 c1 (gl has)]).length ≤ k + 1) ∧ Below w.heap.size w w6) := fun v' w6 h1 h2 => by
            obtain ⟨e1, e2, e3⟩ := HM.out
            have z2 := k1.alloc k1.size (.cells #[.string rf, .int .i64 en, .int .i64 pe, .slice a1 n1 c1] 59)
            have z3 : Below wr.heap.size wr (wr.alloc (.cells #[.string rf, .int .i64 en, .int .i64 pe, .slice a1 n1 c1] 59)) := (Below.refl _ wr).alloc (Nat.le_refl _) _
            have m4 := (e1.below k2).below z3
            have hr9 : LnRow wr w.heap.size (.slice a1 (gl has).length c1) (gl has) := by
              have := J.row
              rw [hn1] at this
              exact this.mono (by have := (HKq.out wa (Below.refl _ _)).1.size; omega)
            have hcl : (Je.mk rf en pe a1 c1 (gl has)).cells.toList = [.string rf, .int .i64 en, .int .i64 pe, .slice a1 n1 c1] := by unfold Je.cells; simp only [hn1]
            refine ⟨⟨m4.add (x := Je.mk rf en pe a1 c1 (gl has)) (hr9.below z3) (by rw [hcl]; exact h1) h2, ?_, ?_⟩, z2.grown h2 z2.size fun i e => e1.row.own i e⟩
            · rw [List.map_append, e2, HP2.out]; rfl
            · rw [List.length_append]; simp; exact e3
          have HRow : Hid (World.ownsRow (wr.alloc (.cells #[.string rf, .int .i64 en, .int .i64 pe, .slice a1 n1 c1] 59)) w.heap.size 59 4 (.slice av L.length cv) L.length (jeRow L)) := World.ownsRow.alloc (HM.out.1.below k2).row _
          have s2 : Hid (L.length + 1 ≤ maxLen ∧ (L.length + 1) * 56 ≤ 140737488355328) := by
            have := HM.out.2.2
            unfold Hid maxLen; omega
          have s4 : Hid (w.heap.size ≤ (wr.alloc (.cells #[.string rf, .int .i64 en, .int .i64 pe, .slice a1 n1 c1] 59)).heap.size) := by
            have z1 := k1.size
            unfold Hid; simp; omega
          have HOne : Hid (∀ u ∈ ([.string rf, .int .i64 en, .int .i64 pe, .slice a1 n1 c1] : List Value), u.oneCell' = true) := by intro u hu; simp at hu; rcases hu with rfl | rfl | rfl | rfl <;> rfl
          clear HM k1 k2 J HKq hn1
          go_wp2_with (at_builtin; refine wpList_append_own _ rfl _ _ 30 rfl w.heap.size 59 i0 (.agg #[.string ByteArray.empty, .int .i64 0, .int .i64 0, .slice none 0 0]) 4 56 Tryz.underlying30 hi hz0 hz1 hz2 rfl (by decide) _ _ _ rfl HRow.out ⟨wr.heap.size, 0, none⟩ 1 1 [.string rf, .int .i64 en, .int .i64 pe, .slice a1 n1 c1] rfl rfl (World.news_of_block (World.alloc_heap_new wr _)) HOne.out s2.out.1 s2.out.2 s4.out ?_)
          intro v' w6 hown' hgrow _
          obtain ⟨hm6, hb6⟩ := HAdd.out v' w6 hown' hgrow
          have HM6 : Hid _ := hm6
          have HB6 : Hid (Below w.heap.size w w6) := hb6
          clear hown' hgrow hm6 hb6 HAdd HRow
          go_wp2
          go_roundw
          case rel => exact ⟨k + 1, _, by omega, by go_num, HM6, HN, HB6⟩
          case measure => simp [RowKit.intOf]; omega
    · have ek : k = l.length := by omega
      subst ek
      obtain ⟨m1, m2, m3⟩ := HM.out
      have HE : Hid (RgEnd c l b en pe w (.returned (.tuple #[.slice av L.length cv, .int .i64 0])) wr) := HOk.out _ L wr (by rw [HB0.out, H0.out]) HB.out m1 m2
      have j1 : ¬ (l.length : Int) < l.length := by omega
      clear m1 m2 m3 HM HErr HOk HPo HPs HBl
      go_wp2
      go_ret2
      exact HE.out
end Go.Proofs.YtiolkeipgpkbmaaGreatDoor

namespace Go.Proofs.YtiolkeipgpkbmaaGreatDoor
set_option linter.unusedVariables false
set_option linter.unusedSimpArgs false
set_option maxRecDepth 100000
open Go.RowKit

theorem line_struct : Tryz.prog.underlying 61 = some (.struct (Tryz.prog.fieldsOf 61)) := by kernel_rfl
theorem line_stood : Tryz.prog.stoodInHeld 61 = false := by kernel_rfl

theorem line_same (x0 x1 : ByteArray) (x2 : Int) (W : World) : (binOp .neq 61 (.agg #[.string x0, .string x1, .int .i64 x2]) (.agg #[.string x0, .string x1, .int .i64 x2])).run Tryz.prog W = .ok (.bool false) W := by
  rw [run_neq_struct, show (10000 : Nat) = 9998 + 1 + 1 from rfl, run_equalIn_agg W (9998 + 1) 61 _ _ line_struct line_stood]
  unfold Program.fieldsOf
  rw [Tryz.underlying61]
  simp [Op.eqFields, part, go_sem, run_equalIn_string W 9998 9 _ _ Tryz.underlying9, run_equalIn_int W 9998 3 .i64 .i64 _ _ Tryz.underlying3, Tryz.isAgg9, Tryz.isAgg3]

set_option maxHeartbeats 1000000 in
theorem sameLines_any (a1 a2 : Option Addr) (c1 c2 : Nat) (l : List Ln) (w : World) (hlen : l.length ≤ 1000) (h1 : IsLn w a1 l c1) (h2 : IsLn w a2 l c2) :
    Calls Tryz.prog 59 #[.slice a1 l.length c1, .slice a2 l.length c2] w fun e w' => e = .returned (.bool true) ∧ Below w.heap.size w w' := by
  have Hlen : (l.length : Int) ≤ 1000 := by omega
  have H1 : Hid (l = [] ∨ _) := h1.lies
  have H2 : Hid (l = [] ∨ _) := h2.lies
  clear h1 h2
  have hS := line_same
  go_enter Tryz.func59, Tryz.ntmps59
  go_wp2
  go_loopw [5] (fun i wr => ∃ k : Nat, k ≤ l.length ∧ i = .int .i64 k ∧ ∃ n, wr = w.drewN n) (fun i _ => l.length - (RowKit.intOf i).toNat)
  case atStart => exact ⟨0, Nat.zero_le _, rfl, 0, rfl⟩
  case round =>
    obtain ⟨k, hk, rfl, nd, rfl⟩ := hrel
    by_cases hlt : k < l.length
    · rcases H1.out with h | ⟨g1, o1, rfl, _, q1⟩
      · rw [h] at hlt; simp at hlt
      rcases H2.out with h | ⟨g2, o2, rfl, _, q2⟩
      · rw [h] at hlt; simp at hlt
      have d1 := q1 k hlt
      have d2 := q2 k hlt
      clear q1 q2 H1 H2
      generalize l.getD k ln0 = x at *
      obtain ⟨x0, x1, x2⟩ := x
      obtain ⟨e0, e1, e2⟩ := d1
      obtain ⟨f0, f1, f2⟩ := d2
      simp only at e0 e1 e2 f0 f1 f2
      have i0 : (0 : Int) ≤ k := by omega
      have i1 : (k : Int) < l.length := by omega
      go_wp2_with fail
      go_quiet (fail)
      go_wp2
      go_roundw
      case rel => exact ⟨k + 1, by omega, by go_num, _, rfl⟩
      case measure => simp [RowKit.intOf]; omega
    · have hk2 : k = l.length := by omega
      subst hk2
      go_wp2
      go_ret
      exact ⟨rfl, en_drewN (Below.refl _ _) _⟩

set_option maxHeartbeats 1000000 in
theorem sameEntry_any (r : ByteArray) (en pe : Int) (a1 a2 : Option Addr) (c1 c2 : Nat) (l : List Ln) (w : World) (hlen : l.length ≤ 1000) (h1 : IsLn w a1 l c1) (h2 : IsLn w a2 l c2) :
    Calls Tryz.prog 28 #[.agg #[.string r, .int .i64 en, .int .i64 pe, .slice a1 l.length c1], .agg #[.string r, .int .i64 en, .int .i64 pe, .slice a2 l.length c2]] w fun e w' => e = .returned (.bool true) ∧ Below w.heap.size w w' := by
  have b0 : Below w.heap.size w ((w.alloc (.cells #[.string r, .int .i64 en, .int .i64 pe, .slice a1 l.length c1] 59)).alloc (.cells #[.string r, .int .i64 en, .int .i64 pe, .slice a2 l.length c2] 59)) := ((Below.refl _ w).alloc (Nat.le_refl _) _).alloc (by simp) _
  have x1 := (Box4.new w r en pe (.slice a1 l.length c1)).alloc (.cells #[.string r, .int .i64 en, .int .i64 pe, .slice a2 l.length c2] 59)
  have x2 := Box4.new (w.alloc (.cells #[.string r, .int .i64 en, .int .i64 pe, .slice a1 l.length c1] 59)) r en pe (.slice a2 l.length c2)
  rw [World.size_alloc] at x2
  have hs0 : ((w.alloc (.cells #[.string r, .int .i64 en, .int .i64 pe, .slice a1 l.length c1] 59)).alloc (.cells #[.string r, .int .i64 en, .int .i64 pe, .slice a2 l.length c2] 59)).heap.size = w.heap.size + 2 := by simp
  have hL := sameLines_any a1 a2 c1 c2 l _ hlen (h1.below b0) (h2.below b0)
  have HL : Hid (Calls _ _ _ _ _) := hL
  clear hL h1 h2
  go_enter Tryz.func28, Tryz.ntmps28
  go_wp2_with fail
  refine HL.out.mono ?_
  rintro e w1 ⟨rfl, hb1⟩
  rw [hs0] at hb1
  have B1 := b0.trans (hb1.mono (by omega))
  have y1 := x1.below hb1 (by omega)
  have y2 := x2.below hb1 (by omega)
  have d0 := y1.c0
  have d1 := y1.c1
  have d2 := y1.c2
  have e0 := y2.c0
  have e1 := y2.c1
  have e2 := y2.c2
  clear HL hb1 x1 x2 y1 y2 b0 hs0
  go_wp2
  go_ret
  exact ⟨rfl, B1⟩
end Go.Proofs.YtiolkeipgpkbmaaGreatDoor

namespace Go.Proofs.YtiolkeipgpkbmaaGreatDoor
set_option linter.unusedVariables false
set_option linter.unusedSimpArgs false
set_option maxRecDepth 100000
open Go.RowKit Go.Lib

theorem ep_at {L1 L2 : List Je} (h : L1.map Je.ep = L2.map Je.ep) {k : Nat} (hk : k < L1.length) : (L1.getD k je0).ep = (L2.getD k je0).ep := by
  have hl : L1.length = L2.length := by have := congrArg List.length h; simpa using this
  have := congrArg (fun l => l[k]?) h
  simp only [List.getElem?_map, List.getElem?_eq_getElem hk, List.getElem?_eq_getElem (by omega : k < L2.length), Option.map_some, Option.some.injEq] at this
  rw [List.getD_eq_getElem?_getD, List.getD_eq_getElem?_getD, List.getElem?_eq_getElem hk, List.getElem?_eq_getElem (by omega : k < L2.length)]
  exact this
set_option maxHeartbeats 4000000 in
theorem sameEntries_any (a1 a2 : Option Addr) (c1 c2 : Nat) (L1 L2 : List Je) (w : World) (hlen : L1.length ≤ 1000) (he : L1.map Je.ep = L2.map Je.ep) (hln : ∀ x ∈ L1, x.lns.length ≤ 1000) (h1 : IsJs w a1 L1 c1) (h2 : IsJs w a2 L2 c2) :
    Calls Tryz.prog 9 #[.slice a1 L1.length c1, .slice a2 L2.length c2] w fun e w' => e = .returned (.bool true) ∧ Below w.heap.size w w' := by
  have hl : L2.length = L1.length := by have := congrArg List.length he; simpa using this.symm
  rw [hl]
  have H1 : Hid (IsJs w a1 L1 c1) := h1
  have H2 : Hid (IsJs w a2 L2 c2) := h2
  have HE : Hid (∀ k, k < L1.length → (L1.getD k je0).ep = (L2.getD k je0).ep ∧ (L1.getD k je0).lns.length ≤ 1000) := fun k hk => ⟨ep_at he hk, hln _ (jes_mem L1 k hk)⟩
  have HL : Hid (L2.length = L1.length) := hl
  have hl1 : (L1.length : Int) ≤ 1000 := by omega
  clear h1 h2 he hl hln
  go_enter Tryz.func9, Tryz.ntmps9
  go_wp2
  go_loopw [5] (fun i wr => ∃ k : Nat, k ≤ L1.length ∧ i = .int .i64 k ∧ Hid (Below w.heap.size w wr)) (fun i _ => L1.length - (RowKit.intOf i).toNat)
  case atStart => exact ⟨0, Nat.zero_le _, rfl, Below.refl _ _⟩
  case round =>
    obtain ⟨k, hk, rfl, HB⟩ := hrel
    by_cases hlt : k < L1.length
    · have j1 := H1.out.below HB.out
      have j2 := H2.out.below HB.out
      rcases j1.lies with h0 | ⟨b1, o1, e1, hb1, hat1⟩
      · rw [h0] at hlt; simp at hlt
      rcases j2.lies with h0 | ⟨b2, o2, e2, hb2, hat2⟩
      · rw [← HL.out, h0] at hlt; simp at hlt
      subst e1
      subst e2
      have y1 := hat1 k hlt
      have y2 := hat2 k (by rw [HL.out]; exact hlt)
      have l1 := j1.lns _ (jes_mem L1 k hlt)
      have l2 := j2.lns _ (jes_mem L2 k (by rw [HL.out]; exact hlt))
      obtain ⟨hee, hll⟩ := HE.out k hlt
      clear hat1 hat2 j1 j2
      generalize L1.getD k je0 = x at *
      generalize L2.getD k je0 = y at *
      obtain ⟨x0, x1, x2, x3, x4, x5⟩ := x
      obtain ⟨y0, y1', y2', y3, y4, y5⟩ := y
      simp only [Je.ep, Ep.mk.injEq] at hee
      obtain ⟨rfl, rfl, rfl, rfl⟩ := hee
      obtain ⟨d0, d1, d2, d3⟩ := y1
      obtain ⟨f0, f1, f2, f3⟩ := y2
      simp only at d0 d1 d2 d3 f0 f1 f2 f3 l1 l2 hll
      have HS : Hid (∀ W, Below wr.heap.size wr W → Calls Tryz.prog 28 #[.agg #[.string x0, .int .i64 x1, .int .i64 x2, .slice x3 x5.length x4], .agg #[.string x0, .int .i64 x1, .int .i64 x2, .slice y3 x5.length y4]] W fun e w' => e = .returned (.bool true) ∧ Below w.heap.size w w') := fun W hW => by
        refine (sameEntry_any x0 x1 x2 x3 y3 x4 y4 x5 W hll (l1.below hW) (l2.below hW)).mono ?_
        rintro e w' ⟨rfl, hb⟩
        have z := HB.out.trans (hW.mono HB.out.size)
        exact ⟨rfl, z.trans (hb.mono z.size)⟩
      have i0 : (0 : Int) ≤ k := by omega
      have i1 : (k : Int) < L1.length := by omega
      clear l1 l2
      go_wp2_with fail
      go_region_with (go_at_call 28; refine (HS.out _ (by first | exact Below.refl _ _ | exact (Below.refl _ _).drew | exact en_drewN (Below.refl _ _) _)).mono ?_; rintro e w2 ⟨rfl, hb2⟩)
      all_goals
        have HB2 : Hid (Below w.heap.size w w2) := hb2
        clear hb2 HS d0 d1 d2 d3 f0 f1 f2 f3
        go_wp2
        go_roundw
        case rel => exact ⟨k + 1, by omega, by go_num, HB2⟩
        case measure => simp [RowKit.intOf]; omega
    · have ek : k = L1.length := by omega
      subst ek
      have i1 : ¬ (L1.length : Int) < L1.length := by omega
      go_wp2
      go_ret
      exact ⟨rfl, HB.out⟩
end Go.Proofs.YtiolkeipgpkbmaaGreatDoor
