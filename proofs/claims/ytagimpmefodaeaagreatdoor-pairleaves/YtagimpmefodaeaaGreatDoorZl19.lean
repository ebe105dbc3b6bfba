/-
  The contract of dayref2.Eliminate (by wip/tools/genpl3.py).
-/
import Derived.Test.YtagimpmefodaeaaGreatDoorZl12
import Derived.Test.YtagimpmefodaeaaGreatDoorZl15
import Derived.Test.YtagimpmefodaeaaGreatDoorZl18
import Derived.Test.YtagimpmefodaeaaGreatDoorZl9
namespace Go.Proofs.YtagimpmefodaeaaGreatDoor
set_option linter.unusedVariables false
set_option linter.unusedSimpArgs false
set_option maxRecDepth 100000
open Go.RowKit Go.Lib

/-- What the reference leaves. -/
def RlEnd (c : List Ac) (l : List Pr) (b : List Bl) (cur : ByteArray) (pe : Int) (w : World) (e : Ending) (w' : World) : Prop :=
  Below w.heap.size w w' ∧ (peBad c l b cur pe ≠ 0 → e = .returned (.tuple #[.slice none 0 0, .int .i64 (peBad c l b cur pe)])) ∧
    (peBad c l b cur pe = 0 → ∃ v L, e = .returned (.tuple #[v, .int .i64 0]) ∧ Made w' w.heap.size v L ∧ L.map Je.ep = peTo b cur pe l (l.length * 2))
theorem pl_build_ln (x0 x1 : ByteArray) (x2 : Int) (w : World) : (Instr.build 75 #[(0, .string x0), (1, .string x1), (2, .int .i64 x2)]).run Tryz.prog w = .ok (.agg #[.string x0, .string x1, .int .i64 x2]) w := by
  go_simp
theorem pl_snoc (l : List Ln) (x : Ln) : lnRow (l ++ [x]) = lnRow l ++ [.string x.acc, .string x.cur, .int .i64 x.amt] := by
  unfold lnRow
  rw [List.flatMap_append]
  simp [Ln.cells]
set_option maxHeartbeats 16000000 in
theorem refElim_any (a a2 a3 : Option Addr) (cap cap2 cap3 : Nat) (c : List Ac) (l : List Pr) (b : List Bl) (cur : ByteArray) (pe : Int) (w : World) (h : IsSl w a c cap) (hok : ∀ k, k < c.length → (c.getD k ac0).code.size ≤ maxLen ∧ (c.getD k ac0).name.size ≤ maxLen) (hl : IsPr w a2 l cap2) (hll : l.length ≤ 9223372036854775807) (hb : IsBl w a3 b cap3) (hbl : b.length ≤ 9223372036854775807) :
    Calls Tryz.prog 10 #[.slice a c.length cap, .slice a2 l.length cap2, .slice a3 b.length cap3, .string cur, .int .i64 pe] w (RlEnd c l b cur pe w) := by
  have HErr : Hid (∀ z W, z ≠ 0 → peBad c l b cur pe = z → Below w.heap.size w W → RlEnd c l b cur pe w (.returned (.tuple #[.slice none 0 0, .int .i64 z])) W) := fun z W h0 h1 h2 => by
    refine ⟨h2, fun _ => by rw [h1], fun e => absurd (h1.symm.trans e) h0⟩
  have HOk : Hid (∀ v L W, peBad c l b cur pe = 0 → Below w.heap.size w W → Made W w.heap.size v L → L.map Je.ep = peTo b cur pe l (l.length * 2) → RlEnd c l b cur pe w (.returned (.tuple #[v, .int .i64 0])) W) := fun v L W h1 h2 h3 h4 =>
    ⟨h2, fun h0 => absurd h1 h0, fun _ => ⟨v, L, rfl, h3, h4⟩⟩
  have HC : Hid (Calls _ _ _ _ _) := refPairs_any a a2 cap cap2 c l w h hok hl hll
  by_cases c1 : prsBad c l ≠ 0
  · have HE : Hid (∀ W, Below w.heap.size w W → RlEnd c l b cur pe w (.returned (.tuple #[.slice none 0 0, .int .i64 (prsBad c l)])) W) := fun W hW => HErr.out _ W c1 (by unfold peBad; rw [if_pos c1]) hW
    have c1' : (prsBad c l == 0) = false := by rw [beq_eq_false_iff_ne]; exact c1
    clear h hl hb HErr HOk
    generalize prsBad c l = z at *
    go_enter Tryz.func10, Tryz.ntmps10
    go_wp2_with fail
    refine HC.out.mono ?_
    rintro e w1 ⟨rfl, hb1⟩
    have HB1 : Hid (Below w.heap.size w w1) := hb1
    clear hb1 HC
    go_wp2
    go_ret2
    exact HE.out _ HB1.out
  have c1' := Decidable.of_not_not c1
  rw [c1'] at HC
  have l20 := (prsBad_ok c1').2.1
  have HLe : Hid (∀ W, Below w.heap.size w W → Calls Tryz.prog 7 #[.slice a2 l.length cap2, .slice a3 b.length cap3, .string cur] W fun e w' => ∃ va vn vc, e = .returned (.tuple #[.slice va vn vc, .int .i64 (lfE l b cur)]) ∧ Below w.heap.size w w') := fun W hW => by
    refine (refLeft_any a2 a3 cap2 cap3 l b cur W (hl.below hW) hll (hb.below hW) hbl).mono ?_
    rintro e w' ⟨v, rfl, hb1, a', c', rfl, _⟩
    exact ⟨_, _, _, rfl, hW.trans (hb1.mono hW.size)⟩
  by_cases c2 : lfE l b cur ≠ 0
  · have HE : Hid (∀ W, Below w.heap.size w W → RlEnd c l b cur pe w (.returned (.tuple #[.slice none 0 0, .int .i64 (lfE l b cur)])) W) := fun W hW => HErr.out _ W c2 (by unfold peBad; rw [if_neg c1, if_pos c2]) hW
    have c2' : (lfE l b cur == 0) = false := by rw [beq_eq_false_iff_ne]; exact c2
    clear h hl hb HErr HOk
    generalize lfE l b cur = z at *
    go_enter Tryz.func10, Tryz.ntmps10
    go_wp2_with fail
    refine HC.out.mono ?_
    rintro e w1 ⟨rfl, hb1⟩
    go_wp2_with fail
    refine (HLe.out w1 hb1).mono ?_
    rintro e w2 ⟨va, vn, vc, rfl, hb2⟩
    have HB1 : Hid (Below w.heap.size w w2) := hb2
    clear hb1 hb2 HLe HC
    go_wp2
    go_ret2
    exact HE.out _ HB1.out
  have c2' := Decidable.of_not_not c2
  rw [c2'] at HLe
  have HPe : Hid (∀ W, Calls Tryz.prog 29 #[.int .i64 pe] W fun e w' => e = .returned (.bool (upTo pe 120)) ∧ w' = W) := fun W => period_any pe W
  cases c3 : upTo pe 120
  · have HE : Hid (∀ W, Below w.heap.size w W → RlEnd c l b cur pe w (.returned (.tuple #[.slice none 0 0, .int .i64 1])) W) := fun W hW => HErr.out _ W (by decide) (by unfold peBad; rw [if_neg c1, if_neg c2, if_pos c3]) hW
    rw [c3] at HPe
    clear h hl hb HErr HOk
    go_enter Tryz.func10, Tryz.ntmps10
    go_wp2_with fail
    refine HC.out.mono ?_
    rintro e w1 ⟨rfl, hb1⟩
    go_wp2_with fail
    refine (HLe.out w1 hb1).mono ?_
    rintro e w2 ⟨va, vn, vc, rfl, hb2⟩
    have HB1 : Hid (Below w.heap.size w w2) := hb2
    clear hb1 hb2 HLe HC
    go_wp2_with fail
    refine (HPe.out _).mono ?_
    rintro e w' ⟨rfl, hw⟩
    rw [hw]; clear hw w' HPe
    go_wp2
    go_ret2
    exact HE.out _ HB1.out
  rw [c3] at HPe
  have HB0 : Hid (peBad c l b cur pe = firstTo (peAt b cur l) (l.length * 2)) := by unfold peBad; rw [if_neg c1, if_neg c2, c3, if_neg (by simp)]; exact rfl
  have HPr : Hid (IsPr w a2 l cap2) := hl
  have HGe : Hid (∀ en acc W, Below w.heap.size w W → Calls Tryz.prog 24 #[.slice a3 b.length cap3, .int .i64 en, .string acc, .string cur] W fun e w' => e = .returned (.int .i64 (getB b en acc cur)) ∧ w' = W) := fun en acc W hW => refGet_any a3 cap3 b en acc cur W (by omega) (hb.below hW)
  have HAm : Hid (∀ (x : Int) W, Calls Tryz.prog 30 #[.int .i64 x] W fun e w' => e = .returned (.bool (isAmtB x)) ∧ w' = W) := fun x W => refAmount_any x W
  obtain ⟨i0, hi, hz0, hz1, hz2⟩ := info_parts je_info
  obtain ⟨n0, ni, nz0, nz1, nz2⟩ := info_parts ln_info
  have l20i : (l.length : Int) ≤ 20 := by omega
  clear h hl hb hll c1 c1' c2 c2' c3 hok
  go_enter Tryz.func10, Tryz.ntmps10
  go_wp2_with fail
  refine HC.out.mono ?_
  rintro e w1 ⟨rfl, hb1⟩
  go_wp2_with fail
  refine (HLe.out w1 hb1).mono ?_
  rintro e w2 ⟨va, vn, vc, rfl, hb2⟩
  have HB2 : Hid (Below w.heap.size w w2) := hb2
  clear hb1 hb2 HLe HC
  go_wp2_with fail
  refine (HPe.out _).mono ?_
  rintro e w' ⟨rfl, hw⟩
  rw [hw]; clear hw w' HPe
  go_wp2
  go_loopw [14, 15] (fun v i wr => ∃ (k : Nat) (L : List Je), k ≤ l.length ∧ i = .int .i64 k ∧ Hid (Made wr w.heap.size v L ∧ L.map Je.ep = peTo b cur pe l (k * 2) ∧ L.length ≤ k * 2) ∧ Hid (firstTo (peAt b cur l) (k * 2) = 0) ∧ Hid (Below w.heap.size w wr)) (fun _ i _ => l.length - (RowKit.intOf i).toNat)
  case atStart => exact ⟨0, [], Nat.zero_le _, rfl, ⟨Made.nil _ _, rfl, Nat.le_refl _⟩, rfl, HB2⟩
  case round =>
    obtain ⟨k, L, hk, rfl, HM, H0, HB⟩ := hrel
    obtain ⟨av, cv, ev, _⟩ := HM.out.1.isJs
    subst ev
    by_cases hkn : k < l.length
    · obtain ⟨bb, off, e, hblt, hcc⟩ := HPr.out.some hkn
      subst e
      have HCs : Hid (∀ W, Below w.heap.size w W → PrAt W bb (off + k * 5) (l.getD k pr0)) := fun W hW => (hcc k hkn).below hW hblt
      obtain ⟨p, hp⟩ : ∃ p, l.getD k pr0 = p := ⟨_, rfl⟩
      have HLk : Hid (l.getD k pr0 = p) := hp
      rw [hp] at HCs
      have HM5 : Hid (Made wr w.heap.size (.slice av L.length cv) L ∧ L.map Je.ep = peTo b cur pe l (k * 2 + 0) ∧ L.length ≤ k * 2 + 0) := HM
      have H05 : Hid (firstTo (peAt b cur l) (k * 2 + 0) = 0) := H0
      clear hcc hp HM H0
      obtain ⟨x0, x1, x2, x3, x4⟩ := p
      have j0 : (0 : Int) ≤ k := by omega
      have j1 : (k : Int) < l.length := by omega
      go_wp2
      go_loopw [14, 16] (fun v j wr => ∃ (q : Nat) (L : List Je), q ≤ 2 ∧ j = .int .i64 q ∧ Hid (Made wr w.heap.size v L ∧ L.map Je.ep = peTo b cur pe l (k * 2 + q) ∧ L.length ≤ k * 2 + q) ∧ Hid (firstTo (peAt b cur l) (k * 2 + q) = 0) ∧ Hid (Below w.heap.size w wr)) (fun _ j _ => 2 - (RowKit.intOf j).toNat)
      case atStart => exact ⟨0, L, by omega, rfl, HM5, H05, HB⟩
      case round =>
      obtain ⟨q, L, hq, rfl, HM, H0, HB⟩ := hrel
      clear HM5 H05
      rcases (by omega : q = 0 ∨ q = 1 ∨ q = 2) with rfl | rfl | rfl
      · have HI : Hid (phas b cur l (k * 2 + 0) = getB b x0 x2 cur) := by unfold phas; rw [(psd_even l k).2, HLk.out]; exact rfl
        have HPd : Hid ((psd l (k * 2 + 0)) = ⟨x0, x2⟩ ∧ (pdA l (k * 2 + 0)).dif = x4) := by rw [(psd_even l k).1, (psd_even l k).2, HLk.out]; exact ⟨rfl, rfl⟩
        have HG : Hid (Calls _ _ _ _ _) := HGe.out x0 x2 wr HB.out
        generalize getB b x0 x2 cur = n at *
        have HEq : Hid (peE b cur pe l (k * 2 + 0) = if n = 0 then [] else [⟨refP k 0, x0, pe, mvL n cur x2 x4⟩]) := by
          unfold peE
          rw [HI.out, HPd.out.1, HPd.out.2, show (k * 2 + 0) / 2 = k by omega, show (k * 2 + 0) % 2 = 0 by omega]
          exact rfl
        have HAt : Hid (peAt b cur l (k * 2 + 0) = if isAmtB n = true then 0 else 1) := by unfold peAt; rw [HI.out]; exact rfl
        have HNx : Hid (peTo b cur pe l (k * 2 + 0 + 1) = peTo b cur pe l (k * 2 + 0) ++ peE b cur pe l (k * 2 + 0)) := peTo_next b cur pe l _
        have HBd : Hid (peAt b cur l (k * 2 + 0) = 0 → firstTo (peAt b cur l) (k * 2 + 0 + 1) = 0) := fun h => by rw [firstTo_next H0.out, h]
        have HBr : Hid (peAt b cur l (k * 2 + 0) = 1 → peBad c l b cur pe = 1) := fun h => by
          rw [HB0.out, firstTo_first H0.out (by rw [h]; decide) (by omega), h]
        obtain ⟨av, cv, ev, _⟩ := HM.out.1.isJs
        subst ev
        obtain ⟨d0, d1, d2, d3, d4⟩ := HCs.out wr HB.out
        simp only at d0 d1 d2 d3 d4
        clear HI HPd
        go_wp2_with fail
        refine HG.out.mono ?_
        rintro e w' ⟨rfl, hw⟩
        rw [hw]; clear hw w' HG
        clear d0 d1 d2 d3 d4
        by_cases g0 : n = 0
        · have HM2 : Hid (Made wr w.heap.size (.slice av L.length cv) L ∧ L.map Je.ep = peTo b cur pe l (k * 2 + 0 + 1) ∧ L.length ≤ k * 2 + 0 + 1) := by
            obtain ⟨m1, m2, m3⟩ := HM.out
            refine ⟨m1, ?_, by omega⟩
            rw [HNx.out, HEq.out, if_pos g0, List.append_nil, m2]
          have HN : Hid (firstTo (peAt b cur l) (k * 2 + 0 + 1) = 0) := HBd.out (by rw [HAt.out, g0]; exact rfl)
          subst g0
          clear HBd HBr HEq HAt HNx HM HErr HCs
          go_wp2
          go_roundw
          case rel => exact ⟨1, L, by omega, rfl, HM2, HN, HB⟩
          case measure => simp [RowKit.intOf]
        have g0' : (n == 0) = false := by rw [beq_eq_false_iff_ne]; exact g0
        have HA3 : Hid (Calls _ _ _ _ _) := HAm.out n wr
        cases g1 : isAmtB n
        · have HE : Hid (RlEnd c l b cur pe w (.returned (.tuple #[.slice none 0 0, .int .i64 1])) wr) := HErr.out 1 wr (by decide) (HBr.out (by rw [HAt.out, g1]; exact rfl)) HB.out
          rw [g1] at HA3
          clear HBd HBr HEq HAt HNx HM HErr HCs
          go_wp2_with fail
          refine HA3.out.mono ?_
          rintro e w' ⟨rfl, hw⟩
          rw [hw]; clear hw w' HA3
          go_wp2
          go_ret2
          exact HE.out
        rw [g1] at HA3
        have HN : Hid (firstTo (peAt b cur l) (k * 2 + 0 + 1) = 0) := HBd.out (by rw [HAt.out, g1]; exact rfl)
        have HP2 : Hid (peTo b cur pe l (k * 2 + 0 + 1) = peTo b cur pe l (k * 2 + 0) ++ [⟨refP k 0, x0, pe, mvL n cur x2 x4⟩]) := by
          rw [HNx.out, HEq.out, if_neg g0]; exact rfl
        have hamt2 := isAmtB_iff.1 g1
        unfold mostA at hamt2
        have wn : IntKind.i64.wrap (-n) = -n := by
          simp only [IntKind.wrap, IntKind.bits, IntKind.signed]
          simp
          omega
        have HDg : Hid (Calls Tryz.prog 31 #[.int .i64 ((k : Nat) : Int)] wr fun e w' => e = .returned (.string (digS k)) ∧ Below wr.heap.size wr w') := refDig_any k (by omega) wr
        have HRf : Hid (((⟨#[112, 97, 105, 114, 45]⟩ : ByteArray) ++ digS k) ++ ⟨#[97]⟩ = refP k 0) := rfl
        have hab : ∀ W, (Instr.slice 9 (.string ⟨#[97, 98]⟩) (some (.int .i64 0)) (some (.int .i64 1)) none).run Tryz.prog W = .ok (.string ⟨#[97]⟩) W := fun _ => by kernel_rfl
        have hd1 : ¬ 9223372036854775807 < 5 + (digS k).size := by have := digS_two k; omega
        have hd2 : ¬ 9223372036854775807 < 5 + (digS k).size + 1 := by have := digS_two k; omega
        clear HBd HBr HEq HAt HNx g1 hamt2
        go_wp2_with fail
        refine HA3.out.mono ?_
        rintro e w' ⟨rfl, hw⟩
        rw [hw]; clear hw w' HA3
        go_wp2_with fail
        refine HDg.out.mono ?_
        rintro e w4 ⟨rfl, hb4⟩
        have HB4 : Hid (Below wr.heap.size wr w4) := hb4
        clear hb4 HDg
        generalize digS k = ds at *
        obtain ⟨rf, hrf⟩ : ∃ rf, refP k 0 = rf := ⟨_, rfl⟩
        rw [hrf] at HRf HP2
        clear hrf
        obtain ⟨BE, hBE⟩ : ∃ BE, w4.heap.size = BE := ⟨_, rfl⟩
        obtain ⟨W5, hW5⟩ : ∃ W5, w4.alloc (.cells #[.string rf, .int .i64 x0, .int .i64 pe, .slice none 0 0] 73) = W5 := ⟨_, rfl⟩
        have hsw : wr.heap.size ≤ w4.heap.size := HB4.out.size
        have B5 : Below wr.heap.size wr W5 := by rw [← hW5]; exact HB4.out.alloc hsw _
        have hs5 : W5.heap.size = BE + 1 := by rw [← hW5, ← hBE]; simp
        have x5 : Box4 W5 BE rf x0 pe (.slice none 0 0) := by rw [← hW5, ← hBE]; exact Box4.new w4 rf x0 pe _
        have hwB : wr.heap.size ≤ BE := by omega
        have HW5 : Hid (w4.alloc (.cells #[.string rf, .int .i64 x0, .int .i64 pe, .slice none 0 0] 73) = W5) := hW5
        have HBE : Hid (w4.heap.size = BE) := hBE
        have HX5 : Hid (Box4 W5 BE rf x0 pe (.slice none 0 0) ∧ Below wr.heap.size wr W5 ∧ W5.heap.size = BE + 1) := ⟨x5, B5, hs5⟩
        clear hW5 hBE hsw x5 B5 hs5
        go_upto_region 28 with fail
        rw [HRf.out, HW5.out, HBE.out]
        clear HW5 HBE HRf hab hd1 hd2
        have y3 := HX5.out.1.c3
        have HN1 : Hid (LnRow (W5.alloc (.cells #[.string x2, .string cur, .int .i64 (-n)] 75)) (BE + 1) (.slice none 0 0) []) := LnRow.nil _ _
        have HOne1 : Hid (∀ u ∈ ([.string x2, .string cur, .int .i64 (-n)] : List Value), u.oneCell' = true) := by intro u hu; simp at hu; rcases hu with rfl | rfl | rfl <;> rfl
        have Hm1 : Hid (0 + 1 ≤ maxLen ∧ (0 + 1) * 40 ≤ 140737488355328) := by unfold Hid maxLen; omega
        have Hs1 : Hid (BE + 1 ≤ (W5.alloc (.cells #[.string x2, .string cur, .int .i64 (-n)] 75)).heap.size) := by have := HX5.out.2.2; unfold Hid; simp; omega
        go_wp2_with (at_builtin; refine wpList_append_own _ rfl _ _ 71 rfl (BE + 1) 75 n0 (.agg #[.string ByteArray.empty, .string ByteArray.empty, .int .i64 0]) 3 40 Tryz.underlying71 ni nz0 nz1 nz2 rfl (by decide) _ _ _ rfl HN1.out ⟨W5.heap.size, 0, none⟩ 1 1 [.string x2, .string cur, .int .i64 (-n)] rfl rfl (World.news_of_block (World.alloc_heap_new W5 _)) HOne1.out Hm1.out.1 Hm1.out.2 Hs1.out ?_)
        intro v1 W6 hown1 hgrow1 _
        have r1 : LnRow W6 (BE + 1) v1 [⟨x2, cur, -n⟩] := by unfold LnRow; simpa [lnRow, Ln.cells] using hown1
        have x6 : Box4 W6 BE rf x0 pe (.slice none 0 0) := (HX5.out.1.alloc _).grown hgrow1 (fun j e => by simp [Value.ownBlock] at e)
        have B6 : Below wr.heap.size wr W6 := (HX5.out.2.1.alloc HX5.out.2.1.size _).grown hgrow1 (by have := HX5.out.2.1.size; simp; omega) (fun j e => by simp [Value.ownBlock] at e)
        obtain ⟨a1, c1, ev1, _⟩ := r1.isLn
        have ev1' : v1 = .slice a1 1 c1 := ev1
        subst ev1'
        have hsz6 : BE + 1 ≤ W6.heap.size := by have := hgrow1.size; have := Hs1.out; omega
        have HX6 : Hid (Box4 W6 BE rf x0 pe (.slice none 0 0) ∧ Below wr.heap.size wr W6 ∧ LnRow W6 (BE + 1) (.slice a1 1 c1) [⟨x2, cur, -n⟩] ∧ BE + 1 ≤ W6.heap.size) := ⟨x6, B6, r1, hsz6⟩
        clear hown1 hgrow1 HN1 HOne1 Hm1 Hs1 x6 B6 r1 HX5 hsz6 y3 ev1
        have y3 := HX6.out.1.c3
        have z3 := HX6.out.1.fz 3
        obtain ⟨W7, hW7⟩ : ∃ W7, W6.setCell ⟨BE, 3, none⟩ (.slice a1 1 c1) = W7 := ⟨_, rfl⟩
        have HX7 : Hid (Box4 W7 BE rf x0 pe (.slice a1 1 c1) ∧ Below wr.heap.size wr W7 ∧ LnRow W7 (BE + 1) (.slice a1 1 c1) [⟨x2, cur, -n⟩] ∧ BE + 1 ≤ W7.heap.size) := by
          rw [← hW7]
          exact ⟨HX6.out.1.set3 _, HX6.out.2.1.setCell (p := ⟨BE, 3, none⟩) hwB _, HX6.out.2.2.1.setOther (by omega), by have := HX6.out.2.2.2; simp [World.setCell]; exact this⟩
        have HW7 : Hid (W6.setCell ⟨BE, 3, none⟩ (.slice a1 1 c1) = W7) := hW7
        clear hW7 HX6
        go_upto_region 29 with fail
        rw [HW7.out]
        clear HW7 y3 z3
        have hdr : Below W7.heap.size W7 W7.drew := (Below.refl _ W7).drew
        have hBd : Below wr.heap.size wr W7.drew := HX7.out.2.1.drew
        have y3 := HX7.out.1.c3
        have hbe : BE < W7.heap.size := by have := HX7.out.2.2.2; omega
        have HCell : Hid (∀ u, Below W7.drew.heap.size W7.drew u → u.cell? ⟨BE, 3, none⟩ = some (.slice a1 1 c1) ∧ u.cell? ⟨bb, off + k * 5 + 4, none⟩ = some (.string x4)) := fun u hu => by
          have hu2 := hBd.trans (hu.mono hBd.size)
          exact ⟨(hu.cell (p := ⟨BE, 3, none⟩) hbe).trans y3, (HCs.out u (HB.out.trans (hu2.mono HB.out.size))).c4⟩
        have hrowd : LnRow W7.drew (BE + 1) (.slice a1 1 c1) [⟨x2, cur, -n⟩] := HX7.out.2.2.1.below hdr
        have hboxd : Box4 W7.drew BE rf x0 pe (.slice a1 1 c1) := HX7.out.1.below hdr hbe
        have hbed : BE + 1 ≤ W7.drew.heap.size := HX7.out.2.2.2
        have HAdd : Hid (∀ g' cap' w6, World.ownsRow w6 (BE + 1) 75 3 (.slice (some ⟨g', 0, none⟩) (1 + 1) cap') (1 + 1) (lnRow [⟨x2, cur, -n⟩] ++ [.string x4, .string cur, .int .i64 n]) → (W7.drew.alloc (.cells #[.string x4, .string cur, .int .i64 n] 75)).grownBy w6 (Value.slice a1 1 c1).ownBlock → g' < w6.heap.size → Box4 w6 BE rf x0 pe (.slice a1 1 c1) ∧ (Box4 (w6.setCell ⟨BE, 3, none⟩ (.slice (some ⟨g', 0, none⟩) (1 + 1) cap')) BE rf x0 pe (.slice (some ⟨g', 0, none⟩) (1 + 1) cap') ∧ LnRow (w6.setCell ⟨BE, 3, none⟩ (.slice (some ⟨g', 0, none⟩) (1 + 1) cap')) (BE + 1) (.slice (some ⟨g', 0, none⟩) (1 + 1) cap') (mvL n cur x2 x4) ∧ Below wr.heap.size wr (w6.setCell ⟨BE, 3, none⟩ (.slice (some ⟨g', 0, none⟩) (1 + 1) cap')))) := fun g' cap' w6 h1 h2 h4 => by
          have hown := hrowd.own
          have x6 : Box4 w6 BE rf x0 pe (.slice a1 1 c1) := (hboxd.alloc _).grown h2 (fun i e => by have := hown i e; omega)
          have hr6 : LnRow w6 (BE + 1) (.slice (some ⟨g', 0, none⟩) (1 + 1) cap') (mvL n cur x2 x4) := by
            have e : mvL n cur x2 x4 = [⟨x2, cur, -n⟩] ++ [⟨x4, cur, n⟩] := rfl
            rw [e]
            unfold LnRow
            rw [pl_snoc]
            exact h1
          have B6 : Below wr.heap.size wr w6 := (hBd.alloc hBd.size _).grown h2 (by have := hBd.size; simp at this ⊢; omega) (fun i e => by have := hown i e; omega)
          exact ⟨x6, x6.set3 _, hr6.setOther (by omega), B6.setCell (p := ⟨BE, 3, none⟩) hwB _⟩
        have HRow : Hid (World.ownsRow (W7.drew.alloc (.cells #[.string x4, .string cur, .int .i64 n] 75)) (BE + 1) 75 3 (.slice a1 1 c1) 1 (lnRow [⟨x2, cur, -n⟩])) := World.ownsRow.alloc hrowd (.cells #[.string x4, .string cur, .int .i64 n] 75)
        have HOne : Hid (∀ u ∈ ([.string x4, .string cur, .int .i64 n] : List Value), u.oneCell' = true) := by intro u hu; simp at hu; rcases hu with rfl | rfl | rfl <;> rfl
        have Hm2 : Hid (1 + 1 ≤ maxLen ∧ (1 + 1) * 40 ≤ 140737488355328) := by unfold Hid maxLen; omega
        have Hs2 : Hid (BE + 1 ≤ (W7.drew.alloc (.cells #[.string x4, .string cur, .int .i64 n] 75)).heap.size) := by unfold Hid; simp; simp at hbed; omega
        have hbA : Below W7.drew.heap.size W7.drew (W7.drew.alloc (.cells #[.string x4, .string cur, .int .i64 n] 75)) := (Below.refl _ _).alloc (Nat.le_refl _) _
        have hsA : (W7.drew.alloc (.cells #[.string x4, .string cur, .int .i64 n] 75)).heap.size = W7.drew.heap.size + 1 := by simp
        have HSA : Hid ((W7.drew.alloc (.cells #[.string x4, .string cur, .int .i64 n] 75)).heap.size = W7.drew.heap.size + 1) := hsA
        clear hsA hrowd hboxd hbed hdr hBd hbe y3 HX7
        refine wp_region_drawn (by kernel_rfl) ?_
        generalize W7.drew = U at *
        refine wpAny_take (i := 0) (v := .pointer (some ⟨BE, 3, none⟩)) rfl (by kernel_rfl) (by kernel_rfl) (by kernel_rfl) (fun _ _ _ h => h) (Or.inl ⟨by rfl, fun w => by go_simp⟩) ?_
        simp only [Act.put, List.getElem_toArray, List.getElem_cons_succ, List.getElem_cons_zero, List.setIfInBounds_toArray, List.set_cons_zero, List.set_cons_succ]
        refine wpAny_take (i := 2) (v := .slice (some ⟨bb, off, none⟩) l.length cap2) rfl (by kernel_rfl) (by kernel_rfl) (by kernel_rfl) (fun _ _ _ h => h) (Or.inl ⟨by rfl, fun w => by go_simp⟩) ?_
        simp only [Act.put, List.getElem_toArray, List.getElem_cons_succ, List.getElem_cons_zero, List.setIfInBounds_toArray, List.set_cons_zero, List.set_cons_succ]
        refine wpAny_take (i := 3) (v := .int .i64 k) rfl (by kernel_rfl) (by kernel_rfl) (by kernel_rfl) (fun _ _ _ h => h) (Or.inl ⟨by rfl, fun w => by go_simp⟩) ?_
        simp only [Act.put, List.getElem_toArray, List.getElem_cons_succ, List.getElem_cons_zero, List.setIfInBounds_toArray, List.set_cons_zero, List.set_cons_succ]
        refine wpAny_take (i := 4) (v := .pointer (some ⟨bb, off + k * 5, none⟩)) rfl (by kernel_rfl) (by kernel_rfl) (by kernel_rfl) (fun _ _ _ h => h) (Or.inl ⟨by rfl, fun w => by go_simp⟩) ?_
        simp only [Act.put, List.getElem_toArray, List.getElem_cons_succ, List.getElem_cons_zero, List.setIfInBounds_toArray, List.set_cons_zero, List.set_cons_succ]
        refine wpAny_take (i := 5) (v := .pointer (some ⟨bb, off + k * 5 + 4, none⟩)) rfl (by kernel_rfl) (by kernel_rfl) (by kernel_rfl) (fun _ _ _ h => h) (Or.inl ⟨by rfl, fun w => by go_simp⟩) ?_
        simp only [Act.put, List.getElem_toArray, List.getElem_cons_succ, List.getElem_cons_zero, List.setIfInBounds_toArray, List.set_cons_zero, List.set_cons_succ]
        refine wpAny_take (i := 7) (v := .string cur) rfl (by kernel_rfl) (by kernel_rfl) (by kernel_rfl) (fun _ _ _ h => h) (Or.inl ⟨by rfl, fun w => by go_simp⟩) ?_
        simp only [Act.put, List.getElem_toArray, List.getElem_cons_succ, List.getElem_cons_zero, List.setIfInBounds_toArray, List.set_cons_zero, List.set_cons_succ]
        refine wpAny_take (i := 8) (v := .int .i64 n) rfl (by kernel_rfl) (by kernel_rfl) (by kernel_rfl) (fun _ _ _ h => h) (Or.inl ⟨by rfl, fun w => by go_simp⟩) ?_
        simp only [Act.put, List.getElem_toArray, List.getElem_cons_succ, List.getElem_cons_zero, List.setIfInBounds_toArray, List.set_cons_zero, List.set_cons_succ]
        refine any_of_L (g := 11) (T := fun u => Below U.heap.size U u) _ _ _ _ ?_
        refine L_takeC [11] (i := 1) (v := .slice a1 1 c1) rfl (by kernel_rfl) (by kernel_rfl) (by decide) (by kernel_rfl) (by kernel_rfl) (by kernel_rfl) (by kernel_rfl) (fun _ _ _ h => h) (Or.inl ⟨by rfl, fun w' hw' => by have c0 := (HCell.out w' hw').1; clear hw'; go_simp⟩) (Below.refl _ _) ?_
        simp only [Act.put, List.getElem_toArray, List.getElem_cons_succ, List.getElem_cons_zero, List.setIfInBounds_toArray, List.set_cons_zero, List.set_cons_succ]
        refine L_takeC [11, 10, 9] (i := 6) (v := .string x4) rfl (by kernel_rfl) (by kernel_rfl) (by decide) (by kernel_rfl) (by kernel_rfl) (by kernel_rfl) (by kernel_rfl) (fun _ _ _ h => h) (Or.inl ⟨by rfl, fun w' hw' => by have c0 := (HCell.out w' hw').2; clear hw'; go_simp⟩) (Below.refl _ _) ?_
        simp only [Act.put, List.getElem_toArray, List.getElem_cons_succ, List.getElem_cons_zero, List.setIfInBounds_toArray, List.set_cons_zero, List.set_cons_succ]
        refine L_takeC [11, 10] (i := 9) (v := .agg #[.string x4, .string cur, .int .i64 n]) rfl (by kernel_rfl) (by kernel_rfl) (by decide) (by kernel_rfl) (by kernel_rfl) (by kernel_rfl) (by kernel_rfl) (fun _ _ _ h => h) ?_ (Below.refl _ _) ?_
        · exact yields_build_run (by rfl) 75 _ (by rfl) #[(0, .string x4), (1, .string cur), (2, .int .i64 n)] (by simp [Act.eval]) (fun w' _ => pl_build_ln _ _ _ w')
        simp only [Act.put, List.getElem_toArray, List.getElem_cons_succ, List.getElem_cons_zero, List.setIfInBounds_toArray, List.set_cons_zero, List.set_cons_succ]
        clear HCell
        refine L_one (i := 10) (by kernel_rfl) ?_
        refine wpOp_step rfl ?_
        intro K hK
        rw [if_pos (by rfl)]
        have hK' : Shut (∀ a w, _ → K a w) := hK
        clear hK
        go_wp2_with fail
        refine hK'.out _ _ ?_
        clear hK' K
        refine ⟨hbA, ?_⟩
        try simp only [Act.put, List.getElem_toArray, List.getElem_cons_succ, List.getElem_cons_zero, List.setIfInBounds_toArray, List.set_cons_zero, List.set_cons_succ]
        refine L_go (by kernel_rfl) (by kernel_rfl) ?_
        refine wpOp_step rfl (fun K hK => ?_)
        refine step_append_lies _ rfl (.tmp 107) (.tmp 116) 71 rfl (BE + 1) 75 n0 (.agg #[.string ByteArray.empty, .string ByteArray.empty, .int .i64 0]) 3 40 Tryz.underlying71 ni nz0 nz1 nz2 rfl (Nat.zero_lt_succ _) (.slice a1 1 c1) 1 (lnRow [⟨x2, cur, -n⟩]) rfl HRow.out ⟨U.heap.size, 0, none⟩ 1 1 [.string x4, .string cur, .int .i64 n] rfl rfl (World.news_of_block (World.alloc_heap_new U _)) HOne.out (Nat.zero_lt_one) Hm2.out.1 Hm2.out.2 Hs2.out (U.heap.size + 1) HSA.out ?_
        intro g' cap' w6 hown' hgrow hat hlt2
        obtain ⟨hx6, hj6⟩ := HAdd.out g' cap' w6 hown' hgrow hlt2
        have cx := hx6.c3
        have fx := hx6.fz 3
        obtain ⟨W8, hW8⟩ : ∃ W8, w6.setCell ⟨BE, 3, none⟩ (.slice (some ⟨g', 0, none⟩) (1 + 1) cap') = W8 := ⟨_, rfl⟩
        rw [hW8] at hj6
        have HJ6 : Hid (Box4 W8 BE rf x0 pe (.slice (some ⟨g', 0, none⟩) 2 cap') ∧ LnRow W8 (BE + 1) (.slice (some ⟨g', 0, none⟩) 2 cap') (mvL n cur x2 x4) ∧ Below wr.heap.size wr W8) := hj6
        have HW8 : Hid (w6.setCell ⟨BE, 3, none⟩ (.slice (some ⟨g', 0, none⟩) (1 + 1) cap') = W8) := hW8
        refine hK _ _ ?_
        clear hK K hown' hgrow hat hlt2 hx6 hj6 HAdd HRow HOne Hm2 Hs2 HSA hbA hW8
        refine wpAny_take (i := 12) (v := .pointer (some ⟨BE, 3, none⟩)) rfl (by kernel_rfl) (by kernel_rfl) (by kernel_rfl) (fun _ _ _ h => h) (Or.inl ⟨by rfl, fun w => by go_simp⟩) ?_
        simp only [Act.put, List.getElem_toArray, List.getElem_cons_succ, List.getElem_cons_zero, List.setIfInBounds_toArray, List.set_cons_zero, List.set_cons_succ]
        refine any_one (i := 13) (by kernel_rfl) ?_
        refine wpOp_step rfl ?_
        intro K hK
        rw [if_pos (by rfl)]
        have hK' : Shut (∀ a w, _ → K a w) := hK
        clear hK
        go_wp2_with fail
        refine hK'.out _ _ ?_
        clear hK' K
        refine wpAny_done (by kernel_rfl) ?_ _
        try rw [HW8.out]
        clear HW8 cx fx
        obtain ⟨y0, y1, y2, y3⟩ : W8.cell? ⟨BE, 0, none⟩ = some (.string rf) ∧ W8.cell? ⟨BE, 1, none⟩ = some (.int .i64 x0) ∧ W8.cell? ⟨BE, 2, none⟩ = some (.int .i64 pe) ∧ W8.cell? ⟨BE, 3, none⟩ = some (.slice (some ⟨g', 0, none⟩) 2 cap') := ⟨HJ6.out.1.c0, HJ6.out.1.c1, HJ6.out.1.c2, HJ6.out.1.c3⟩
        have HAdd : Hid (∀ v' w6, World.ownsRow w6 w.heap.size 73 4 v' (L.length + 1) (jeRow L ++ [.string rf, .int .i64 x0, .int .i64 pe, .slice (some ⟨g', 0, none⟩) 2 cap']) → (W8.alloc (.cells #[.string rf, .int .i64 x0, .int .i64 pe, .slice (some ⟨g', 0, none⟩) 2 cap'] 73)).grownBy w6 (Value.slice av L.length cv).ownBlock → (Made w6 w.heap.size v' (L ++ [Je.mk rf x0 pe (some ⟨g', 0, none⟩) cap' (mvL n cur x2 x4)]) ∧ (L ++ [Je.mk rf x0 pe (some ⟨g', 0, none⟩) cap' (mvL n cur x2 x4)]).map Je.ep = peTo b cur pe l (k * 2 + 0 + 1) ∧ (L ++ [Je.mk rf x0 pe (some ⟨g', 0, none⟩) cap' (mvL n cur x2 x4)]).length ≤ k * 2 + 0 + 1) ∧ Below w.heap.size w w6) := fun v' w6 h1 h2 => by
          obtain ⟨e1, e2, e3⟩ := HM.out
          have k2 := HJ6.out.2.2
          have k1 := HB.out.trans (k2.mono HB.out.size)
          have z2 := k1.alloc k1.size (.cells #[.string rf, .int .i64 x0, .int .i64 pe, .slice (some ⟨g', 0, none⟩) 2 cap'] 73)
          have z3 : Below W8.heap.size W8 (W8.alloc (.cells #[.string rf, .int .i64 x0, .int .i64 pe, .slice (some ⟨g', 0, none⟩) 2 cap'] 73)) := (Below.refl _ W8).alloc (Nat.le_refl _) _
          have m4 := (e1.below k2).below z3
          have hr9 : LnRow W8 w.heap.size (.slice (some ⟨g', 0, none⟩) (mvL n cur x2 x4).length cap') (mvL n cur x2 x4) := HJ6.out.2.1.mono (by have := HB.out.size; omega)
          refine ⟨⟨m4.add (x := Je.mk rf x0 pe (some ⟨g', 0, none⟩) cap' (mvL n cur x2 x4)) (hr9.below z3) h1 h2, ?_, ?_⟩, z2.grown h2 z2.size fun i e => e1.row.own i e⟩
          · rw [List.map_append, e2, HP2.out]; rfl
          · rw [List.length_append]; simp; exact e3
        have HRow : Hid (World.ownsRow (W8.alloc (.cells #[.string rf, .int .i64 x0, .int .i64 pe, .slice (some ⟨g', 0, none⟩) 2 cap'] 73)) w.heap.size 73 4 (.slice av L.length cv) L.length (jeRow L)) := World.ownsRow.alloc (HM.out.1.below HJ6.out.2.2).row _
        have s2 : Hid (L.length + 1 ≤ maxLen ∧ (L.length + 1) * 56 ≤ 140737488355328) := by
          have := HM.out.2.2
          unfold Hid maxLen; omega
        have s4 : Hid (w.heap.size ≤ (W8.alloc (.cells #[.string rf, .int .i64 x0, .int .i64 pe, .slice (some ⟨g', 0, none⟩) 2 cap'] 73)).heap.size) := by
          have z1 := HB.out.size
          have z2 := HJ6.out.2.2.size
          unfold Hid; simp; omega
        have HOne : Hid (∀ u ∈ ([.string rf, .int .i64 x0, .int .i64 pe, .slice (some ⟨g', 0, none⟩) 2 cap'] : List Value), u.oneCell' = true) := by intro u hu; simp at hu; rcases hu with rfl | rfl | rfl | rfl <;> rfl
        clear HM HJ6
        go_wp2_with (at_builtin; refine wpList_append_own _ rfl _ _ 36 rfl w.heap.size 73 i0 (.agg #[.string ByteArray.empty, .int .i64 0, .int .i64 0, .slice none 0 0]) 4 56 Tryz.underlying36 hi hz0 hz1 hz2 rfl (by decide) _ _ _ rfl HRow.out ⟨W8.heap.size, 0, none⟩ 1 1 [.string rf, .int .i64 x0, .int .i64 pe, .slice (some ⟨g', 0, none⟩) 2 cap'] rfl rfl (World.news_of_block (World.alloc_heap_new W8 _)) HOne.out s2.out.1 s2.out.2 s4.out ?_)
        intro v' w6 hown' hgrow _
        obtain ⟨hm6, hb6⟩ := HAdd.out v' w6 hown' hgrow
        have HM6 : Hid _ := hm6
        have HB6 : Hid (Below w.heap.size w w6) := hb6
        clear hown' hgrow hm6 hb6 HAdd HRow y0 y1 y2 y3
        go_wp2
        go_roundw
        case rel => exact ⟨1, _, by omega, rfl, HM6, HN, HB6⟩
        case measure => simp [RowKit.intOf]
      · have HI : Hid (phas b cur l (k * 2 + 1) = getB b x1 x3 cur) := by unfold phas; rw [(psd_odd l k).2, HLk.out]; exact rfl
        have HPd : Hid ((psd l (k * 2 + 1)) = ⟨x1, x3⟩ ∧ (pdA l (k * 2 + 1)).dif = x4) := by rw [(psd_odd l k).1, (psd_odd l k).2, HLk.out]; exact ⟨rfl, rfl⟩
        have HG : Hid (Calls _ _ _ _ _) := HGe.out x1 x3 wr HB.out
        generalize getB b x1 x3 cur = n at *
        have HEq : Hid (peE b cur pe l (k * 2 + 1) = if n = 0 then [] else [⟨refP k 1, x1, pe, mvL n cur x3 x4⟩]) := by
          unfold peE
          rw [HI.out, HPd.out.1, HPd.out.2, show (k * 2 + 1) / 2 = k by omega, show (k * 2 + 1) % 2 = 1 by omega]
          exact rfl
        have HAt : Hid (peAt b cur l (k * 2 + 1) = if isAmtB n = true then 0 else 1) := by unfold peAt; rw [HI.out]; exact rfl
        have HNx : Hid (peTo b cur pe l (k * 2 + 1 + 1) = peTo b cur pe l (k * 2 + 1) ++ peE b cur pe l (k * 2 + 1)) := peTo_next b cur pe l _
        have HBd : Hid (peAt b cur l (k * 2 + 1) = 0 → firstTo (peAt b cur l) (k * 2 + 1 + 1) = 0) := fun h => by rw [firstTo_next H0.out, h]
        have HBr : Hid (peAt b cur l (k * 2 + 1) = 1 → peBad c l b cur pe = 1) := fun h => by
          rw [HB0.out, firstTo_first H0.out (by rw [h]; decide) (by omega), h]
        obtain ⟨av, cv, ev, _⟩ := HM.out.1.isJs
        subst ev
        obtain ⟨d0, d1, d2, d3, d4⟩ := HCs.out wr HB.out
        simp only at d0 d1 d2 d3 d4
        clear HI HPd
        go_wp2_with fail
        refine HG.out.mono ?_
        rintro e w' ⟨rfl, hw⟩
        rw [hw]; clear hw w' HG
        clear d0 d1 d2 d3 d4
        by_cases g0 : n = 0
        · have HM2 : Hid (Made wr w.heap.size (.slice av L.length cv) L ∧ L.map Je.ep = peTo b cur pe l (k * 2 + 1 + 1) ∧ L.length ≤ k * 2 + 1 + 1) := by
            obtain ⟨m1, m2, m3⟩ := HM.out
            refine ⟨m1, ?_, by omega⟩
            rw [HNx.out, HEq.out, if_pos g0, List.append_nil, m2]
          have HN : Hid (firstTo (peAt b cur l) (k * 2 + 1 + 1) = 0) := HBd.out (by rw [HAt.out, g0]; exact rfl)
          subst g0
          clear HBd HBr HEq HAt HNx HM HErr HCs
          go_wp2
          go_roundw
          case rel => exact ⟨2, L, by omega, rfl, HM2, HN, HB⟩
          case measure => simp [RowKit.intOf]
        have g0' : (n == 0) = false := by rw [beq_eq_false_iff_ne]; exact g0
        have HA3 : Hid (Calls _ _ _ _ _) := HAm.out n wr
        cases g1 : isAmtB n
        · have HE : Hid (RlEnd c l b cur pe w (.returned (.tuple #[.slice none 0 0, .int .i64 1])) wr) := HErr.out 1 wr (by decide) (HBr.out (by rw [HAt.out, g1]; exact rfl)) HB.out
          rw [g1] at HA3
          clear HBd HBr HEq HAt HNx HM HErr HCs
          go_wp2_with fail
          refine HA3.out.mono ?_
          rintro e w' ⟨rfl, hw⟩
          rw [hw]; clear hw w' HA3
          go_wp2
          go_ret2
          exact HE.out
        rw [g1] at HA3
        have HN : Hid (firstTo (peAt b cur l) (k * 2 + 1 + 1) = 0) := HBd.out (by rw [HAt.out, g1]; exact rfl)
        have HP2 : Hid (peTo b cur pe l (k * 2 + 1 + 1) = peTo b cur pe l (k * 2 + 1) ++ [⟨refP k 1, x1, pe, mvL n cur x3 x4⟩]) := by
          rw [HNx.out, HEq.out, if_neg g0]; exact rfl
        have hamt2 := isAmtB_iff.1 g1
        unfold mostA at hamt2
        have wn : IntKind.i64.wrap (-n) = -n := by
          simp only [IntKind.wrap, IntKind.bits, IntKind.signed]
          simp
          omega
        have HDg : Hid (Calls Tryz.prog 31 #[.int .i64 ((k : Nat) : Int)] wr fun e w' => e = .returned (.string (digS k)) ∧ Below wr.heap.size wr w') := refDig_any k (by omega) wr
        have HRf : Hid (((⟨#[112, 97, 105, 114, 45]⟩ : ByteArray) ++ digS k) ++ ⟨#[98]⟩ = refP k 1) := rfl
        have hab : ∀ W, (Instr.slice 9 (.string ⟨#[97, 98]⟩) (some (.int .i64 1)) (some (.int .i64 2)) none).run Tryz.prog W = .ok (.string ⟨#[98]⟩) W := fun _ => by kernel_rfl
        have hd1 : ¬ 9223372036854775807 < 5 + (digS k).size := by have := digS_two k; omega
        have hd2 : ¬ 9223372036854775807 < 5 + (digS k).size + 1 := by have := digS_two k; omega
        clear HBd HBr HEq HAt HNx g1 hamt2
        go_wp2_with fail
        refine HA3.out.mono ?_
        rintro e w' ⟨rfl, hw⟩
        rw [hw]; clear hw w' HA3
        go_wp2_with fail
        refine HDg.out.mono ?_
        rintro e w4 ⟨rfl, hb4⟩
        have HB4 : Hid (Below wr.heap.size wr w4) := hb4
        clear hb4 HDg
        generalize digS k = ds at *
        obtain ⟨rf, hrf⟩ : ∃ rf, refP k 1 = rf := ⟨_, rfl⟩
        rw [hrf] at HRf HP2
        clear hrf
        obtain ⟨BE, hBE⟩ : ∃ BE, w4.heap.size = BE := ⟨_, rfl⟩
        obtain ⟨W5, hW5⟩ : ∃ W5, w4.alloc (.cells #[.string rf, .int .i64 x1, .int .i64 pe, .slice none 0 0] 73) = W5 := ⟨_, rfl⟩
        have hsw : wr.heap.size ≤ w4.heap.size := HB4.out.size
        have B5 : Below wr.heap.size wr W5 := by rw [← hW5]; exact HB4.out.alloc hsw _
        have hs5 : W5.heap.size = BE + 1 := by rw [← hW5, ← hBE]; simp
        have x5 : Box4 W5 BE rf x1 pe (.slice none 0 0) := by rw [← hW5, ← hBE]; exact Box4.new w4 rf x1 pe _
        have hwB : wr.heap.size ≤ BE := by omega
        have HW5 : Hid (w4.alloc (.cells #[.string rf, .int .i64 x1, .int .i64 pe, .slice none 0 0] 73) = W5) := hW5
        have HBE : Hid (w4.heap.size = BE) := hBE
        have HX5 : Hid (Box4 W5 BE rf x1 pe (.slice none 0 0) ∧ Below wr.heap.size wr W5 ∧ W5.heap.size = BE + 1) := ⟨x5, B5, hs5⟩
        clear hW5 hBE hsw x5 B5 hs5
        go_upto_region 28 with fail
        rw [HRf.out, HW5.out, HBE.out]
        clear HW5 HBE HRf hab hd1 hd2
        have y3 := HX5.out.1.c3
        have HN1 : Hid (LnRow (W5.alloc (.cells #[.string x3, .string cur, .int .i64 (-n)] 75)) (BE + 1) (.slice none 0 0) []) := LnRow.nil _ _
        have HOne1 : Hid (∀ u ∈ ([.string x3, .string cur, .int .i64 (-n)] : List Value), u.oneCell' = true) := by intro u hu; simp at hu; rcases hu with rfl | rfl | rfl <;> rfl
        have Hm1 : Hid (0 + 1 ≤ maxLen ∧ (0 + 1) * 40 ≤ 140737488355328) := by unfold Hid maxLen; omega
        have Hs1 : Hid (BE + 1 ≤ (W5.alloc (.cells #[.string x3, .string cur, .int .i64 (-n)] 75)).heap.size) := by have := HX5.out.2.2; unfold Hid; simp; omega
        go_wp2_with (at_builtin; refine wpList_append_own _ rfl _ _ 71 rfl (BE + 1) 75 n0 (.agg #[.string ByteArray.empty, .string ByteArray.empty, .int .i64 0]) 3 40 Tryz.underlying71 ni nz0 nz1 nz2 rfl (by decide) _ _ _ rfl HN1.out ⟨W5.heap.size, 0, none⟩ 1 1 [.string x3, .string cur, .int .i64 (-n)] rfl rfl (World.news_of_block (World.alloc_heap_new W5 _)) HOne1.out Hm1.out.1 Hm1.out.2 Hs1.out ?_)
        intro v1 W6 hown1 hgrow1 _
        have r1 : LnRow W6 (BE + 1) v1 [⟨x3, cur, -n⟩] := by unfold LnRow; simpa [lnRow, Ln.cells] using hown1
        have x6 : Box4 W6 BE rf x1 pe (.slice none 0 0) := (HX5.out.1.alloc _).grown hgrow1 (fun j e => by simp [Value.ownBlock] at e)
        have B6 : Below wr.heap.size wr W6 := (HX5.out.2.1.alloc HX5.out.2.1.size _).grown hgrow1 (by have := HX5.out.2.1.size; simp; omega) (fun j e => by simp [Value.ownBlock] at e)
        obtain ⟨a1, c1, ev1, _⟩ := r1.isLn
        have ev1' : v1 = .slice a1 1 c1 := ev1
        subst ev1'
        have hsz6 : BE + 1 ≤ W6.heap.size := by have := hgrow1.size; have := Hs1.out; omega
        have HX6 : Hid (Box4 W6 BE rf x1 pe (.slice none 0 0) ∧ Below wr.heap.size wr W6 ∧ LnRow W6 (BE + 1) (.slice a1 1 c1) [⟨x3, cur, -n⟩] ∧ BE + 1 ≤ W6.heap.size) := ⟨x6, B6, r1, hsz6⟩
        clear hown1 hgrow1 HN1 HOne1 Hm1 Hs1 x6 B6 r1 HX5 hsz6 y3 ev1
        have y3 := HX6.out.1.c3
        have z3 := HX6.out.1.fz 3
        obtain ⟨W7, hW7⟩ : ∃ W7, W6.setCell ⟨BE, 3, none⟩ (.slice a1 1 c1) = W7 := ⟨_, rfl⟩
        have HX7 : Hid (Box4 W7 BE rf x1 pe (.slice a1 1 c1) ∧ Below wr.heap.size wr W7 ∧ LnRow W7 (BE + 1) (.slice a1 1 c1) [⟨x3, cur, -n⟩] ∧ BE + 1 ≤ W7.heap.size) := by
          rw [← hW7]
          exact ⟨HX6.out.1.set3 _, HX6.out.2.1.setCell (p := ⟨BE, 3, none⟩) hwB _, HX6.out.2.2.1.setOther (by omega), by have := HX6.out.2.2.2; simp [World.setCell]; exact this⟩
        have HW7 : Hid (W6.setCell ⟨BE, 3, none⟩ (.slice a1 1 c1) = W7) := hW7
        clear hW7 HX6
        go_upto_region 29 with fail
        rw [HW7.out]
        clear HW7 y3 z3
        have hdr : Below W7.heap.size W7 W7.drew := (Below.refl _ W7).drew
        have hBd : Below wr.heap.size wr W7.drew := HX7.out.2.1.drew
        have y3 := HX7.out.1.c3
        have hbe : BE < W7.heap.size := by have := HX7.out.2.2.2; omega
        have HCell : Hid (∀ u, Below W7.drew.heap.size W7.drew u → u.cell? ⟨BE, 3, none⟩ = some (.slice a1 1 c1) ∧ u.cell? ⟨bb, off + k * 5 + 4, none⟩ = some (.string x4)) := fun u hu => by
          have hu2 := hBd.trans (hu.mono hBd.size)
          exact ⟨(hu.cell (p := ⟨BE, 3, none⟩) hbe).trans y3, (HCs.out u (HB.out.trans (hu2.mono HB.out.size))).c4⟩
        have hrowd : LnRow W7.drew (BE + 1) (.slice a1 1 c1) [⟨x3, cur, -n⟩] := HX7.out.2.2.1.below hdr
        have hboxd : Box4 W7.drew BE rf x1 pe (.slice a1 1 c1) := HX7.out.1.below hdr hbe
        have hbed : BE + 1 ≤ W7.drew.heap.size := HX7.out.2.2.2
        have HAdd : Hid (∀ g' cap' w6, World.ownsRow w6 (BE + 1) 75 3 (.slice (some ⟨g', 0, none⟩) (1 + 1) cap') (1 + 1) (lnRow [⟨x3, cur, -n⟩] ++ [.string x4, .string cur, .int .i64 n]) → (W7.drew.alloc (.cells #[.string x4, .string cur, .int .i64 n] 75)).grownBy w6 (Value.slice a1 1 c1).ownBlock → g' < w6.heap.size → Box4 w6 BE rf x1 pe (.slice a1 1 c1) ∧ (Box4 (w6.setCell ⟨BE, 3, none⟩ (.slice (some ⟨g', 0, none⟩) (1 + 1) cap')) BE rf x1 pe (.slice (some ⟨g', 0, none⟩) (1 + 1) cap') ∧ LnRow (w6.setCell ⟨BE, 3, none⟩ (.slice (some ⟨g', 0, none⟩) (1 + 1) cap')) (BE + 1) (.slice (some ⟨g', 0, none⟩) (1 + 1) cap') (mvL n cur x3 x4) ∧ Below wr.heap.size wr (w6.setCell ⟨BE, 3, none⟩ (.slice (some ⟨g', 0, none⟩) (1 + 1) cap')))) := fun g' cap' w6 h1 h2 h4 => by
          have hown := hrowd.own
          have x6 : Box4 w6 BE rf x1 pe (.slice a1 1 c1) := (hboxd.alloc _).grown h2 (fun i e => by have := hown i e; omega)
          have hr6 : LnRow w6 (BE + 1) (.slice (some ⟨g', 0, none⟩) (1 + 1) cap') (mvL n cur x3 x4) := by
            have e : mvL n cur x3 x4 = [⟨x3, cur, -n⟩] ++ [⟨x4, cur, n⟩] := rfl
            rw [e]
            unfold LnRow
            rw [pl_snoc]
            exact h1
          have B6 : Below wr.heap.size wr w6 := (hBd.alloc hBd.size _).grown h2 (by have := hBd.size; simp at this ⊢; omega) (fun i e => by have := hown i e; omega)
          exact ⟨x6, x6.set3 _, hr6.setOther (by omega), B6.setCell (p := ⟨BE, 3, none⟩) hwB _⟩
        have HRow : Hid (World.ownsRow (W7.drew.alloc (.cells #[.string x4, .string cur, .int .i64 n] 75)) (BE + 1) 75 3 (.slice a1 1 c1) 1 (lnRow [⟨x3, cur, -n⟩])) := World.ownsRow.alloc hrowd (.cells #[.string x4, .string cur, .int .i64 n] 75)
        have HOne : Hid (∀ u ∈ ([.string x4, .string cur, .int .i64 n] : List Value), u.oneCell' = true) := by intro u hu; simp at hu; rcases hu with rfl | rfl | rfl <;> rfl
        have Hm2 : Hid (1 + 1 ≤ maxLen ∧ (1 + 1) * 40 ≤ 140737488355328) := by unfold Hid maxLen; omega
        have Hs2 : Hid (BE + 1 ≤ (W7.drew.alloc (.cells #[.string x4, .string cur, .int .i64 n] 75)).heap.size) := by unfold Hid; simp; simp at hbed; omega
        have hbA : Below W7.drew.heap.size W7.drew (W7.drew.alloc (.cells #[.string x4, .string cur, .int .i64 n] 75)) := (Below.refl _ _).alloc (Nat.le_refl _) _
        have hsA : (W7.drew.alloc (.cells #[.string x4, .string cur, .int .i64 n] 75)).heap.size = W7.drew.heap.size + 1 := by simp
        have HSA : Hid ((W7.drew.alloc (.cells #[.string x4, .string cur, .int .i64 n] 75)).heap.size = W7.drew.heap.size + 1) := hsA
        clear hsA hrowd hboxd hbed hdr hBd hbe y3 HX7
        refine wp_region_drawn (by kernel_rfl) ?_
        generalize W7.drew = U at *
        refine wpAny_take (i := 0) (v := .pointer (some ⟨BE, 3, none⟩)) rfl (by kernel_rfl) (by kernel_rfl) (by kernel_rfl) (fun _ _ _ h => h) (Or.inl ⟨by rfl, fun w => by go_simp⟩) ?_
        simp only [Act.put, List.getElem_toArray, List.getElem_cons_succ, List.getElem_cons_zero, List.setIfInBounds_toArray, List.set_cons_zero, List.set_cons_succ]
        refine wpAny_take (i := 2) (v := .slice (some ⟨bb, off, none⟩) l.length cap2) rfl (by kernel_rfl) (by kernel_rfl) (by kernel_rfl) (fun _ _ _ h => h) (Or.inl ⟨by rfl, fun w => by go_simp⟩) ?_
        simp only [Act.put, List.getElem_toArray, List.getElem_cons_succ, List.getElem_cons_zero, List.setIfInBounds_toArray, List.set_cons_zero, List.set_cons_succ]
        refine wpAny_take (i := 3) (v := .int .i64 k) rfl (by kernel_rfl) (by kernel_rfl) (by kernel_rfl) (fun _ _ _ h => h) (Or.inl ⟨by rfl, fun w => by go_simp⟩) ?_
        simp only [Act.put, List.getElem_toArray, List.getElem_cons_succ, List.getElem_cons_zero, List.setIfInBounds_toArray, List.set_cons_zero, List.set_cons_succ]
        refine wpAny_take (i := 4) (v := .pointer (some ⟨bb, off + k * 5, none⟩)) rfl (by kernel_rfl) (by kernel_rfl) (by kernel_rfl) (fun _ _ _ h => h) (Or.inl ⟨by rfl, fun w => by go_simp⟩) ?_
        simp only [Act.put, List.getElem_toArray, List.getElem_cons_succ, List.getElem_cons_zero, List.setIfInBounds_toArray, List.set_cons_zero, List.set_cons_succ]
        refine wpAny_take (i := 5) (v := .pointer (some ⟨bb, off + k * 5 + 4, none⟩)) rfl (by kernel_rfl) (by kernel_rfl) (by kernel_rfl) (fun _ _ _ h => h) (Or.inl ⟨by rfl, fun w => by go_simp⟩) ?_
        simp only [Act.put, List.getElem_toArray, List.getElem_cons_succ, List.getElem_cons_zero, List.setIfInBounds_toArray, List.set_cons_zero, List.set_cons_succ]
        refine wpAny_take (i := 7) (v := .string cur) rfl (by kernel_rfl) (by kernel_rfl) (by kernel_rfl) (fun _ _ _ h => h) (Or.inl ⟨by rfl, fun w => by go_simp⟩) ?_
        simp only [Act.put, List.getElem_toArray, List.getElem_cons_succ, List.getElem_cons_zero, List.setIfInBounds_toArray, List.set_cons_zero, List.set_cons_succ]
        refine wpAny_take (i := 8) (v := .int .i64 n) rfl (by kernel_rfl) (by kernel_rfl) (by kernel_rfl) (fun _ _ _ h => h) (Or.inl ⟨by rfl, fun w => by go_simp⟩) ?_
        simp only [Act.put, List.getElem_toArray, List.getElem_cons_succ, List.getElem_cons_zero, List.setIfInBounds_toArray, List.set_cons_zero, List.set_cons_succ]
        refine any_of_L (g := 11) (T := fun u => Below U.heap.size U u) _ _ _ _ ?_
        refine L_takeC [11] (i := 1) (v := .slice a1 1 c1) rfl (by kernel_rfl) (by kernel_rfl) (by decide) (by kernel_rfl) (by kernel_rfl) (by kernel_rfl) (by kernel_rfl) (fun _ _ _ h => h) (Or.inl ⟨by rfl, fun w' hw' => by have c0 := (HCell.out w' hw').1; clear hw'; go_simp⟩) (Below.refl _ _) ?_
        simp only [Act.put, List.getElem_toArray, List.getElem_cons_succ, List.getElem_cons_zero, List.setIfInBounds_toArray, List.set_cons_zero, List.set_cons_succ]
        refine L_takeC [11, 10, 9] (i := 6) (v := .string x4) rfl (by kernel_rfl) (by kernel_rfl) (by decide) (by kernel_rfl) (by kernel_rfl) (by kernel_rfl) (by kernel_rfl) (fun _ _ _ h => h) (Or.inl ⟨by rfl, fun w' hw' => by have c0 := (HCell.out w' hw').2; clear hw'; go_simp⟩) (Below.refl _ _) ?_
        simp only [Act.put, List.getElem_toArray, List.getElem_cons_succ, List.getElem_cons_zero, List.setIfInBounds_toArray, List.set_cons_zero, List.set_cons_succ]
        refine L_takeC [11, 10] (i := 9) (v := .agg #[.string x4, .string cur, .int .i64 n]) rfl (by kernel_rfl) (by kernel_rfl) (by decide) (by kernel_rfl) (by kernel_rfl) (by kernel_rfl) (by kernel_rfl) (fun _ _ _ h => h) ?_ (Below.refl _ _) ?_
        · exact yields_build_run (by rfl) 75 _ (by rfl) #[(0, .string x4), (1, .string cur), (2, .int .i64 n)] (by simp [Act.eval]) (fun w' _ => pl_build_ln _ _ _ w')
        simp only [Act.put, List.getElem_toArray, List.getElem_cons_succ, List.getElem_cons_zero, List.setIfInBounds_toArray, List.set_cons_zero, List.set_cons_succ]
        clear HCell
        refine L_one (i := 10) (by kernel_rfl) ?_
        refine wpOp_step rfl ?_
        intro K hK
        rw [if_pos (by rfl)]
        have hK' : Shut (∀ a w, _ → K a w) := hK
        clear hK
        go_wp2_with fail
        refine hK'.out _ _ ?_
        clear hK' K
        refine ⟨hbA, ?_⟩
        try simp only [Act.put, List.getElem_toArray, List.getElem_cons_succ, List.getElem_cons_zero, List.setIfInBounds_toArray, List.set_cons_zero, List.set_cons_succ]
        refine L_go (by kernel_rfl) (by kernel_rfl) ?_
        refine wpOp_step rfl (fun K hK => ?_)
        refine step_append_lies _ rfl (.tmp 107) (.tmp 116) 71 rfl (BE + 1) 75 n0 (.agg #[.string ByteArray.empty, .string ByteArray.empty, .int .i64 0]) 3 40 Tryz.underlying71 ni nz0 nz1 nz2 rfl (Nat.zero_lt_succ _) (.slice a1 1 c1) 1 (lnRow [⟨x3, cur, -n⟩]) rfl HRow.out ⟨U.heap.size, 0, none⟩ 1 1 [.string x4, .string cur, .int .i64 n] rfl rfl (World.news_of_block (World.alloc_heap_new U _)) HOne.out (Nat.zero_lt_one) Hm2.out.1 Hm2.out.2 Hs2.out (U.heap.size + 1) HSA.out ?_
        intro g' cap' w6 hown' hgrow hat hlt2
        obtain ⟨hx6, hj6⟩ := HAdd.out g' cap' w6 hown' hgrow hlt2
        have cx := hx6.c3
        have fx := hx6.fz 3
        obtain ⟨W8, hW8⟩ : ∃ W8, w6.setCell ⟨BE, 3, none⟩ (.slice (some ⟨g', 0, none⟩) (1 + 1) cap') = W8 := ⟨_, rfl⟩
        rw [hW8] at hj6
        have HJ6 : Hid (Box4 W8 BE rf x1 pe (.slice (some ⟨g', 0, none⟩) 2 cap') ∧ LnRow W8 (BE + 1) (.slice (some ⟨g', 0, none⟩) 2 cap') (mvL n cur x3 x4) ∧ Below wr.heap.size wr W8) := hj6
        have HW8 : Hid (w6.setCell ⟨BE, 3, none⟩ (.slice (some ⟨g', 0, none⟩) (1 + 1) cap') = W8) := hW8
        refine hK _ _ ?_
        clear hK K hown' hgrow hat hlt2 hx6 hj6 HAdd HRow HOne Hm2 Hs2 HSA hbA hW8
        refine wpAny_take (i := 12) (v := .pointer (some ⟨BE, 3, none⟩)) rfl (by kernel_rfl) (by kernel_rfl) (by kernel_rfl) (fun _ _ _ h => h) (Or.inl ⟨by rfl, fun w => by go_simp⟩) ?_
        simp only [Act.put, List.getElem_toArray, List.getElem_cons_succ, List.getElem_cons_zero, List.setIfInBounds_toArray, List.set_cons_zero, List.set_cons_succ]
        refine any_one (i := 13) (by kernel_rfl) ?_
        refine wpOp_step rfl ?_
        intro K hK
        rw [if_pos (by rfl)]
        have hK' : Shut (∀ a w, _ → K a w) := hK
        clear hK
        go_wp2_with fail
        refine hK'.out _ _ ?_
        clear hK' K
        refine wpAny_done (by kernel_rfl) ?_ _
        try rw [HW8.out]
        clear HW8 cx fx
        obtain ⟨y0, y1, y2, y3⟩ : W8.cell? ⟨BE, 0, none⟩ = some (.string rf) ∧ W8.cell? ⟨BE, 1, none⟩ = some (.int .i64 x1) ∧ W8.cell? ⟨BE, 2, none⟩ = some (.int .i64 pe) ∧ W8.cell? ⟨BE, 3, none⟩ = some (.slice (some ⟨g', 0, none⟩) 2 cap') := ⟨HJ6.out.1.c0, HJ6.out.1.c1, HJ6.out.1.c2, HJ6.out.1.c3⟩
        have HAdd : Hid (∀ v' w6, World.ownsRow w6 w.heap.size 73 4 v' (L.length + 1) (jeRow L ++ [.string rf, .int .i64 x1, .int .i64 pe, .slice (some ⟨g', 0, none⟩) 2 cap']) → (W8.alloc (.cells #[.string rf, .int .i64 x1, .int .i64 pe, .slice (some ⟨g', 0, none⟩) 2 cap'] 73)).grownBy w6 (Value.slice av L.length cv).ownBlock → (Made w6 w.heap.size v' (L ++ [Je.mk rf x1 pe (some ⟨g', 0, none⟩) cap' (mvL n cur x3 x4)]) ∧ (L ++ [Je.mk rf x1 pe (some ⟨g', 0, none⟩) cap' (mvL n cur x3 x4)]).map Je.ep = peTo b cur pe l (k * 2 + 1 + 1) ∧ (L ++ [Je.mk rf x1 pe (some ⟨g', 0, none⟩) cap' (mvL n cur x3 x4)]).length ≤ k * 2 + 1 + 1) ∧ Below w.heap.size w w6) := fun v' w6 h1 h2 => by
          obtain ⟨e1, e2, e3⟩ := HM.out
          have k2 := HJ6.out.2.2
          have k1 := HB.out.trans (k2.mono HB.out.size)
          have z2 := k1.alloc k1.size (.cells #[.string rf, .int .i64 x1, .int .i64 pe, .slice (some ⟨g', 0, none⟩) 2 cap'] 73)
          have z3 : Below W8.heap.size W8 (W8.alloc (.cells #[.string rf, .int .i64 x1, .int .i64 pe, .slice (some ⟨g', 0, none⟩) 2 cap'] 73)) := (Below.refl _ W8).alloc (Nat.le_refl _) _
          have m4 := (e1.below k2).below z3
          have hr9 : LnRow W8 w.heap.size (.slice (some ⟨g', 0, none⟩) (mvL n cur x3 x4).length cap') (mvL n cur x3 x4) := HJ6.out.2.1.mono (by have := HB.out.size; omega)
          refine ⟨⟨m4.add (x := Je.mk rf x1 pe (some ⟨g', 0, none⟩) cap' (mvL n cur x3 x4)) (hr9.below z3) h1 h2, ?_, ?_⟩, z2.grown h2 z2.size fun i e => e1.row.own i e⟩
          · rw [List.map_append, e2, HP2.out]; rfl
          · rw [List.length_append]; simp; exact e3
        have HRow : Hid (World.ownsRow (W8.alloc (.cells #[.string rf, .int .i64 x1, .int .i64 pe, .slice (some ⟨g', 0, none⟩) 2 cap'] 73)) w.heap.size 73 4 (.slice av L.length cv) L.length (jeRow L)) := World.ownsRow.alloc (HM.out.1.below HJ6.out.2.2).row _
        have s2 : Hid (L.length + 1 ≤ maxLen ∧ (L.length + 1) * 56 ≤ 140737488355328) := by
          have := HM.out.2.2
          unfold Hid maxLen; omega
        have s4 : Hid (w.heap.size ≤ (W8.alloc (.cells #[.string rf, .int .i64 x1, .int .i64 pe, .slice (some ⟨g', 0, none⟩) 2 cap'] 73)).heap.size) := by
          have z1 := HB.out.size
          have z2 := HJ6.out.2.2.size
          unfold Hid; simp; omega
        have HOne : Hid (∀ u ∈ ([.string rf, .int .i64 x1, .int .i64 pe, .slice (some ⟨g', 0, none⟩) 2 cap'] : List Value), u.oneCell' = true) := by intro u hu; simp at hu; rcases hu with rfl | rfl | rfl | rfl <;> rfl
        clear HM HJ6
        go_wp2_with (at_builtin; refine wpList_append_own _ rfl _ _ 36 rfl w.heap.size 73 i0 (.agg #[.string ByteArray.empty, .int .i64 0, .int .i64 0, .slice none 0 0]) 4 56 Tryz.underlying36 hi hz0 hz1 hz2 rfl (by decide) _ _ _ rfl HRow.out ⟨W8.heap.size, 0, none⟩ 1 1 [.string rf, .int .i64 x1, .int .i64 pe, .slice (some ⟨g', 0, none⟩) 2 cap'] rfl rfl (World.news_of_block (World.alloc_heap_new W8 _)) HOne.out s2.out.1 s2.out.2 s4.out ?_)
        intro v' w6 hown' hgrow _
        obtain ⟨hm6, hb6⟩ := HAdd.out v' w6 hown' hgrow
        have HM6 : Hid _ := hm6
        have HB6 : Hid (Below w.heap.size w w6) := hb6
        clear hown' hgrow hm6 hb6 HAdd HRow y0 y1 y2 y3
        go_wp2
        go_roundw
        case rel => exact ⟨2, _, by omega, rfl, HM6, HN, HB6⟩
        case measure => simp [RowKit.intOf]
      · have e2 : k * 2 + 2 = (k + 1) * 2 := by omega
        rw [e2] at HM H0
        clear HCs e2
        obtain ⟨av, cv, ev, _⟩ := HM.out.1.isJs
        subst ev
        go_wp2
        go_roundw
        case rel => exact ⟨k + 1, L, by omega, by go_num, HM, H0, HB⟩
        case measure => simp [RowKit.intOf]; omega
    · have ek : k = l.length := by omega
      subst ek
      obtain ⟨m1, m2, m3⟩ := HM.out
      have HE : Hid (RlEnd c l b cur pe w (.returned (.tuple #[.slice av L.length cv, .int .i64 0])) wr) := HOk.out _ L wr (by rw [HB0.out, H0.out]) HB.out m1 m2
      have j1 : ¬ (l.length : Int) < l.length := by omega
      clear m1 m2 m3 HM HErr HOk HPr
      go_wp2
      go_ret2
      exact HE.out
end Go.Proofs.YtagimpmefodaeaaGreatDoor
