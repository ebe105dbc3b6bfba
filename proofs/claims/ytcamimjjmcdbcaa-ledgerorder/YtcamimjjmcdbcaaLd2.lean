/-
  The contract of ledger.Check.
-/
import Derived.Test.YtcamimjjmcdbcaaLd1
import Derived.Deep.CutRange
import Derived.Deep.CutBlock
import Derived.WalkLawsBesides
namespace Go.Proofs.Ytcamimjjmcdbcaa
set_option linter.unusedVariables false
set_option linter.unusedSimpArgs false
set_option maxRecDepth 100000
open Go.RowKit Go.Lib
theorem IsBl.some {w : World} {a : Option Addr} {l : List Bl} {cap k : Nat} (h : IsBl w a l cap) (hk : k < l.length) : ∃ b off, a = some ⟨b, off, none⟩ ∧ b < w.heap.size ∧ BlsAt w b off l := by
  rcases h.lies with h | h
  · rw [h] at hk; simp at hk
  · exact h

set_option maxHeartbeats 4000000 in
theorem check_any (a : Option Addr) (cap : Nat) (l : List Bl) (w : World) (hlen : l.length ≤ 9223372036854775807) (h : IsBl w a l cap) :
    Calls Try.prog 10 #[.slice a l.length cap] w fun e w' => e = .returned (enE (chk l)) ∧ Below w.heap.size w w' := by
  by_cases h2 : 200 < l.length
  · have e4 : chk l = 4 := if_pos h2
    rw [e4, enE_ne (by decide)]
    have i1 : (200 : Int) < l.length := by omega
    clear h e4
    go_enter Try.func10, Try.ntmps10
    go_wp2
    go_ret
    exact ⟨rfl, Below.refl _ _⟩
  have i1 : ¬ (200 : Int) < l.length := by omega
  have i2 : (l.length : Int) ≤ 200 := by omega
  obtain ⟨res, hres⟩ : ∃ res, enE (chk l) = res := ⟨_, rfl⟩
  have Hres : Hid (enE (chkTo l l.length) = res) := by
    rw [← hres]; unfold chk; rw [if_neg h2]; exact rfl
  rw [hres]
  clear hres
  have HL : Hid (IsBl w a l cap) := h
  clear h
  go_enter Try.func10, Try.ntmps10
  go_wp2
  go_loopw [11] (fun i wr => ∃ k : Nat, k ≤ l.length ∧ i = .int .i64 k ∧ Hid (chkTo l k = 0) ∧ Hid (Below w.heap.size w wr)) (fun i _ => l.length - (intOf i).toNat)
  case atStart => exact ⟨0, Nat.zero_le _, rfl, rfl, Below.refl _ _⟩
  case round =>
    obtain ⟨k, hk, rfl, H0, HB⟩ := hrel
    by_cases hlt : k < l.length
    · obtain ⟨b, off, rfl, hb, hc⟩ := HL.out.some hlt
      have hy := (hc k hlt).below HB.out hb
      have i0 : (0 : Int) ≤ k := by omega
      have i3 : (k : Int) < l.length := by omega
      have HC : Hid (BlsAt w b off l) := hc
      have HY : Hid (l.getD k bl0 = l.getD k bl0) := rfl
      obtain ⟨y, hyy⟩ : ∃ y, l.getD k bl0 = y := ⟨_, rfl⟩
      have HYY : Hid (l.getD k bl0 = y) := hyy
      rw [hyy] at hy
      clear hyy hc HY
      obtain ⟨y0, y1, y2, y3⟩ := y
      obtain ⟨d0, d1, d2, d3⟩ := hy
      simp only at d0 d1 d2 d3
      obtain ⟨W1, hW1⟩ : ∃ W1, wr.alloc (.cells #[.int .i64 y0, .string y1, .string y2, .int .i64 y3] 28) = W1 := ⟨_, rfl⟩
      have hbx : W1.heap[wr.heap.size]? = some (.cells #[.int .i64 y0, .string y1, .string y2, .int .i64 y3] 28 (0, 0)) := by rw [← hW1]; unfold World.alloc; simp only [Array.getElem?_push_size]
      have HB1 : Hid (Below w.heap.size w W1) := by rw [← hW1]; exact HB.out.alloc HB.out.size _
      have HX : Hid (∀ U, Below W1.heap.size W1 U → U.cell? ⟨wr.heap.size, 0, none⟩ = some (.int .i64 y0) ∧ U.cell? ⟨wr.heap.size, 1, none⟩ = some (.string y1) ∧ U.cell? ⟨wr.heap.size, 2, none⟩ = some (.string y2) ∧ U.cell? ⟨wr.heap.size, 3, none⟩ = some (.int .i64 y3)) := fun U hU => by
        have hlt' : wr.heap.size < W1.heap.size := (Array.getElem?_eq_some_iff.1 hbx).1
        have e := (hU.block _ hlt').trans hbx
        simp [World.cell?, e]
      have HW1 : Hid (wr.alloc (.cells #[.int .i64 y0, .string y1, .string y2, .int .i64 y3] 28) = W1) := hW1
      have HSz : Hid (wr.heap.size < W1.heap.size) := (Array.getElem?_eq_some_iff.1 hbx).1
      clear hW1 hbx
      go_upto_region 6 with fail
      rw [HW1.out]
      clear HW1 d0 d1 d2 d3
      obtain ⟨B, hB⟩ : ∃ B, wr.heap.size = B := ⟨_, rfl⟩
      rw [hB] at HX HSz ⊢
      clear hB HB
      go_cut [16] from 17 to 28 (fun t wx => t = .bool (decide (0 < k ∧ ¬ cmpB (l.getD (k - 1) bl0) ⟨y0, y1, y2, y3⟩ < 0)) ∧ Hid (Below W1.heap.size W1 wx))
      case first =>
        rcases k with _ | m
        · obtain ⟨f0, f1, f2, f3⟩ := HX.out W1 (Below.refl _ _)
          go_wp2_with fail
          go_quiet (fail)
          rename Nat => nk
          have HZ : Hid (Below W1.heap.size W1 (W1.drewN nk)) := en_drewN (Below.refl _ _) nk
          go_wp2
          go_meet
          case rel => exact ⟨by simp, HZ⟩
        · have hx := (HC.out m (by omega)).below HB1.out hb
          have er : (0 < m + 1 ∧ ¬ cmpB (l.getD (m + 1 - 1) bl0) ⟨y0, y1, y2, y3⟩ < 0) ↔ ¬ cmpB (l.getD m bl0) ⟨y0, y1, y2, y3⟩ < 0 := by
            rw [Nat.add_sub_cancel]
            exact ⟨fun h => h.2, fun h => ⟨by omega, h⟩⟩
          have HER : Hid (decide (0 < m + 1 ∧ ¬ cmpB (l.getD (m + 1 - 1) bl0) ⟨y0, y1, y2, y3⟩ < 0) = decide (0 ≤ cmpB (l.getD m bl0) ⟨y0, y1, y2, y3⟩)) := by
            unfold Hid
            rw [decide_eq_decide, er]
            omega
          clear er
          have HCm : Hid (∀ W, Calls Try.prog 19 #[.agg (l.getD m bl0).cells, .agg (Bl.mk y0 y1 y2 y3).cells] W fun e w' => e = .returned (.int .i64 (cmpB (l.getD m bl0) ⟨y0, y1, y2, y3⟩)) ∧ Below W.heap.size W w') := fun W => ldCompareB_any _ _ W
          generalize l.getD m bl0 = x at hx HER HCm
          generalize cmpB x ⟨y0, y1, y2, y3⟩ = c at *
          obtain ⟨x0, x1, x2, x3⟩ := x
          obtain ⟨d0, d1, d2, d3⟩ := hx
          obtain ⟨f0, f1, f2, f3⟩ := HX.out W1 (Below.refl _ _)
          simp only [Bl.cells] at d0 d1 d2 d3 f0 f1 f2 f3 HCm
          have hbW : b < W1.heap.size := Nat.lt_of_lt_of_le hb HB1.out.size
          have hBW := HSz.out
          have HK : Hid (∀ W V, Below W.heap.size W V → b < W.heap.size → B < W.heap.size → (W.cell? ⟨b, off + m * 4, none⟩ = some (.int .i64 x0) ∧ W.cell? ⟨b, off + m * 4 + 1, none⟩ = some (.string x1) ∧ W.cell? ⟨b, off + m * 4 + 2, none⟩ = some (.string x2) ∧ W.cell? ⟨b, off + m * 4 + 3, none⟩ = some (.int .i64 x3)) ∧ W.cell? ⟨B, 0, none⟩ = some (.int .i64 y0) ∧ W.cell? ⟨B, 1, none⟩ = some (.string y1) ∧ W.cell? ⟨B, 2, none⟩ = some (.string y2) ∧ W.cell? ⟨B, 3, none⟩ = some (.int .i64 y3) → (V.cell? ⟨b, off + m * 4, none⟩ = some (.int .i64 x0) ∧ V.cell? ⟨b, off + m * 4 + 1, none⟩ = some (.string x1) ∧ V.cell? ⟨b, off + m * 4 + 2, none⟩ = some (.string x2) ∧ V.cell? ⟨b, off + m * 4 + 3, none⟩ = some (.int .i64 x3)) ∧ V.cell? ⟨B, 0, none⟩ = some (.int .i64 y0) ∧ V.cell? ⟨B, 1, none⟩ = some (.string y1) ∧ V.cell? ⟨B, 2, none⟩ = some (.string y2) ∧ V.cell? ⟨B, 3, none⟩ = some (.int .i64 y3)) := fun W V hB hlt hlt2 hh => by
            have C : ∀ o, V.cell? ⟨b, o, none⟩ = W.cell? ⟨b, o, none⟩ := fun o => hB.cell (p := ⟨b, o, none⟩) hlt
            have C2 : ∀ o, V.cell? ⟨B, o, none⟩ = W.cell? ⟨B, o, none⟩ := fun o => hB.cell (p := ⟨B, o, none⟩) hlt2
            simp only [C, C2]
            exact hh
          have j0 : (0 : Int) ≤ m := by omega
          have j1 : (m : Int) + 1 < l.length := by omega
          have j2 : (m : Int) < l.length := by omega
          have i6 : (m : Int) + 1 - 1 = m := by omega
          have i7 : ((m : Int) + 1).toNat = m + 1 := by omega
          have i8 : (0 : Int) ≤ (m : Int) + 1 := by omega
          have i9 : (0 : Int) < (m : Int) + 1 := by omega
          have iw1 : IntKind.i64.wrap (m : Int) = m := by
            simp only [IntKind.wrap, IntKind.bits, IntKind.signed]
            simp
            omega
          have iw2 : IntKind.i64.wrap ((m : Int) + 1 - 1) = m := by rw [i6, iw1]
          clear HX HC HYY HB1 HL HSz H0 Hres i0 i3
          go_wp2_with fail
          go_region_held3 (fun u => (u.cell? ⟨b, off + m * 4, none⟩ = some (.int .i64 x0) ∧ u.cell? ⟨b, off + m * 4 + 1, none⟩ = some (.string x1) ∧ u.cell? ⟨b, off + m * 4 + 2, none⟩ = some (.string x2) ∧ u.cell? ⟨b, off + m * 4 + 3, none⟩ = some (.int .i64 x3)) ∧ u.cell? ⟨B, 0, none⟩ = some (.int .i64 y0) ∧ u.cell? ⟨B, 1, none⟩ = some (.string y1) ∧ u.cell? ⟨B, 2, none⟩ = some (.string y2) ∧ u.cell? ⟨B, 3, none⟩ = some (.int .i64 y3)) (go_keep) (first | (go_at_call 19; refine (HCm.out _).mono ?_; rintro e w' ⟨rfl, hb'⟩; obtain ⟨⟨p0, p1, p2, p3⟩, p4, p5, p6, p7⟩ := HK.out _ _ hb' (by simpa using hbW) (by simpa using hBW) (by simpa using ⟨⟨d0, d1, d2, d3⟩, f0, f1, f2, f3⟩)))
          all_goals
            go_wp2
            go_meet
            case rel => exact ⟨by rw [HER.out], (Below.refl _ _).drew.trans hb'⟩
      case rest =>
        obtain ⟨rfl, HBc⟩ := hcut
        obtain ⟨f0, f1, f2, f3⟩ := HX.out wc HBc.out
        have HBw : Hid (Below w.heap.size w wc) := HB1.out.trans (HBc.out.mono HB1.out.size)
        have HIs : Hid (Calls Try.prog 15 #[.int .i64 y3, .int .i64 1000000000000000000] wc fun e w' => e = .returned (.bool (decide (-1000000000000000000 ≤ y3 ∧ y3 ≤ 1000000000000000000))) ∧ w' = wc) := isWithin_any y3 1000000000000000000 (by decide) wc
        have HA : Hid (chkAt l k = if 0 < k ∧ ¬ cmpB (l.getD (k - 1) bl0) ⟨y0, y1, y2, y3⟩ < 0 then 5 else if ¬ (-1000000000000000000 ≤ y3 ∧ y3 ≤ 1000000000000000000) then 1 else if y3 = 0 then 3 else 0) := by
          unfold chkAt
          rw [HYY.out]
          exact rfl
        have HRet : Hid (∀ c, c ≠ 0 → chkAt l k = c → res = enE c) := fun c h0 h1 => by
          rw [← Hres.out, chkTo_first H0.out (by rw [h1]; exact h0) hlt, h1]
        clear HX HBc HB1 HC HYY HL
        by_cases c1 : 0 < k ∧ ¬ cmpB (l.getD (k - 1) bl0) ⟨y0, y1, y2, y3⟩ < 0
        · have e5 : res = enE 5 := HRet.out 5 (by decide) (by rw [HA.out, if_pos c1])
          rw [decide_eq_true c1]
          rw [enE_ne (by decide)] at e5
          subst e5
          clear HA HRet c1 Hres
          go_wp2
          go_ret
          exact ⟨rfl, HBw.out⟩
        · rw [decide_eq_false c1]
          by_cases c2 : -1000000000000000000 ≤ y3 ∧ y3 ≤ 1000000000000000000
          · rw [decide_eq_true c2] at HIs
            by_cases c3 : y3 = 0
            · have e5 : res = enE 3 := HRet.out 3 (by decide) (by rw [HA.out, if_neg c1, if_neg (by simpa using c2), if_pos c3])
              rw [enE_ne (by decide)] at e5
              subst e5
              subst c3
              clear HA HRet c1 Hres c2
              go_wp2_with (go_at_call 15; refine HIs.out.mono ?_; rintro e w' ⟨rfl, rfl⟩)
              go_ret
              exact ⟨rfl, HBw.out⟩
            · have e0 : chkTo l (k + 1) = 0 := by
                unfold chkTo
                rw [if_neg (by simp [H0.out]), HA.out, if_neg c1, if_neg (by simpa using c2), if_neg c3]
              have HE : Hid (chkTo l (k + 1) = 0) := e0
              have c3' : (y3 == 0) = false := by rw [beq_eq_false_iff_ne]; exact c3
              clear HA HRet c1 e0 c2
              go_wp2_with (go_at_call 15; refine HIs.out.mono ?_; rintro e w' ⟨rfl, rfl⟩)
              go_roundw
              case rel => exact ⟨k + 1, by omega, by go_num, HE, HBw⟩
              case measure => simp [intOf]; omega
          · rw [decide_eq_false c2] at HIs
            have e5 : res = enE 1 := HRet.out 1 (by decide) (by rw [HA.out, if_neg c1, if_pos c2])
            rw [enE_ne (by decide)] at e5
            subst e5
            clear HA HRet c1 Hres
            go_wp2_with (go_at_call 15; refine HIs.out.mono ?_; rintro e w' ⟨rfl, rfl⟩)
            go_ret
            exact ⟨rfl, HBw.out⟩
    · have hk2 : k = l.length := by omega
      subst hk2
      have e5 : res = enE 0 := by rw [← Hres.out, H0.out]
      rw [enE_zero] at e5
      subst e5
      clear Hres
      go_wp2
      go_ret
      exact ⟨rfl, HB.out⟩
end Go.Proofs.Ytcamimjjmcdbcaa
