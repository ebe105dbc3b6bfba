/-
  The walk of daylaw5.AccrueTurns.
-/
import Derived.Test.YtlddkgakpoimiaaAuN
import Derived.Deep.CutBlock
namespace Go.Proofs.Ytlddkgakpoimiaa
set_option linter.unusedVariables false
set_option linter.unusedSimpArgs false
set_option maxRecDepth 100000
open Go.RowKit Go.Lib

set_option maxHeartbeats 4000000 in
theorem turns_walk (p : Pn) (pe : Int) (w : World) :
    Calls Try.prog 3 #[.agg p.cells, .int .i64 pe] w fun e w' => e = .returned (.bool true) ∧ Below w.heap.size w w' := by
  obtain ⟨w0, hw0⟩ : ∃ w0, w.alloc (.cells p.cells 23) = w0 := ⟨_, rfl⟩
  have b0 : Below w.heap.size w w0 := by rw [← hw0]; exact (Below.refl _ w).alloc (Nat.le_refl _) _
  have hs0 : w0.heap.size = w.heap.size + 1 := by rw [← hw0]; simp
  have HA : Hid (∀ W, Below w0.heap.size w0 W → PnAt W w.heap.size 0 p ∧ Below w.heap.size w W) := fun W hW =>
    ⟨(by rw [← hw0]; exact PnAt.new w p _ : PnAt w0 w.heap.size 0 p).below hW (by omega), b0.trans (hW.mono (by omega))⟩
  have HD : Hid (Calls _ _ _ _ _) := declining_ok 100 10 1 2 3 w0 (by decide)
  rw [dec_fact] at HD
  have HPo : Hid (∀ (q : Pn) pe W, spreadB q.amt q.fst q.per = true → upTo pe 120 = true → Calls Try.prog 5 #[.agg q.cells, .int .i64 pe] W fun e w' => e = .returned (.tuple #[.int .i64 (partN q.amt q.fst q.per pe), .nilIface]) ∧ Below W.heap.size W w') := planPart_ok
  have HPb : Hid (∀ W, (spreadB p.amt p.fst p.per && upTo pe 120) = false → Calls Try.prog 5 #[.agg p.cells, .int .i64 pe] W fun e w' => e = .returned (.tuple #[.int .i64 0, .iface 34 (.int .i64 1)]) ∧ Below W.heap.size W w') := planPart_bad p pe
  have HW0 : Hid (w.alloc (.cells p.cells 23) = w0) := hw0
  clear hw0 b0
  obtain ⟨ref, en, fr, tw, cu, am, fs, pr⟩ := p
  simp only [Pn.cells] at HW0 HA HPb ⊢
  go_enter Try.func3, Try.ntmps3
  go_upto_region 1 with fail
  rw [HW0.out]
  clear HW0
  go_wp2_with fail
  refine HD.out.mono ?_
  rintro e w1 ⟨rfl, hr1, hb1⟩
  obtain ⟨⟨d0, d1, d2, d3, d4, d5, d6, d7⟩, hbw1⟩ := HA.out w1 hb1
  simp only [Nat.zero_add] at d0 d1 d2 d3 d4 d5 d6 d7
  have e0 : w1.cell? ⟨w0.heap.size, 0, none⟩ = some (.int .i64 50) := hr1.cell (i := 0) (by decide)
  have e2 : w1.cell? ⟨w0.heap.size, 2, none⟩ = some (.int .i64 15) := hr1.cell (i := 2) (by decide)
  have HB1 : Hid (Below w0.heap.size w0 w1 ∧ Below w.heap.size w w1) := ⟨hb1, hbw1⟩
  clear HD hb1 hbw1 hr1 hs0
  cases c1 : spreadB am fs pr && upTo pe 120
  · have HC : Hid (Calls _ _ _ _ _) := HPb.out w1 c1
    clear HPo HPb HA c1
    go_wp2_with fail
    refine HC.out.mono ?_
    rintro e w2 ⟨rfl, hb2⟩
    have HB2 : Hid (Below w.heap.size w w2) := HB1.out.2.trans (hb2.mono HB1.out.2.size)
    clear HC HB1 hb2 d0 d1 d2 d3 d4 d5 d6 d7 e0 e2
    go_wp2
    go_ret
    exact ⟨rfl, HB2.out⟩
  obtain ⟨c1, c2⟩ : spreadB am fs pr = true ∧ upTo pe 120 = true := by simpa using c1
  have HC : Hid (Calls _ _ _ _ _) := HPo.out ⟨ref, en, fr, tw, cu, am, fs, pr⟩ pe w1 c1 c2
  simp only [Pn.cells] at HC
  go_wp2_with fail
  refine HC.out.mono ?_
  rintro e w2 ⟨rfl, hb2⟩
  have HB2 : Hid (Below w0.heap.size w0 w2) := HB1.out.1.trans (hb2.mono HB1.out.1.size)
  clear HC HB1 hb2 d0 d1 d2 d3 d4 d5 d6 d7 e0 e2
  obtain ⟨⟨d0, d1, d2, d3, d4, d5, d6, d7⟩, hbw2⟩ := HA.out w2 HB2.out
  simp only [Nat.zero_add] at d0 d1 d2 d3 d4 d5 d6 d7
  obtain ⟨_, ha', hq, hf⟩ := spreadB_iff.1 c1
  have hpb := upTo_iff.1 c2
  have hbd := partN_bd c1 c2
  unfold mostA at ha'
  have wa : IntKind.i64.wrap (-am) = -am := pn_wrap (by omega) (by omega)
  have wq : IntKind.i64.wrap (-partN am fs pr pe) = -partN am fs pr pe := pn_wrap (by omega) (by omega)
  have b3 : Below w0.heap.size w0 (w2.alloc (.cells #[.string ref, .int .i64 en, .string fr, .string tw, .string cu, .int .i64 (-am), .int .i64 fs, .int .i64 pr] 23)) := HB2.out.alloc HB2.out.size _
  have HC2 : Hid (Calls _ _ _ _ _) := HPo.out ⟨ref, en, fr, tw, cu, -am, fs, pr⟩ pe (w2.alloc (.cells #[.string ref, .int .i64 en, .string fr, .string tw, .string cu, .int .i64 (-am), .int .i64 fs, .int .i64 pr] 23)) (spread_neg c1) c2
  simp only [Pn.cells] at HC2
  rw [part_neg] at HC2
  have HR : Hid (∀ W, fs ≤ 119 → pe ≤ 119 → Calls Try.prog 5 #[.agg #[.string ref, .int .i64 en, .string fr, .string tw, .string cu, .int .i64 am, .int .i64 (fs + 1), .int .i64 pr], .int .i64 (pe + 1)] W fun e w' => e = .returned (.tuple #[.int .i64 (partN am fs pr pe), .nilIface]) ∧ Below W.heap.size W w') := fun W h1 h2 => by
    have := HPo.out ⟨ref, en, fr, tw, cu, am, fs + 1, pr⟩ (pe + 1) W (spread_later c1 h1) (upTo_iff.2 (by omega))
    simp only [Pn.cells] at this
    rw [part_later] at this
    exact this
  generalize partN am fs pr pe = x at *
  clear HPo HPb c1 c2 hbd
  go_wp2_with fail
  refine HC2.out.mono ?_
  rintro e w3 ⟨rfl, hb3⟩
  have HB3 : Hid (Below w0.heap.size w0 w3) := b3.trans (hb3.mono b3.size)
  clear HC2 b3 hb3 HB2 d0 d1 d2 d3 d4 d5 d6 d7 hbw2
  obtain ⟨⟨d0, d1, d2, d3, d4, d5, d6, d7⟩, hbw3⟩ := HA.out w3 HB3.out
  simp only [Nat.zero_add] at d0 d1 d2 d3 d4 d5 d6 d7
  by_cases c3 : 119 < fs
  · clear HR HA
    go_wp2
    go_ret
    exact ⟨rfl, hbw3⟩
  by_cases c4 : 119 < pe
  · clear HR HA
    go_wp2
    go_ret
    exact ⟨rfl, hbw3⟩
  have b4 : Below w0.heap.size w0 (w3.alloc (.cells #[.string ref, .int .i64 en, .string fr, .string tw, .string cu, .int .i64 am, .int .i64 (fs + 1), .int .i64 pr] 23)) := HB3.out.alloc HB3.out.size _
  have HC3 : Hid (Calls _ _ _ _ _) := HR.out (w3.alloc (.cells #[.string ref, .int .i64 en, .string fr, .string tw, .string cu, .int .i64 am, .int .i64 (fs + 1), .int .i64 pr] 23)) (by omega) (by omega)
  have wf : IntKind.i64.wrap (fs + 1) = fs + 1 := pn_wrap (by omega) (by omega)
  have wp : IntKind.i64.wrap (pe + 1) = pe + 1 := pn_wrap (by omega) (by omega)
  clear HR
  go_wp2_with fail
  refine HC3.out.mono ?_
  rintro e w4 ⟨rfl, hb4⟩
  have hbw4 := (HA.out w4 (b4.trans (hb4.mono b4.size))).2
  clear HC3 b4 hb4 HB3 d0 d1 d2 d3 d4 d5 d6 d7 hbw3 HA
  go_wp2
  go_ret
  exact ⟨rfl, hbw4⟩
end Go.Proofs.Ytlddkgakpoimiaa
