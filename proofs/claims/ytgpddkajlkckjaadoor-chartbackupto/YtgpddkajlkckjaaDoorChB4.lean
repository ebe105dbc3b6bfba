/-
  daylaw1.ChartBack, walked.
-/
import Derived.Test.YtgpddkajlkckjaaDoorChB3
namespace Go.Proofs.YtgpddkajlkckjaaDoor
set_option linter.unusedVariables false
set_option linter.unusedSimpArgs false
set_option maxRecDepth 100000
open Go.RowKit

theorem chE_isNil {n : Int} (h : n ≠ 0) : ∃ t v, chE n = .iface t v := ⟨_, _, chE_ne h⟩
set_option maxHeartbeats 4000000 in
theorem back_walk (a : Option Addr) (cap : Nat) (l : List Ac) (t : ByteArray) (w : World) (hg : MaxL w) (ht : t.size < 4294967281) (h : IsSl w a l cap) :
    Calls Tryd.prog 4 #[.slice a l.length cap, .string t] w fun e w' => e = .returned (.bool true) ∧ Below w.heap.size w w' := by
  have HG : Hid (∀ W, Below w.heap.size w W → MaxL W) := fun W hW => hg.below hW (Nat.le_refl _)
  have HS : Hid (∀ W, Below w.heap.size w W → IsSl W a l cap) := fun W hW => h.below hW
  have H0 := parse_u t0 (by decide) w hg
  rw [fact0] at H0
  simp only [chE_zero] at H0
  have HF : Hid (Calls _ _ _ _ _) := H0
  have HT : Hid (∀ W, Below w.heap.size w W → Calls _ _ _ W _) := fun W hW => parse_u t ht W (HG.out W hW)
  have HB : Hid ((parseS t).2.2 = 0 → chBad (parseS t).1 = 0 ∧ txt (chTxt (parseS t).1 (parseS t).1.length) = t) := fun e => print_parse (a := (parseS t).2.1) (by rw [← e])
  have HPm : Hid (∀ W a' c', IsSl W a' (parseS t).1 c' → (parseS t).2.2 = 0 → Calls Tryd.prog 9 #[.slice a' (parseS t).1.length c'] W fun e w' => e = .returned (.tuple #[.string t, .nilIface]) ∧ Below W.heap.size W w') := fun W a' c' hs e => by
    obtain ⟨q1, q2⟩ := HB.out e
    have := print_ok a' c' _ W hs q1
    rw [q2] at this
    exact this
  clear HB
  generalize parseS t = pt at *
  obtain ⟨p1, p2, p3⟩ := pt
  simp only at HT HPm
  unfold t0 at HF
  clear H0 hg h
  go_enter Tryd.func4, Tryd.ntmps4
  go_wp2_with fail
  refine HF.out.mono ?_
  rintro e w1 ⟨a1, c1, rfl, i1, b1⟩
  have HB1 : Hid (Below w.heap.size w w1) := b1
  have i1c := i1.cap
  rcases i1.lies with h0 | ⟨g1, o1, rfl, hg1, q1⟩
  · cases h0
  have d4 := (q1 0 (by decide)).c4
  have e4 : ([x0].getD 0 ac0).mon = true := rfl
  rw [e4] at d4
  simp only [List.length_cons, List.length_nil, Nat.zero_add] at d4 i1c
  clear HF i1 b1 q1 e4
  by_cases hb0 : chBad l = 0
  · have hlen := chBad_len hb0
    have hlen' := chTxt_len hb0 l.length (Nat.le_refl _)
    have HP : Hid (∀ W, Below w.heap.size w W → Calls _ _ _ W _) := fun W hW => print_ok a cap l W (HS.out W hW) hb0
    have hSz : (txt (chTxt l l.length)).size < 4294967281 := by rw [txt_size]; omega
    have HQ0 : ∀ W, Below w.heap.size w W → _ := fun W hW => parse_u (txt (chTxt l l.length)) hSz W (HG.out W hW)
    rw [parse_print hb0] at HQ0
    simp only [chE_zero] at HQ0
    have HQ : Hid (∀ W, Below w.heap.size w W → Calls _ _ _ W _) := HQ0
    clear HQ0 hlen' hSz hb0
    generalize txt (chTxt l l.length) = S at *
    go_wp2_with fail
    refine (HP.out w1 HB1.out).mono ?_
    rintro e w2 ⟨rfl, b2⟩
    have HB2 : Hid (Below w.heap.size w w2) := HB1.out.trans (b2.mono HB1.out.size)
    clear HP HB1 b2 d4
    go_wp2_with fail
    refine (HQ.out w2 HB2.out).mono ?_
    rintro e w3 ⟨a3, c3, rfl, i3, b3⟩
    have HB3 : Hid (Below w.heap.size w w3) := HB2.out.trans (b3.mono HB2.out.size)
    have HC : Hid (Calls _ _ _ _ _) := sameCharts_any a3 a c3 cap l w3 (by omega) i3 (HS.out w3 HB3.out)
    clear HQ HB2 i3 b3
    go_wp2_with fail
    refine HC.out.mono ?_
    rintro e wq ⟨rfl, b4⟩
    have HBq : Hid (Below w.heap.size w wq) := HB3.out.trans (b4.mono HB3.out.size)
    clear HC HB3 b4
    go_wp2_with fail
    refine (HT.out wq HBq.out).mono ?_
    rintro e w5 ⟨a5, c5, rfl, i5, b5⟩
    have HB5 : Hid (Below w.heap.size w w5) := HBq.out.trans (b5.mono HBq.out.size)
    by_cases hp3 : p3 = 0
    · subst hp3
      rw [chE_zero]
      have HPr : Hid (Calls _ _ _ _ _) := HPm.out w5 a5 c5 i5 rfl
      clear HT HPm i5 b5 HBq
      go_wp2_with fail
      refine HPr.out.mono ?_
      rintro e w6 ⟨rfl, b6⟩
      have HB6 : Hid (Below w.heap.size w w6) := HB5.out.trans (b6.mono HB5.out.size)
      clear HPr HB5 b6
      go_wp2
      go_ret
      exact ⟨rfl, HB6.out⟩
    · rw [chE_ne hp3]
      clear HT HPm i5 b5 HBq
      go_wp2
      go_ret
      exact ⟨rfl, HB5.out⟩
  · have HP0 : ∀ W, Below w.heap.size w W → _ := fun W hW => print_bad a cap l W (HS.out W hW) hb0
    rw [chE_ne hb0] at HP0
    have HP : Hid (∀ W, Below w.heap.size w W → Calls _ _ _ W _) := HP0
    clear HP0 hb0
    generalize chBad l = bad at *
    generalize txt [] = S at *
    go_wp2_with fail
    refine (HP.out w1 HB1.out).mono ?_
    rintro e wq ⟨rfl, b2⟩
    have HBq : Hid (Below w.heap.size w wq) := HB1.out.trans (b2.mono HB1.out.size)
    clear HP HB1 b2 d4
    go_wp2_with fail
    refine (HT.out wq HBq.out).mono ?_
    rintro e w5 ⟨a5, c5, rfl, i5, b5⟩
    have HB5 : Hid (Below w.heap.size w w5) := HBq.out.trans (b5.mono HBq.out.size)
    by_cases hp3 : p3 = 0
    · subst hp3
      rw [chE_zero]
      have HPr : Hid (Calls _ _ _ _ _) := HPm.out w5 a5 c5 i5 rfl
      clear HT HPm i5 b5 HBq
      go_wp2_with fail
      refine HPr.out.mono ?_
      rintro e w6 ⟨rfl, b6⟩
      have HB6 : Hid (Below w.heap.size w w6) := HB5.out.trans (b6.mono HB5.out.size)
      clear HPr HB5 b6
      go_wp2
      go_ret
      exact ⟨rfl, HB6.out⟩
    · rw [chE_ne hp3]
      clear HT HPm i5 b5 HBq
      go_wp2
      go_ret
      exact ⟨rfl, HB5.out⟩
end Go.Proofs.YtgpddkajlkckjaaDoor
