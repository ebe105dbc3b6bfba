/-
  The walk of daylaw3.AccrueAll.
-/
import Derived.Test.YtdadhoangnkfeaaDoorAaN
import Derived.Test.YtdadhoangnkfeaaDoorZro
namespace Go.Proofs.YtdadhoangnkfeaaDoor
set_option linter.unusedVariables false
set_option linter.unusedSimpArgs false
set_option maxRecDepth 100000
open Go.RowKit Go.Lib

set_option maxHeartbeats 8000000 in
theorem all_walk (p : Pn) (a a2 : Option Addr) (cap cap2 : Nat) (c : List Ac) (l : List Pn) (en pe : Int) (w : World) (h : IsSl w a c cap) (hl : IsPn w a2 l cap2) (hll : l.length ≤ 9223372036854775807) (ht : TabW w) :
    Calls Tryd.prog 3 #[.agg p.cells, .slice a c.length cap, .slice a2 l.length cap2, .int .i64 en, .int .i64 pe] w fun e w' => e = .returned (.bool true) ∧ Below w.heap.size w w' := by
  obtain ⟨B, hB⟩ : ∃ B, w.heap.size = B := ⟨_, rfl⟩
  obtain ⟨w0, hw0⟩ : ∃ w0, w.alloc (.cells p.cells 23) = w0 := ⟨_, rfl⟩
  have b0 : Below w.heap.size w w0 := by rw [← hw0]; exact (Below.refl _ w).alloc (Nat.le_refl _) _
  have hs0 : B < w0.heap.size := by rw [← hw0, ← hB]; simp
  have HA : Hid (∀ W, Below w0.heap.size w0 W → PnAt W B 0 p ∧ Below w.heap.size w W) := fun W hW =>
    ⟨(by rw [← hw0, ← hB]; exact PnAt.new w p _ : PnAt w0 B 0 p).below hW hs0, b0.trans (hW.mono (by omega))⟩
  have HF : Hid (Calls Tryd.prog 4 #[.agg #[.string ⟨#[]⟩, .int .i64 0, .string ⟨#[]⟩, .string ⟨#[]⟩, .string ⟨#[]⟩, .int .i64 10, .int .i64 1, .int .i64 4], .int .i64 2] w0 fun e w' => e = .returned (.tuple #[.int .i64 3, .nilIface]) ∧ Below w0.heap.size w0 w') := by
    have := planPart_ok ⟨⟨#[]⟩, 0, ⟨#[]⟩, ⟨#[]⟩, ⟨#[]⟩, 10, 1, 4⟩ 2 w0 (by decide) (by decide)
    simp only [Pn.cells] at this
    rw [all_fact] at this
    exact this
  have HEn : Hid (∀ W, Below w0.heap.size w0 W → Calls Tryd.prog 5 #[.slice a c.length cap, .slice a2 l.length cap2, .int .i64 en, .int .i64 pe] W fun e w' => ∃ v E L av cv, e = .returned (.tuple #[v, E]) ∧ (E = .nilIface ∨ ∃ z, E = .iface 37 (.int .i64 z)) ∧ v = .slice av L.length cv ∧ Hid (IsJs w' av L cv ∧ L.length ≤ 20 ∧ (∀ x ∈ L, 0 < x.lns.length ∧ x.lns.length ≤ 20 ∧ Within mostA x.lns ∧ ∀ y ∈ curSums x.lns, y.amt = 0) ∧ Below w0.heap.size w0 w')) := fun W hW => by
    refine (plEntries_any a a2 cap cap2 c l en pe W ((h.below b0).below hW) ((hl.below b0).below hW) hll ((ht.below b0).below hW)).mono ?_
    rintro e w' ⟨hb, k1, k2⟩
    by_cases hz : plBad c l en pe = 0
    · obtain ⟨v, L, rfl, hm, hL, hlen⟩ := k2 hz
      obtain ⟨av, cv, rfl, hj⟩ := hm.isJs
      exact ⟨_, _, L, av, cv, rfl, .inl rfl, rfl, hj, hlen, pl_even hz hL, hW.trans (hb.mono hW.size)⟩
    · refine ⟨_, _, [], none, 0, k1 hz, .inr ⟨plBad c l en pe, chE_ne hz⟩, rfl, ⟨Nat.le_refl _, .inl rfl, by simp⟩, by simp, by simp, hW.trans (hb.mono hW.size)⟩
  have HZr : Hid (∀ W av cv (L : List Je), IsJs W av L cv → L.length ≤ 20 → (∀ x ∈ L, 0 < x.lns.length ∧ x.lns.length ≤ 20 ∧ Within mostA x.lns ∧ ∀ y ∈ curSums x.lns, y.amt = 0) → Calls Tryd.prog 6 #[.slice av L.length cv] W fun e w' => e = .returned (.bool true) ∧ Below W.heap.size W w') := fun W av cv L k1 k2 k3 => zero_any av cv L W (by omega) k1 k3
  have HPo : Hid (∀ pe W, Below w0.heap.size w0 W → spreadB p.amt p.fst p.per = true → upTo pe 120 = true → Calls Tryd.prog 4 #[.agg p.cells, .int .i64 pe] W fun e w' => e = .returned (.tuple #[.int .i64 (partN p.amt p.fst p.per pe), .nilIface]) ∧ Below w0.heap.size w0 w') := fun pe W hW h1 h2 => by
    refine (planPart_ok p pe W h1 h2).mono ?_
    rintro e w' ⟨rfl, hb⟩
    exact ⟨rfl, hW.trans (hb.mono hW.size)⟩
  have HPb : Hid (∀ W, Below w0.heap.size w0 W → spreadB p.amt p.fst p.per = false → Calls Tryd.prog 4 #[.agg p.cells, .int .i64 1] W fun e w' => e = .returned (.tuple #[.int .i64 0, .iface 37 (.int .i64 1)]) ∧ Below w0.heap.size w0 w') := fun W hW h1 => by
    refine (planPart_bad p 1 W (by rw [h1]; rfl)).mono ?_
    rintro e w' ⟨rfl, hb⟩
    exact ⟨rfl, hW.trans (hb.mono hW.size)⟩
  have HW0 : Hid (w.alloc (.cells p.cells 23) = w0) := hw0
  clear hw0 b0 h hl ht
  obtain ⟨ref, ent, fr, tw, cu, am, fs, pr⟩ := p
  simp only [Pn.cells] at HW0 HA HPo HPb ⊢
  go_enter Tryd.func3, Tryd.ntmps3
  go_upto_region 1 with fail
  rw [HW0.out]
  clear HW0
  go_wp2_with fail
  refine HF.out.mono ?_
  rintro e w1 ⟨rfl, hb1⟩
  clear HF
  go_wp2_with fail
  refine (HEn.out w1 hb1).mono ?_
  rintro e w2 ⟨v, E, L, av, cv, rfl, hE, rfl, h2⟩
  clear HEn hb1
  go_wp2_with fail
  refine (HZr.out w2 av cv L h2.out.1 h2.out.2.1 h2.out.2.2.1).mono ?_
  rintro e w3 ⟨rfl, hb3⟩
  have HB3 : Hid (Below w0.heap.size w0 w3) := h2.out.2.2.2.trans (hb3.mono h2.out.2.2.2.size)
  clear HZr h2 hb3
  obtain ⟨⟨d0, d1, d2, d3, d4, d5, d6, d7⟩, hbw3⟩ := HA.out w3 HB3.out
  simp only [Nat.zero_add] at d0 d1 d2 d3 d4 d5 d6 d7
  have HE : Hid (E = .nilIface ∨ ∃ z, E = .iface 37 (.int .i64 z)) := hE
  clear hE
  cases c1 : spreadB am fs pr
  · have HC : Hid (Calls _ _ _ _ _) := HPb.out w3 HB3.out c1
    clear HPo HPb
    rcases HE.out with rfl | ⟨z, rfl⟩
    · clear HE
      go_wp2_with fail
      refine HC.out.mono ?_
      rintro e w4 ⟨rfl, hb4⟩
      have hbw4 := (HA.out w4 hb4).2
      clear HC HA hb4 d0 d1 d2 d3 d4 d5 d6 d7 HB3 hbw3
      go_wp2
      go_ret
      exact ⟨rfl, hbw4⟩
    · clear HE
      go_wp2_with fail
      refine HC.out.mono ?_
      rintro e w4 ⟨rfl, hb4⟩
      have hbw4 := (HA.out w4 hb4).2
      clear HC HA hb4 d0 d1 d2 d3 d4 d5 d6 d7 HB3 hbw3
      go_wp2
      go_ret
      exact ⟨rfl, hbw4⟩
  have HC : Hid (Calls _ _ _ _ _) := HPo.out 1 w3 HB3.out c1 (by decide)
  obtain ⟨ha0, ha, hq, hf⟩ := spreadB_iff.1 c1
  unfold mostA at ha
  have HSp : Hid (spreadB am fs pr = true) := c1
  have wq : IntKind.i64.wrap (120 - pr) = 120 - pr := pn_wrap (by omega) (by omega)
  clear c1 HPb
  generalize partN am fs pr 1 = x1 at *
  rcases HE.out with rfl | ⟨z, rfl⟩
  · clear HE
    go_wp2_with fail
    refine HC.out.mono ?_
    rintro e w4 ⟨rfl, hb4⟩
    have HB4 : Hid (Below w0.heap.size w0 w4) := hb4
    clear HC hb4 d0 d1 d2 d3 d4 d5 d6 d7 HB3 hbw3
    obtain ⟨⟨d0, d1, d2, d3, d4, d5, d6, d7⟩, hbw4⟩ := HA.out w4 HB4.out
    simp only [Nat.zero_add] at d0 d1 d2 d3 d4 d5 d6 d7
    by_cases c2 : 120 - pr < fs
    · clear HPo HA
      go_wp2
      go_ret
      exact ⟨rfl, hbw4⟩
    have HAll : Hid (∀ k : Int, 0 ≤ k → k < pr → partN am fs pr (fs + k) = (am * (k + 1)).tdiv pr - (am * k).tdiv pr) := fun k h0 h1 => part_at am fs pr k h0 h1
    have HLast : Hid (∀ W, Below w0.heap.size w0 W → Calls Tryd.prog 4 #[.agg #[.string ref, .int .i64 ent, .string fr, .string tw, .string cu, .int .i64 am, .int .i64 fs, .int .i64 pr], .int .i64 (fs + pr)] W fun e w' => e = .returned (.tuple #[.int .i64 0, .nilIface]) ∧ Below w0.heap.size w0 w') := fun W hW => by
      have := HPo.out (fs + pr) W hW HSp.out (upTo_iff.2 (by omega))
      rw [part_after am fs pr hq.1] at this
      exact this
    have HEach : Hid (∀ (k : Int) W, 0 ≤ k → k < pr → Below w0.heap.size w0 W → Calls Tryd.prog 4 #[.agg #[.string ref, .int .i64 ent, .string fr, .string tw, .string cu, .int .i64 am, .int .i64 fs, .int .i64 pr], .int .i64 (fs + k)] W fun e w' => e = .returned (.tuple #[.int .i64 ((am * (k + 1)).tdiv pr - (am * k).tdiv pr), .nilIface]) ∧ Below w0.heap.size w0 w') := fun k W h0 h1 hW => by
      have := HPo.out (fs + k) W hW HSp.out (upTo_iff.2 (by omega))
      rw [HAll.out k h0 h1] at this
      exact this
    have HSgn : Hid (∀ k : Int, 0 ≤ k → (0 < am → (0 ≤ (am * (k + 1)).tdiv pr - (am * k).tdiv pr ∧ loN am pr ≤ (am * (k + 1)).tdiv pr - (am * k).tdiv pr ∧ (am * (k + 1)).tdiv pr - (am * k).tdiv pr ≤ loN am pr + 1 ∧ (am * (k + 1)).tdiv pr - (am * k).tdiv pr ≤ am)) ∧ (am < 0 → ((am * (k + 1)).tdiv pr - (am * k).tdiv pr ≤ 0 ∧ loN am pr ≤ (am * (k + 1)).tdiv pr - (am * k).tdiv pr ∧ (am * (k + 1)).tdiv pr - (am * k).tdiv pr ≤ loN am pr + 1 ∧ am ≤ (am * (k + 1)).tdiv pr - (am * k).tdiv pr))) := fun k h0 => part_is hq.1 h0
    have HSum : Hid ((am * pr).tdiv pr = am) := part_sum am pr hq.1
    have HBd : Hid (∀ k : Int, 0 ≤ k → k ≤ pr → -120000000000000000 ≤ (am * k).tdiv pr ∧ (am * k).tdiv pr ≤ 120000000000000000) := fun k h0 h1 => pn_tdiv (pn_mul (by unfold mostA; exact ha) h0 (by omega)) hq.1
    have wl : IntKind.i64.wrap (fs + pr) = fs + pr := pn_wrap (by omega) (by omega)
    clear HPo HAll HSp
    obtain ⟨P, hP⟩ : ∃ P : Nat, pr = (P : Int) := ⟨pr.toNat, by omega⟩
    subst hP
    have i0 : ¬ (120 : Int) - P < fs := c2
    clear c2
    go_wp2
    obtain ⟨wo, hwo⟩ : ∃ wo, wo = w4 := ⟨_, rfl⟩
    subst hwo
    go_loopw [16, 17, 18, 19] (fun s x y i wr => ∃ (k : Nat) (xs ys : Int), k ≤ P ∧ i = .int .i64 k ∧ s = .int .i64 ((am * (k : Int)).tdiv P) ∧ x = .int .i64 xs ∧ y = .int .i64 ys ∧ Hid (spanI (loN am P) k xs ys) ∧ Hid (Below w0.heap.size w0 wr)) (fun _ _ _ i _ => P - (RowKit.intOf i).toNat)
    case atStart => exact ⟨0, 0, 0, Nat.zero_le _, rfl, by simp, rfl, rfl, .inl rfl, HB4⟩
    case round =>
      obtain ⟨k, xs, ys, hk, rfl, rfl, rfl, rfl, HX, HB⟩ := hrel
      clear d0 d1 d2 d3 d4 d5 d6 d7 hbw4
      obtain ⟨⟨d0, d1, d2, d3, d4, d5, d6, d7⟩, hbwr⟩ := HA.out wr HB.out
      simp only [Nat.zero_add] at d0 d1 d2 d3 d4 d5 d6 d7
      by_cases hkp : k < P
      · have HC : Hid (Calls _ _ _ _ _) := HEach.out k wr (by omega) (by omega) HB.out
        have hsg := HSgn.out k (by omega)
        have hb0 := HBd.out k (by omega) (by omega)
        have hb1 := HBd.out (k + 1) (by omega) (by omega)
        have wf : IntKind.i64.wrap (fs + (k : Int)) = fs + (k : Int) := pn_wrap (by omega) (by omega)
        have hcast : (((k + 1 : Nat) : Int)) = (k : Int) + 1 := by omega
        have HNx : Hid ((am * ((k + 1 : Nat) : Int)).tdiv P = (am * ((k : Int) + 1)).tdiv P) := by rw [hcast]; rfl
        generalize (am * ((k : Int) + 1)).tdiv P = s1 at *
        generalize (am * (k : Int)).tdiv P = s0 at *
        obtain ⟨n, hn⟩ : ∃ n, s1 - s0 = n := ⟨_, rfl⟩
        rw [hn] at HC hsg
        have ws : IntKind.i64.wrap (s0 + n) = s0 + n := pn_wrap (by omega) (by omega)
        have HN1 : Hid (s0 + n = (am * ((k + 1 : Nat) : Int)).tdiv P) := by rw [HNx.out]; unfold Hid; omega
        have HSg : Hid ((loN am P ≤ n ∧ n ≤ loN am P + 1) ∧ (0 < am → 0 ≤ n) ∧ (am < 0 → n ≤ 0)) := by
          rcases (by omega : 0 < am ∨ am < 0) with hs | hs
          · have := hsg.1 hs; exact ⟨⟨this.2.1, this.2.2.1⟩, fun _ => this.1, fun h => by omega⟩
          · have := hsg.2 hs; exact ⟨⟨this.2.1, this.2.2.1⟩, fun h => by omega, fun _ => this.1⟩
        have j0 : (0 : Int) ≤ k := by omega
        have j1 : (k : Int) < P := by omega
        clear hn hsg hb0 hb1 hcast HNx HBd HSgn HEach HLast HSum
        go_wp2_with fail
        refine HC.out.mono ?_
        rintro e w5 ⟨rfl, hb5⟩
        have HB5 : Hid (Below w0.heap.size w0 w5) := hb5
        clear HC hb5 d0 d1 d2 d3 d4 d5 d6 d7 hbwr HB
        obtain ⟨⟨d0, d1, d2, d3, d4, d5, d6, d7⟩, _⟩ := HA.out w5 HB5.out
        simp only [Nat.zero_add] at d0 d1 d2 d3 d4 d5 d6 d7
        rcases (by omega : 0 < am ∨ am < 0) with hs | hs
        · have n0 : ¬ n < 0 := by have := HSg.out.2.1 hs; omega
          have a0 : ¬ am < 0 := by omega
          by_cases k0 : k = 0
          · subst k0
            have HX1 : Hid (spanI (loN am P) (0 + 1) n n) := .inr ⟨HSg.out.1, HSg.out.1⟩
            clear HX HSg HA
            go_wp2
            go_roundw
            case rel => exact ⟨0 + 1, _, _, by omega, by go_num, by rw [← HN1.out], rfl, rfl, HX1, HB5⟩
            case measure => simp [RowKit.intOf]; omega
          have k0' : ((k : Int) == 0) = false := by rw [beq_eq_false_iff_ne]; omega
          have hx := HX.out.resolve_left k0
          by_cases cx : n < xs
          · by_cases cy : ys < n
            · have HX1 : Hid (spanI (loN am P) (k + 1) n n) := .inr ⟨HSg.out.1, HSg.out.1⟩
              clear HX HSg HA hx
              go_wp2
              go_roundw
              case rel => exact ⟨k + 1, _, _, by omega, by go_num, by rw [← HN1.out], rfl, rfl, HX1, HB5⟩
              case measure => simp [RowKit.intOf]; omega
            · have HX1 : Hid (spanI (loN am P) (k + 1) n ys) := .inr ⟨HSg.out.1, hx.2⟩
              clear HX HSg HA hx
              go_wp2
              go_roundw
              case rel => exact ⟨k + 1, _, _, by omega, by go_num, by rw [← HN1.out], rfl, rfl, HX1, HB5⟩
              case measure => simp [RowKit.intOf]; omega
          · by_cases cy : ys < n
            · have HX1 : Hid (spanI (loN am P) (k + 1) xs n) := .inr ⟨hx.1, HSg.out.1⟩
              clear HX HSg HA hx
              go_wp2
              go_roundw
              case rel => exact ⟨k + 1, _, _, by omega, by go_num, by rw [← HN1.out], rfl, rfl, HX1, HB5⟩
              case measure => simp [RowKit.intOf]; omega
            · have HX1 : Hid (spanI (loN am P) (k + 1) xs ys) := .inr ⟨hx.1, hx.2⟩
              clear HX HSg HA hx
              go_wp2
              go_roundw
              case rel => exact ⟨k + 1, _, _, by omega, by go_num, by rw [← HN1.out], rfl, rfl, HX1, HB5⟩
              case measure => simp [RowKit.intOf]; omega
        · have n0 : ¬ 0 < n := by have := HSg.out.2.2 hs; omega
          have a0 : ¬ 0 < am := by omega
          by_cases k0 : k = 0
          · subst k0
            have HX1 : Hid (spanI (loN am P) (0 + 1) n n) := .inr ⟨HSg.out.1, HSg.out.1⟩
            clear HX HSg HA
            go_wp2
            go_roundw
            case rel => exact ⟨0 + 1, _, _, by omega, by go_num, by rw [← HN1.out], rfl, rfl, HX1, HB5⟩
            case measure => simp [RowKit.intOf]; omega
          have k0' : ((k : Int) == 0) = false := by rw [beq_eq_false_iff_ne]; omega
          have hx := HX.out.resolve_left k0
          by_cases cx : n < xs
          · by_cases cy : ys < n
            · have HX1 : Hid (spanI (loN am P) (k + 1) n n) := .inr ⟨HSg.out.1, HSg.out.1⟩
              clear HX HSg HA hx
              go_wp2
              go_roundw
              case rel => exact ⟨k + 1, _, _, by omega, by go_num, by rw [← HN1.out], rfl, rfl, HX1, HB5⟩
              case measure => simp [RowKit.intOf]; omega
            · have HX1 : Hid (spanI (loN am P) (k + 1) n ys) := .inr ⟨HSg.out.1, hx.2⟩
              clear HX HSg HA hx
              go_wp2
              go_roundw
              case rel => exact ⟨k + 1, _, _, by omega, by go_num, by rw [← HN1.out], rfl, rfl, HX1, HB5⟩
              case measure => simp [RowKit.intOf]; omega
          · by_cases cy : ys < n
            · have HX1 : Hid (spanI (loN am P) (k + 1) xs n) := .inr ⟨hx.1, HSg.out.1⟩
              clear HX HSg HA hx
              go_wp2
              go_roundw
              case rel => exact ⟨k + 1, _, _, by omega, by go_num, by rw [← HN1.out], rfl, rfl, HX1, HB5⟩
              case measure => simp [RowKit.intOf]; omega
            · have HX1 : Hid (spanI (loN am P) (k + 1) xs ys) := .inr ⟨hx.1, hx.2⟩
              clear HX HSg HA hx
              go_wp2
              go_roundw
              case rel => exact ⟨k + 1, _, _, by omega, by go_num, by rw [← HN1.out], rfl, rfl, HX1, HB5⟩
              case measure => simp [RowKit.intOf]; omega
      · have ek : k = P := by omega
        subst ek
        have HC : Hid (Calls _ _ _ _ _) := HLast.out wr HB.out
        have HY : Hid (ys - xs ≤ 1 ∧ -9223372036854775808 ≤ ys - xs ∧ ys - xs ≤ 9223372036854775807) := by
          unfold Hid
          have hlo : -120000000000000001 ≤ loN am k ∧ loN am k ≤ 120000000000000000 := by
            have := (HSgn.out 0 (by omega))
            have b0 := HBd.out 0 (by omega) (by omega)
            have b1 := HBd.out 1 (by omega) (by omega)
            rcases (by omega : 0 < am ∨ am < 0) with hs | hs
            · have t := this.1 hs; simp only [Int.zero_add] at t; omega
            · have t := this.2 hs; simp only [Int.zero_add] at t; omega
          rcases HX.out with h | h
          · omega
          · omega
        have hy := HY.out.1
        have wy : IntKind.i64.wrap (ys - xs) = ys - xs := pn_wrap HY.out.2.1 HY.out.2.2
        have es := HSum.out
        have j1 : ¬ (k : Int) < k := by omega
        rw [es]
        clear HEach HSgn HBd HLast HSum es HX HY
        go_wp2_with fail
        refine HC.out.mono ?_
        rintro e w5 ⟨rfl, hb5⟩
        have HB5 : Hid (Below w0.heap.size w0 w5) := hb5
        clear HC hb5 d0 d1 d2 d3 d4 d5 d6 d7 hbwr HB
        obtain ⟨⟨d0, d1, d2, d3, d4, d5, d6, d7⟩, hbw5⟩ := HA.out w5 HB5.out
        simp only [Nat.zero_add] at d0 d1 d2 d3 d4 d5 d6 d7
        clear HA
        go_wp2
        go_ret
        exact ⟨by simp [hy], hbw5⟩
  · clear HE
    go_wp2_with fail
    refine HC.out.mono ?_
    rintro e w4 ⟨rfl, hb4⟩
    have HB4 : Hid (Below w0.heap.size w0 w4) := hb4
    clear HC hb4 d0 d1 d2 d3 d4 d5 d6 d7 HB3 hbw3
    obtain ⟨⟨d0, d1, d2, d3, d4, d5, d6, d7⟩, hbw4⟩ := HA.out w4 HB4.out
    simp only [Nat.zero_add] at d0 d1 d2 d3 d4 d5 d6 d7
    by_cases c2 : 120 - pr < fs
    · clear HPo HA
      go_wp2
      go_ret
      exact ⟨rfl, hbw4⟩
    have HAll : Hid (∀ k : Int, 0 ≤ k → k < pr → partN am fs pr (fs + k) = (am * (k + 1)).tdiv pr - (am * k).tdiv pr) := fun k h0 h1 => part_at am fs pr k h0 h1
    have HLast : Hid (∀ W, Below w0.heap.size w0 W → Calls Tryd.prog 4 #[.agg #[.string ref, .int .i64 ent, .string fr, .string tw, .string cu, .int .i64 am, .int .i64 fs, .int .i64 pr], .int .i64 (fs + pr)] W fun e w' => e = .returned (.tuple #[.int .i64 0, .nilIface]) ∧ Below w0.heap.size w0 w') := fun W hW => by
      have := HPo.out (fs + pr) W hW HSp.out (upTo_iff.2 (by omega))
      rw [part_after am fs pr hq.1] at this
      exact this
    have HEach : Hid (∀ (k : Int) W, 0 ≤ k → k < pr → Below w0.heap.size w0 W → Calls Tryd.prog 4 #[.agg #[.string ref, .int .i64 ent, .string fr, .string tw, .string cu, .int .i64 am, .int .i64 fs, .int .i64 pr], .int .i64 (fs + k)] W fun e w' => e = .returned (.tuple #[.int .i64 ((am * (k + 1)).tdiv pr - (am * k).tdiv pr), .nilIface]) ∧ Below w0.heap.size w0 w') := fun k W h0 h1 hW => by
      have := HPo.out (fs + k) W hW HSp.out (upTo_iff.2 (by omega))
      rw [HAll.out k h0 h1] at this
      exact this
    have HSgn : Hid (∀ k : Int, 0 ≤ k → (0 < am → (0 ≤ (am * (k + 1)).tdiv pr - (am * k).tdiv pr ∧ loN am pr ≤ (am * (k + 1)).tdiv pr - (am * k).tdiv pr ∧ (am * (k + 1)).tdiv pr - (am * k).tdiv pr ≤ loN am pr + 1 ∧ (am * (k + 1)).tdiv pr - (am * k).tdiv pr ≤ am)) ∧ (am < 0 → ((am * (k + 1)).tdiv pr - (am * k).tdiv pr ≤ 0 ∧ loN am pr ≤ (am * (k + 1)).tdiv pr - (am * k).tdiv pr ∧ (am * (k + 1)).tdiv pr - (am * k).tdiv pr ≤ loN am pr + 1 ∧ am ≤ (am * (k + 1)).tdiv pr - (am * k).tdiv pr))) := fun k h0 => part_is hq.1 h0
    have HSum : Hid ((am * pr).tdiv pr = am) := part_sum am pr hq.1
    have HBd : Hid (∀ k : Int, 0 ≤ k → k ≤ pr → -120000000000000000 ≤ (am * k).tdiv pr ∧ (am * k).tdiv pr ≤ 120000000000000000) := fun k h0 h1 => pn_tdiv (pn_mul (by unfold mostA; exact ha) h0 (by omega)) hq.1
    have wl : IntKind.i64.wrap (fs + pr) = fs + pr := pn_wrap (by omega) (by omega)
    clear HPo HAll HSp
    obtain ⟨P, hP⟩ : ∃ P : Nat, pr = (P : Int) := ⟨pr.toNat, by omega⟩
    subst hP
    have i0 : ¬ (120 : Int) - P < fs := c2
    clear c2
    go_wp2
    obtain ⟨wo, hwo⟩ : ∃ wo, wo = w4 := ⟨_, rfl⟩
    subst hwo
    go_loopw [16, 17, 18, 19] (fun s x y i wr => ∃ (k : Nat) (xs ys : Int), k ≤ P ∧ i = .int .i64 k ∧ s = .int .i64 ((am * (k : Int)).tdiv P) ∧ x = .int .i64 xs ∧ y = .int .i64 ys ∧ Hid (spanI (loN am P) k xs ys) ∧ Hid (Below w0.heap.size w0 wr)) (fun _ _ _ i _ => P - (RowKit.intOf i).toNat)
    case atStart => exact ⟨0, 0, 0, Nat.zero_le _, rfl, by simp, rfl, rfl, .inl rfl, HB4⟩
    case round =>
      obtain ⟨k, xs, ys, hk, rfl, rfl, rfl, rfl, HX, HB⟩ := hrel
      clear d0 d1 d2 d3 d4 d5 d6 d7 hbw4
      obtain ⟨⟨d0, d1, d2, d3, d4, d5, d6, d7⟩, hbwr⟩ := HA.out wr HB.out
      simp only [Nat.zero_add] at d0 d1 d2 d3 d4 d5 d6 d7
      by_cases hkp : k < P
      · have HC : Hid (Calls _ _ _ _ _) := HEach.out k wr (by omega) (by omega) HB.out
        have hsg := HSgn.out k (by omega)
        have hb0 := HBd.out k (by omega) (by omega)
        have hb1 := HBd.out (k + 1) (by omega) (by omega)
        have wf : IntKind.i64.wrap (fs + (k : Int)) = fs + (k : Int) := pn_wrap (by omega) (by omega)
        have hcast : (((k + 1 : Nat) : Int)) = (k : Int) + 1 := by omega
        have HNx : Hid ((am * ((k + 1 : Nat) : Int)).tdiv P = (am * ((k : Int) + 1)).tdiv P) := by rw [hcast]; rfl
        generalize (am * ((k : Int) + 1)).tdiv P = s1 at *
        generalize (am * (k : Int)).tdiv P = s0 at *
        obtain ⟨n, hn⟩ : ∃ n, s1 - s0 = n := ⟨_, rfl⟩
        rw [hn] at HC hsg
        have ws : IntKind.i64.wrap (s0 + n) = s0 + n := pn_wrap (by omega) (by omega)
        have HN1 : Hid (s0 + n = (am * ((k + 1 : Nat) : Int)).tdiv P) := by rw [HNx.out]; unfold Hid; omega
        have HSg : Hid ((loN am P ≤ n ∧ n ≤ loN am P + 1) ∧ (0 < am → 0 ≤ n) ∧ (am < 0 → n ≤ 0)) := by
          rcases (by omega : 0 < am ∨ am < 0) with hs | hs
          · have := hsg.1 hs; exact ⟨⟨this.2.1, this.2.2.1⟩, fun _ => this.1, fun h => by omega⟩
          · have := hsg.2 hs; exact ⟨⟨this.2.1, this.2.2.1⟩, fun h => by omega, fun _ => this.1⟩
        have j0 : (0 : Int) ≤ k := by omega
        have j1 : (k : Int) < P := by omega
        clear hn hsg hb0 hb1 hcast HNx HBd HSgn HEach HLast HSum
        go_wp2_with fail
        refine HC.out.mono ?_
        rintro e w5 ⟨rfl, hb5⟩
        have HB5 : Hid (Below w0.heap.size w0 w5) := hb5
        clear HC hb5 d0 d1 d2 d3 d4 d5 d6 d7 hbwr HB
        obtain ⟨⟨d0, d1, d2, d3, d4, d5, d6, d7⟩, _⟩ := HA.out w5 HB5.out
        simp only [Nat.zero_add] at d0 d1 d2 d3 d4 d5 d6 d7
        rcases (by omega : 0 < am ∨ am < 0) with hs | hs
        · have n0 : ¬ n < 0 := by have := HSg.out.2.1 hs; omega
          have a0 : ¬ am < 0 := by omega
          by_cases k0 : k = 0
          · subst k0
            have HX1 : Hid (spanI (loN am P) (0 + 1) n n) := .inr ⟨HSg.out.1, HSg.out.1⟩
            clear HX HSg HA
            go_wp2
            go_roundw
            case rel => exact ⟨0 + 1, _, _, by omega, by go_num, by rw [← HN1.out], rfl, rfl, HX1, HB5⟩
            case measure => simp [RowKit.intOf]; omega
          have k0' : ((k : Int) == 0) = false := by rw [beq_eq_false_iff_ne]; omega
          have hx := HX.out.resolve_left k0
          by_cases cx : n < xs
          · by_cases cy : ys < n
            · have HX1 : Hid (spanI (loN am P) (k + 1) n n) := .inr ⟨HSg.out.1, HSg.out.1⟩
              clear HX HSg HA hx
              go_wp2
              go_roundw
              case rel => exact ⟨k + 1, _, _, by omega, by go_num, by rw [← HN1.out], rfl, rfl, HX1, HB5⟩
              case measure => simp [RowKit.intOf]; omega
            · have HX1 : Hid (spanI (loN am P) (k + 1) n ys) := .inr ⟨HSg.out.1, hx.2⟩
              clear HX HSg HA hx
              go_wp2
              go_roundw
              case rel => exact ⟨k + 1, _, _, by omega, by go_num, by rw [← HN1.out], rfl, rfl, HX1, HB5⟩
              case measure => simp [RowKit.intOf]; omega
          · by_cases cy : ys < n
            · have HX1 : Hid (spanI (loN am P) (k + 1) xs n) := .inr ⟨hx.1, HSg.out.1⟩
              clear HX HSg HA hx
              go_wp2
              go_roundw
              case rel => exact ⟨k + 1, _, _, by omega, by go_num, by rw [← HN1.out], rfl, rfl, HX1, HB5⟩
              case measure => simp [RowKit.intOf]; omega
            · have HX1 : Hid (spanI (loN am P) (k + 1) xs ys) := .inr ⟨hx.1, hx.2⟩
              clear HX HSg HA hx
              go_wp2
              go_roundw
              case rel => exact ⟨k + 1, _, _, by omega, by go_num, by rw [← HN1.out], rfl, rfl, HX1, HB5⟩
              case measure => simp [RowKit.intOf]; omega
        · have n0 : ¬ 0 < n := by have := HSg.out.2.2 hs; omega
          have a0 : ¬ 0 < am := by omega
          by_cases k0 : k = 0
          · subst k0
            have HX1 : Hid (spanI (loN am P) (0 + 1) n n) := .inr ⟨HSg.out.1, HSg.out.1⟩
            clear HX HSg HA
            go_wp2
            go_roundw
            case rel => exact ⟨0 + 1, _, _, by omega, by go_num, by rw [← HN1.out], rfl, rfl, HX1, HB5⟩
            case measure => simp [RowKit.intOf]; omega
          have k0' : ((k : Int) == 0) = false := by rw [beq_eq_false_iff_ne]; omega
          have hx := HX.out.resolve_left k0
          by_cases cx : n < xs
          · by_cases cy : ys < n
            · have HX1 : Hid (spanI (loN am P) (k + 1) n n) := .inr ⟨HSg.out.1, HSg.out.1⟩
              clear HX HSg HA hx
              go_wp2
              go_roundw
              case rel => exact ⟨k + 1, _, _, by omega, by go_num, by rw [← HN1.out], rfl, rfl, HX1, HB5⟩
              case measure => simp [RowKit.intOf]; omega
            · have HX1 : Hid (spanI (loN am P) (k + 1) n ys) := .inr ⟨HSg.out.1, hx.2⟩
              clear HX HSg HA hx
              go_wp2
              go_roundw
              case rel => exact ⟨k + 1, _, _, by omega, by go_num, by rw [← HN1.out], rfl, rfl, HX1, HB5⟩
              case measure => simp [RowKit.intOf]; omega
          · by_cases cy : ys < n
            · have HX1 : Hid (spanI (loN am P) (k + 1) xs n) := .inr ⟨hx.1, HSg.out.1⟩
              clear HX HSg HA hx
              go_wp2
              go_roundw
              case rel => exact ⟨k + 1, _, _, by omega, by go_num, by rw [← HN1.out], rfl, rfl, HX1, HB5⟩
              case measure => simp [RowKit.intOf]; omega
            · have HX1 : Hid (spanI (loN am P) (k + 1) xs ys) := .inr ⟨hx.1, hx.2⟩
              clear HX HSg HA hx
              go_wp2
              go_roundw
              case rel => exact ⟨k + 1, _, _, by omega, by go_num, by rw [← HN1.out], rfl, rfl, HX1, HB5⟩
              case measure => simp [RowKit.intOf]; omega
      · have ek : k = P := by omega
        subst ek
        have HC : Hid (Calls _ _ _ _ _) := HLast.out wr HB.out
        have HY : Hid (ys - xs ≤ 1 ∧ -9223372036854775808 ≤ ys - xs ∧ ys - xs ≤ 9223372036854775807) := by
          unfold Hid
          have hlo : -120000000000000001 ≤ loN am k ∧ loN am k ≤ 120000000000000000 := by
            have := (HSgn.out 0 (by omega))
            have b0 := HBd.out 0 (by omega) (by omega)
            have b1 := HBd.out 1 (by omega) (by omega)
            rcases (by omega : 0 < am ∨ am < 0) with hs | hs
            · have t := this.1 hs; simp only [Int.zero_add] at t; omega
            · have t := this.2 hs; simp only [Int.zero_add] at t; omega
          rcases HX.out with h | h
          · omega
          · omega
        have hy := HY.out.1
        have wy : IntKind.i64.wrap (ys - xs) = ys - xs := pn_wrap HY.out.2.1 HY.out.2.2
        have es := HSum.out
        have j1 : ¬ (k : Int) < k := by omega
        rw [es]
        clear HEach HSgn HBd HLast HSum es HX HY
        go_wp2_with fail
        refine HC.out.mono ?_
        rintro e w5 ⟨rfl, hb5⟩
        have HB5 : Hid (Below w0.heap.size w0 w5) := hb5
        clear HC hb5 d0 d1 d2 d3 d4 d5 d6 d7 hbwr HB
        obtain ⟨⟨d0, d1, d2, d3, d4, d5, d6, d7⟩, hbw5⟩ := HA.out w5 HB5.out
        simp only [Nat.zero_add] at d0 d1 d2 d3 d4 d5 d6 d7
        clear HA
        go_wp2
        go_ret
        exact ⟨by simp [hy], hbw5⟩
end Go.Proofs.YtdadhoangnkfeaaDoor
