/-
  The contract of entry.Check.
-/
import Derived.Test.YtffekgndlhleiaaDoorEn10
namespace Go.Proofs.YtffekgndlhleiaaDoor
set_option linter.unusedVariables false
set_option linter.unusedSimpArgs false
set_option maxRecDepth 100000
open Go.RowKit Go.Lib

/-- A line of something. -/
def someL (x : Ln) : Bool := !nullL x
theorem check1_any (x : Ln) (w : World) :
    Calls Tryd.prog 24 #[.agg x.cells] w fun e w' => e = .returned (.bool (someL x)) ∧ Below w.heap.size w w' := by
  obtain ⟨a0, a1, a2⟩ := x
  have b0 : Below w.heap.size w (w.alloc (.cells #[.string a0, .string a1, .int .i64 a2] 55)) := (Below.refl _ w).alloc (Nat.le_refl _) _
  simp only [Ln.cells, someL, nullL]
  by_cases h : a2 = 0
  · rw [decide_eq_true h]
    subst h
    go_enter Tryd.func24, Tryd.ntmps24
    go_wp2
    go_ret
    exact ⟨rfl, b0⟩
  · rw [decide_eq_false h]
    have h' : (a2 != 0) = true := by simpa using h
    go_enter Tryd.func24, Tryd.ntmps24
    go_wp2
    go_ret
    exact ⟨rfl, b0⟩
theorem check1_tells : LTells 24 someL :=
  ⟨fun args W => en_enters Tryd.func24 (by kernel_rfl) ⟨_, rfl⟩ args W, check1_any⟩

/-- What is wrong with lines, one by one. -/
def linesBad (c : List Ac) : List Ln → Int
  | [] => 0
  | x :: r => if lnBad c x ≠ 0 then lnBad c x else linesBad c r
/-- What is wrong with an entry. -/
def entBad (c : List Ac) (r : ByteArray) (en pe : Int) (l : List Ln) : Int :=
  if chBad c ≠ 0 then chBad c else if headBad r en pe l.length ≠ 0 then headBad r en pe l.length else if linesBad c l ≠ 0 then linesBad c l else if (curSums l).any someL = true then 11 else 0

theorem linesBad_zero {c : List Ac} : ∀ {l : List Ln}, linesBad c l = 0 → ∀ x ∈ l, lnBad c x = 0
  | [], _, x, hx => by simp at hx
  | y :: l, h, x, hx => by
    rw [linesBad] at h
    split at h
    · rename_i hy; exact absurd h hy
    · rename_i hy
      rcases List.mem_cons.1 hx with rfl | hx
      · exact Classical.not_not.1 hy
      · exact linesBad_zero h x hx
theorem linesBad_of {c : List Ac} : ∀ {l : List Ln}, (∀ x ∈ l, lnBad c x = 0) → linesBad c l = 0
  | [], _ => rfl
  | y :: l, h => by
    rw [linesBad, if_neg (by rw [h y (by simp)]; simp)]
    exact linesBad_of (fun x hx => h x (by simp [hx]))
theorem lnBad_amt {c : List Ac} {x : Ln} (h : lnBad c x = 0) : -mostA ≤ x.amt ∧ x.amt ≤ mostA := by
  unfold lnBad at h
  split at h
  · omega
  · split at h
    · omega
    · split at h
      · omega
      · split at h
        · omega
        · rename_i hh
          simp only [not_or] at hh
          exact isAmtB_iff.1 (by simpa using hh.2)
theorem headBad_len {r : ByteArray} {en pe : Int} {n : Nat} (h : headBad r en pe n = 0) : 2 ≤ n ∧ n ≤ 20 := by
  unfold headBad at h
  split at h
  · omega
  · split at h
    · omega
    · split at h
      · omega
      · split at h
        · omega
        · omega

set_option maxHeartbeats 4000000 in
theorem check_any (ca : Option Addr) (cc : Nat) (c : List Ac) (r : ByteArray) (en pe : Int) (a : Option Addr) (cap : Nat) (l : List Ln) (w : World) (hc : IsSl w ca c cc) (h : IsLn w a l cap) :
    Calls Tryd.prog 14 #[.slice ca c.length cc, .agg #[.string r, .int .i64 en, .int .i64 pe, .slice a l.length cap]] w fun e w' => e = .returned (enE (entBad c r en pe l)) ∧ Below w.heap.size w w' := by
  have b0 : Below w.heap.size w (w.alloc (.cells #[.string r, .int .i64 en, .int .i64 pe, .slice a l.length cap] 33)) := (Below.refl _ w).alloc (Nat.le_refl _) _
  have x0 := Box4.new w r en pe (.slice a l.length cap)
  have hs0 : (w.alloc (.cells #[.string r, .int .i64 en, .int .i64 pe, .slice a l.length cap] 33)).heap.size = w.heap.size + 1 := by simp
  obtain ⟨res, hres⟩ : ∃ res, entBad c r en pe l = res := ⟨_, rfl⟩
  rw [hres]
  have Hres : Hid (entBad c r en pe l = res) := hres
  clear hres
  by_cases h1 : chBad c = 0
  · have hL := leafCheck_ok ca cc c _ (hc.below b0) h1
    have HL : Hid (Calls _ _ _ _ _) := hL
    have hlen := chBad_len h1
    have HH : Hid (∀ W, Calls Tryd.prog 20 #[.agg #[.string r, .int .i64 en, .int .i64 pe, .slice a l.length cap]] W fun e w' => e = .returned (enE (headBad r en pe l.length)) ∧ Below W.heap.size W w') := fun W => checkHead_any r en pe a cap l.length W
    go_enter Tryd.func14, Tryd.ntmps14
    go_wp2_with fail
    refine HL.out.mono ?_
    rintro e w1 ⟨F1, F2, rfl, tr1, hb1⟩
    rw [hs0] at hb1
    have B1 := b0.trans (hb1.mono (by omega))
    have hs1 := hb1.size
    rw [hs0] at hs1
    have y1 := x0.below hb1 (by omega)
    have c0 := y1.c0
    have c1 := y1.c1
    have c2 := y1.c2
    have c3 := y1.c3
    have HHo := HH.out w1
    have HHH : Hid (Calls _ _ _ _ _) := HHo
    clear HL hL hb1 b0 x0 HHo HH
    by_cases h2 : headBad r en pe l.length = 0
    · rw [h2, enE_zero] at HHH
      go_wp2_with fail
      refine HHH.out.mono ?_
      rintro e w2 ⟨rfl, hb2⟩
      have B2 := B1.trans (hb2.mono (by omega))
      have hs2 := hb2.size
      have y2 := y1.below hb2 (by omega)
      have tr2 := tr1.below hb2
      clear y1 c0 c1 c2 c3 HHH tr1
      have c3 := y2.c3
      have hll := headBad_len h2
      have Hlen : (l.length : Int) ≤ 20 := by omega
      have ER : Hid (res = if linesBad c l ≠ 0 then linesBad c l else if (curSums l).any someL = true then 11 else 0) := by
        unfold Hid
        rw [← Hres.out]
        unfold entBad
        rw [if_neg (by simp [h1]), if_neg (by simp [h2])]
      rcases h.lies with h0 | ⟨b, off, rfl, hbl, hcl⟩
      · rw [h0] at hll; simp at hll
      have Hc : Hid (LnsAt w b off l) := hcl
      have Hsl : Hid (IsLn w (some ⟨b, off, none⟩) l cap) := h
      have HK : Hid (∀ x W, Below w2.heap.size w2 W → Calls Tryd.prog 21 #[.agg x.cells, .func (.func 29) #[] #[.pointer (some ⟨F1, 0, none⟩), .pointer (some ⟨F2, 0, none⟩)]] W fun e w' => e = .returned (enE (lnBad c x)) ∧ Below W.heap.size W w') := fun x W hW => checkLine_any c F1 F2 x W (tr2.below hW)
      clear Hres hcl h hc h2 h1 tr2
      go_wp2
      go_loopw [27] (fun i wr => ∃ k : Nat, k ≤ l.length ∧ i = .int .i64 k ∧ Hid (res = if linesBad c (l.drop k) ≠ 0 then linesBad c (l.drop k) else if (curSums l).any someL = true then 11 else 0) ∧ Hid (∀ x ∈ l.take k, lnBad c x = 0) ∧ Below w2.heap.size w2 wr) (fun i _ => l.length - (intOf i).toNat)
      case atStart => exact ⟨0, Nat.zero_le _, rfl, ER, (fun x hx => by simp at hx), Below.refl _ _⟩
      case round =>
        obtain ⟨k, hk, rfl, H, HA, BW⟩ := hrel
        have hws := BW.size
        have B3 := B2.trans (BW.mono (by omega))
        by_cases hlt : k < l.length
        · have hn := (Hc.out k hlt).below B3 hbl
          have E := H.out
          rw [lns_drop l k hlt, linesBad] at E
          have B4 := BW.alloc (by omega) (.cells (l.getD k ln0).cells 55)
          have hcall := HK.out (l.getD k ln0) _ B4
          have HA2 : Hid (lnBad c (l.getD k ln0) = 0 → ∀ x ∈ l.take (k + 1), lnBad c x = 0) := fun h0 x hx => by
            rw [lns_take l k hlt] at hx
            rcases List.mem_append.1 hx with hx | hx
            · exact HA.out x hx
            · rw [List.mem_singleton.1 hx]; exact h0
          generalize l.getD k ln0 = x at *
          have Hcall : Hid (Calls _ _ _ _ _) := hcall
          have HE : Hid (res = _) := E
          clear hcall E H HA
          obtain ⟨x0, x1, x2⟩ := x
          obtain ⟨c0, c1, c2⟩ := hn
          simp only [Ln.cells] at c0 c1 c2 B4 Hcall
          have j0 : (0 : Int) ≤ k := by omega
          have j1 : (k : Int) < l.length := by omega
          by_cases hb : lnBad c ⟨x0, x1, x2⟩ = 0
          · have HE2 : Hid (res = if linesBad c (l.drop (k + 1)) ≠ 0 then linesBad c (l.drop (k + 1)) else if (curSums l).any someL = true then 11 else 0) := by
              have := HE.out
              rw [if_neg (by rw [hb]; simp : ¬ lnBad c ⟨x0, x1, x2⟩ ≠ 0)] at this
              exact this
            have HA3 : Hid _ := HA2.out hb
            rw [hb, enE_zero] at Hcall
            clear HE HA2 hb
            go_wp2_with fail
            refine Hcall.out.mono ?_
            rintro e w3 ⟨rfl, hb3⟩
            have B5 := B4.trans (hb3.mono (by simp; omega))
            clear Hcall hb3 B4 c0 c1 c2
            go_wp2
            go_roundw
            case rel => exact ⟨k + 1, by omega, by go_num, HE2, HA3, B5⟩
            case measure => simp [intOf]; omega
          · have er : res = lnBad c ⟨x0, x1, x2⟩ := by
              have := HE.out
              rw [if_pos hb, if_pos hb] at this
              exact this
            rw [← er] at hb Hcall
            rw [enE_ne hb] at Hcall
            clear HE HA2 er
            go_wp2_with fail
            refine Hcall.out.mono ?_
            rintro e w3 ⟨rfl, hb3⟩
            have B5 := B2.trans ((B4.trans (hb3.mono (by simp; omega))).mono (by omega))
            clear Hcall hb3 B4 c0 c1 c2
            go_wp2
            go_ret
            exact ⟨by rw [enE_ne hb]; rfl, B5⟩
        · have hk2 : k = l.length := by omega
          subst hk2
          have E := H.out
          rw [List.drop_length] at E
          have HE : Hid (res = if (curSums l).any someL = true then 11 else 0) := E
          have hw : Within mostA l := fun x hx => lnBad_amt (HA.out x (by rw [List.take_length]; exact hx))
          have hO := ofCurrencies_any (some ⟨b, off, none⟩) cap l wr hll.2 hw (Hsl.out.below B3)
          have HO : Hid (Calls _ _ _ _ _) := hO
          have c3' := (y2.below BW (by omega)).c3
          have HCF : Hid (∀ v W, LnRow W wr.heap.size v (curSums l) → Calls Tryd.prog 22 #[v, .func (.func 24) #[] #[]] W fun e w' => e = .returned (.bool ((curSums l).any someL)) ∧ Below W.heap.size W w') := fun v W hr => by
            obtain ⟨a', k', rfl, hsl'⟩ := hr.isLn
            exact lnContains_any _ someL a' k' (curSums l) W check1_tells (by have := grp_length (l.map bareL); rw [List.length_map] at this; unfold curSums; omega) hsl'
          clear hO hw E H HA HK ER Hc Hsl
          go_wp2_with fail
          refine HO.out.mono ?_
          rintro e w3 ⟨v3, rfl, r3, b3⟩
          have hC := HCF.out v3 w3 r3
          have B4 := B3.trans (b3.mono (by omega))
          have hs4 := b3.size
          have HC : Hid (Calls _ _ _ _ _) := hC
          clear HO HCF r3 b3 hC c3'
          cases hq : (curSums l).any someL
          · have er : res = 0 := by rw [HE.out, hq]; rfl
            subst er
            rw [hq] at HC
            clear HE hq
            go_wp2_with fail
            refine HC.out.mono ?_
            rintro e w4 ⟨rfl, hb4⟩
            have B5 := B4.trans (hb4.mono (by omega))
            clear HC hb4
            go_wp2
            go_ret
            exact ⟨rfl, B5⟩
          · have er : res = 11 := by rw [HE.out, hq]; rfl
            subst er
            rw [hq] at HC
            clear HE hq
            go_wp2_with fail
            refine HC.out.mono ?_
            rintro e w4 ⟨rfl, hb4⟩
            have B5 := B4.trans (hb4.mono (by omega))
            clear HC hb4
            go_wp2
            go_ret
            exact ⟨rfl, B5⟩
    · have er : res = headBad r en pe l.length := by rw [← Hres.out]; unfold entBad; rw [if_neg (by simp [h1]), if_pos h2]
      rw [← er] at h2 HHH
      rw [enE_ne h2] at HHH
      clear er Hres
      go_wp2_with fail
      refine HHH.out.mono ?_
      rintro e w2 ⟨rfl, hb2⟩
      have B2 := B1.trans (hb2.mono (by omega))
      clear HHH y1 c0 c1 c2 c3
      go_wp2
      go_ret
      exact ⟨by rw [enE_ne h2]; rfl, B2⟩
  · have hL := leafCheck_bad ca cc c _ (hc.below b0) h1
    have er : res = chBad c := by rw [← Hres.out]; unfold entBad; rw [if_pos h1]
    subst er
    rw [enE_ne h1]
    rw [chE_ne h1] at hL
    have HL : Hid (Calls _ _ _ _ _) := hL
    clear hL Hres hc h
    generalize chBad c = bad at *
    go_enter Tryd.func14, Tryd.ntmps14
    go_wp2_with fail
    refine HL.out.mono ?_
    rintro e w1 ⟨rfl, hb1⟩
    have B1 := b0.trans (hb1.mono (by simp))
    clear HL hb1 b0 x0
    go_wp2
    go_ret
    exact ⟨rfl, B1⟩
end Go.Proofs.YtffekgndlhleiaaDoor
