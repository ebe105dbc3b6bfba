/-
  The contract of dayref1.Entry.
-/
import Derived.Test.YtggabmjbblgfeaaDoorRfE4
namespace Go.Proofs.YtggabmjbblgfeaaDoor
set_option linter.unusedVariables false
set_option linter.unusedSimpArgs false
set_option maxRecDepth 100000
open Go.RowKit Go.Lib

set_option maxHeartbeats 4000000 in
theorem refEntry_any (ca : Option Addr) (cc : Nat) (c : List Ac) (r : ByteArray) (en pe : Int) (a : Option Addr) (cap : Nat) (l : List Ln) (w : World) (hc : IsSl w ca c cc) (hok : ∀ k, k < c.length → (c.getD k ac0).code.size ≤ maxLen ∧ (c.getD k ac0).name.size ≤ maxLen) (h : IsLn w a l cap) :
    Calls Tryd.prog 4 #[.slice ca c.length cc, .agg #[.string r, .int .i64 en, .int .i64 pe, .slice a l.length cap]] w fun e w' => e = .returned (.int .i64 (entBad c r en pe l)) ∧ Below w.heap.size w w' := by
  have b0 : Below w.heap.size w (w.alloc (.cells #[.string r, .int .i64 en, .int .i64 pe, .slice a l.length cap] 25)) := (Below.refl _ w).alloc (Nat.le_refl _) _
  have x0 := Box4.new w r en pe (.slice a l.length cap)
  have hs0 : (w.alloc (.cells #[.string r, .int .i64 en, .int .i64 pe, .slice a l.length cap] 25)).heap.size = w.heap.size + 1 := by simp
  obtain ⟨res, hres⟩ : ∃ res, entBad c r en pe l = res := ⟨_, rfl⟩
  rw [hres]
  have Hres : Hid (entBad c r en pe l = res) := hres
  clear hres
  have hC := refChart_any ca cc c _ (hc.below b0) hok
  have HC : Hid (Calls _ _ _ _ _) := hC
  clear hC
  by_cases h1 : chBad c = 0
  · rw [h1] at HC
    have hlen := chBad_len h1
    have ER1 : Hid (res = if headBad r en pe l.length ≠ 0 then headBad r en pe l.length else if linesBad c l ≠ 0 then linesBad c l else if (curSums l).any someL = true then 11 else 0) := by
      unfold Hid
      rw [← Hres.out]
      unfold entBad
      rw [if_neg (by simp [h1])]
    go_enter Tryd.func4, Tryd.ntmps4
    go_wp2_with fail
    refine HC.out.mono ?_
    rintro e w1 ⟨rfl, hb1⟩
    rw [hs0] at hb1
    have B1 := b0.trans (hb1.mono (by omega))
    have hs1 := hb1.size
    rw [hs0] at hs1
    have y1 := x0.below hb1 (by omega)
    have c0 := y1.c0
    have c1 := y1.c1
    have c2 := y1.c2
    have c3 := y1.c3
    have HR := refRef_any r w1
    have HE := entity_any en w1
    have HP := period_any pe w1
    clear HC hb1 b0 x0 hs0
    cases hr : isRefB r
    · have er : res = 2 := by rw [ER1.out]; simp [headBad, hr]
      subst er
      rw [hr] at HR
      go_wp2_with (go_at_call 8; refine HR.mono ?_; rintro e w' ⟨rfl, rfl⟩)
      go_ret
      exact ⟨rfl, B1⟩
    rw [hr] at HR
    go_wp2_with fail
    refine HR.mono ?_
    rintro e w' ⟨rfl, rfl⟩
    go_wp2_with fail
    refine HE.mono ?_
    rintro e w' ⟨rfl, rfl⟩
    go_wp2_with fail
    refine HP.mono ?_
    rintro e w2 ⟨rfl, rfl⟩
    clear HR HE HP
    cases h3 : upTo en 12
    · have er : res = 1 := by rw [ER1.out]; simp [headBad, hr, h3]
      subst er
      go_wp2
      go_ret
      exact ⟨rfl, B1⟩
    cases h4 : upTo pe 120
    · have er : res = 1 := by rw [ER1.out]; simp [headBad, hr, h4]
      subst er
      go_wp2
      go_ret
      exact ⟨rfl, B1⟩
    by_cases h5 : l.length < 2
    · have er : res = 3 := by rw [ER1.out]; simp [headBad, hr, h3, h4, h5]
      have h5' : (l.length : Int) < 2 := by omega
      subst er
      go_wp2
      go_ret
      exact ⟨rfl, B1⟩
    have h5' : ¬ (l.length : Int) < 2 := by omega
    by_cases h6 : 20 < l.length
    · have er : res = 4 := by rw [ER1.out]; simp [headBad, hr, h3, h4, h5, h6]
      have h6' : (20 : Int) < l.length := by omega
      subst er
      go_wp2
      go_ret
      exact ⟨rfl, B1⟩
    have h6' : ¬ (20 : Int) < l.length := by omega
    have ER : Hid (res = if linesBad c l ≠ 0 then linesBad c l else if (curSums l).any someL = true then 11 else 0) := by
      unfold Hid
      rw [ER1.out]
      rw [if_neg (by simp [headBad, hr, h3, h4, h5, h6])]
    rcases h.lies with h0 | ⟨b, off, rfl, hbl, hcl⟩
    · rw [h0] at h5; simp at h5
    have Hc : Hid (LnsAt w b off l) := hcl
    have Hsl : Hid (IsLn w (some ⟨b, off, none⟩) l cap) := h
    have HL : Hid (∀ code W, Below w.heap.size w W → Calls Tryd.prog 11 #[.slice ca c.length cc, .string code] W fun e w' => e = .returned (.int .i64 (leafBad c code)) ∧ w' = W) := fun code W hW => refLeafE_any ca cc c code W (hc.below hW) hlen
    clear Hres ER1 hcl h hc h1 hok
    clear c0 c1 c2
    go_wp2
    go_loopw [9] (fun i wr => ∃ k : Nat, k ≤ l.length ∧ i = .int .i64 k ∧ Hid (res = if linesBad c (l.drop k) ≠ 0 then linesBad c (l.drop k) else if (curSums l).any someL = true then 11 else 0) ∧ Hid (∀ x ∈ l.take k, lnBad c x = 0) ∧ Below w2.heap.size w2 wr) (fun i _ => l.length - (intOf i).toNat)
    case atStart => exact ⟨0, Nat.zero_le _, rfl, ER, (fun x hx => by simp at hx), Below.refl _ _⟩
    case round =>
      obtain ⟨k, hk, rfl, H, HA, BW⟩ := hrel
      have hws := BW.size
      have B3 := B1.trans (BW.mono (by omega))
      have y3 := y1.below BW (by omega)
      have e3 := y3.c3
      by_cases hlt : k < l.length
      · have hn := (Hc.out k hlt).below B3 hbl
        have E := H.out
        rw [lns_drop l k hlt, linesBad] at E
        have B4 := B3.alloc B3.size (.cells (l.getD k ln0).cells 36)
        have BW4 := BW.alloc hws (.cells (l.getD k ln0).cells 36)
        have hcall := HL.out (l.getD k ln0).acc _ B4
        have hx := LnAt.new wr (l.getD k ln0) 36
        have HA2 : Hid (lnBad c (l.getD k ln0) = 0 → ∀ x ∈ l.take (k + 1), lnBad c x = 0) := fun h0 x hx => by
          rw [lns_take l k hlt] at hx
          rcases List.mem_append.1 hx with hx | hx
          · exact HA.out x hx
          · rw [List.mem_singleton.1 hx]; exact h0
        have HLL : Hid (lnBad c (l.getD k ln0) = _) := lnBad_leaf c (l.getD k ln0)
        generalize l.getD k ln0 = x at *
        have Hcall : Hid (Calls _ _ _ _ _) := hcall
        have HE : Hid (res = _) := E
        clear hcall E H HA
        obtain ⟨x0, x1, x2⟩ := x
        obtain ⟨c0, c1, c2⟩ := hn
        obtain ⟨d0, d1, d2⟩ := hx
        simp only [Ln.cells, Nat.zero_add] at c0 c1 c2 B4 BW4 Hcall d0 d1 d2
        simp only at HE HLL
        have HCu := refCur_any x1
        have HAm := refAmount_any x2
        obtain ⟨lb, hlb⟩ : ∃ lb, leafBad c x0 = lb := ⟨_, rfl⟩
        rw [hlb] at Hcall HLL
        clear hlb
        have j0 : (0 : Int) ≤ k := by omega
        have j1 : (k : Int) < l.length := by omega
        have HV : Hid (∀ v, lnBad c ⟨x0, x1, x2⟩ = v → v ≠ 0 → res = v) := fun v hv h0 => by
          have := HE.out
          rw [hv, if_pos h0, if_pos h0] at this
          exact this
        have HW : Hid (lnBad c ⟨x0, x1, x2⟩ = 0 → res = if linesBad c (l.drop (k + 1)) ≠ 0 then linesBad c (l.drop (k + 1)) else if (curSums l).any someL = true then 11 else 0) := fun hv => by
          have := HE.out
          rw [hv, if_neg (show ¬ ((0 : Int) ≠ 0) by simp)] at this
          exact this
        clear HE
        by_cases g1 : lb = 0
        · subst g1
          cases g2 : isCur x1
          · have er := HV.out 2 (by rw [HLL.out, if_neg (by simp), if_pos g2]) (by decide)
            subst er
            have HC1 := HCu (wr.alloc (.cells #[.string x0, .string x1, .int .i64 x2] 36))
            rw [g2] at HC1
            clear HV HW HA2 HLL HAm HCu
            go_wp2_with fail
            refine Hcall.out.mono ?_
            rintro e w' ⟨rfl, rfl⟩
            go_wp2_with fail
            refine HC1.mono ?_
            rintro e w' ⟨rfl, rfl⟩
            go_wp2
            go_ret
            exact ⟨rfl, B4⟩
          have HC1 := HCu (wr.alloc (.cells #[.string x0, .string x1, .int .i64 x2] 36))
          have HA1 := HAm (wr.alloc (.cells #[.string x0, .string x1, .int .i64 x2] 36))
          rw [g2] at HC1
          cases g3 : isAmtB x2
          · have er := HV.out 1 (by rw [HLL.out, if_neg (by simp), if_neg (by rw [g2]; simp), if_pos (.inr g3)]) (by decide)
            subst er
            rw [g3] at HA1
            clear HV HW HA2 HLL HAm HCu
            go_wp2_with fail
            refine Hcall.out.mono ?_
            rintro e w' ⟨rfl, rfl⟩
            go_wp2_with fail
            refine HC1.mono ?_
            rintro e w' ⟨rfl, rfl⟩
            go_wp2_with fail
            refine HA1.mono ?_
            rintro e w' ⟨rfl, rfl⟩
            go_wp2
            go_ret
            exact ⟨rfl, B4⟩
          rw [g3] at HA1
          by_cases g4 : x2 = 0
          · have er := HV.out 1 (by rw [HLL.out, if_neg (by simp), if_neg (by rw [g2]; simp), if_pos (.inl g4)]) (by decide)
            subst er
            subst g4
            clear HV HW HA2 HLL HAm HCu
            go_wp2_with fail
            refine Hcall.out.mono ?_
            rintro e w' ⟨rfl, rfl⟩
            go_wp2_with fail
            refine HC1.mono ?_
            rintro e w' ⟨rfl, rfl⟩
            go_wp2_with fail
            refine HA1.mono ?_
            rintro e w' ⟨rfl, rfl⟩
            go_wp2
            go_ret
            exact ⟨rfl, B4⟩
          · have hz : lnBad c ⟨x0, x1, x2⟩ = 0 := by rw [HLL.out, if_neg (by simp), if_neg (by rw [g2]; simp), if_neg (by simp [g4, g3])]
            have HE2 : Hid _ := HW.out hz
            have HA3 : Hid _ := HA2.out hz
            have g4' : (x2 == 0) = false := by simpa using g4
            clear HV HW HA2 HLL HAm HCu hz
            go_wp2_with fail
            refine Hcall.out.mono ?_
            rintro e w' ⟨rfl, rfl⟩
            go_wp2_with fail
            refine HC1.mono ?_
            rintro e w' ⟨rfl, rfl⟩
            go_wp2_with fail
            refine HA1.mono ?_
            rintro e w' ⟨rfl, rfl⟩
            go_wp2
            go_roundw
            case rel => exact ⟨k + 1, by omega, by go_num, HE2, HA3, BW4⟩
            case measure => simp [intOf]; omega
        · have er := HV.out lb (by rw [HLL.out, if_pos g1]) g1
          subst er
          have g1' : (res != 0) = true := by simpa using g1
          clear HV HW HA2 HLL HAm HCu
          go_wp2_with fail
          refine Hcall.out.mono ?_
          rintro e w' ⟨rfl, rfl⟩
          go_wp2
          go_ret
          exact ⟨rfl, B4⟩
      · have hk2 : k = l.length := by omega
        subst hk2
        have E := H.out
        rw [List.drop_length] at E
        have HE : Hid ((if ((curSums l).drop 0).any someL = true then (11 : Int) else 0) = res) := E.symm
        have hw : Within mostA l := fun x hx => lnBad_amt (HA.out x (by rw [List.take_length]; exact hx))
        have hS := refSums_any r en pe (some ⟨b, off, none⟩) cap l wr (by omega) (by omega) hw (Hsl.out.below B3)
        have HS : Hid (Calls _ _ _ _ _) := hS
        have hgl : (curSums l).length ≤ 20 := by have := grp_length (l.map bareL); rw [List.length_map] at this; unfold curSums; omega
        have e0 := y3.c0
        have e1 := y3.c1
        have e2 := y3.c2
        clear hS hw E H HA HL ER Hc Hsl
        go_wp2_with fail
        refine HS.out.mono ?_
        rintro e w3 ⟨v3, rfl, r3, b3⟩
        obtain ⟨a3, k3, rfl, hsl3⟩ := r3.isLn
        have B5 := B3.trans (b3.mono (by omega))
        have HS3 : Hid (IsLn w3 a3 (curSums l) k3) := hsl3
        generalize curSums l = sm at *
        have hgl' : (sm.length : Int) ≤ 20 := by omega
        clear HS r3 b3 hsl3 e0 e1 e2 e3
        go_wp2
        go_loopw [12] (fun i wz => ∃ m : Nat, m ≤ sm.length ∧ i = .int .i64 m ∧ Hid ((if (sm.drop m).any someL = true then (11 : Int) else 0) = res) ∧ wz = w3) (fun i _ => sm.length - (intOf i).toNat)
        case atStart => exact ⟨0, Nat.zero_le _, rfl, HE, rfl⟩
        case round =>
          obtain ⟨m, hm, rfl, HM, rfl⟩ := hrel
          by_cases hlt2 : m < sm.length
          · rcases HS3.out.lies with h0 | ⟨b3, o3, rfl, _, q3⟩
            · rw [h0] at hlt2; simp at hlt2
            have hn := q3 m hlt2
            have E := HM.out
            rw [lns_drop sm m hlt2, List.any_cons] at E
            have HE3 : Hid (_ = res) := E
            clear E HM q3 HS3
            generalize sm.getD m ln0 = x at *
            obtain ⟨x0, x1, x2⟩ := x
            obtain ⟨c0, c1, c2⟩ := hn
            simp only at c0 c1 c2
            have j0 : (0 : Int) ≤ m := by omega
            have j1 : (m : Int) < sm.length := by omega
            by_cases g : x2 = 0
            · have HN : Hid ((if (sm.drop (m + 1)).any someL = true then (11 : Int) else 0) = res) := by
                unfold Hid; rw [← HE3.out]; simp [someL, nullL, g]
              subst g
              clear HE3
              go_wp2
              go_roundw
              case rel => exact ⟨m + 1, by omega, by go_num, HN, by first | rfl | trivial⟩
              case measure => simp [intOf]; omega
            · have er : res = 11 := by rw [← HE3.out]; simp [someL, nullL, g]
              subst er
              have g' : (x2 != 0) = true := by simpa using g
              clear HE3
              go_wp2
              go_ret
              exact ⟨rfl, B5⟩
          · have hm2 : m = sm.length := by omega
            subst hm2
            have er : res = 0 := by rw [← HM.out, List.drop_length]; rfl
            subst er
            go_wp2
            go_ret
            exact ⟨rfl, B5⟩
  · rw [show chBad c = res by rw [← Hres.out]; unfold entBad; rw [if_pos h1]] at HC h1
    clear Hres hc h
    have h1' : (res != 0) = true := by simpa using h1
    go_enter Tryd.func4, Tryd.ntmps4
    go_wp2_with fail
    refine HC.out.mono ?_
    rintro e w1 ⟨rfl, hb1⟩
    have B1 := b0.trans (hb1.mono (by simp))
    clear HC hb1 b0 x0
    go_wp2
    go_ret
    exact ⟨rfl, B1⟩
end Go.Proofs.YtggabmjbblgfeaaDoor
