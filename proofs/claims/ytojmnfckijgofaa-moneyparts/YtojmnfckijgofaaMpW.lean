/-
  The walk of daylaw1.MoneyParts.
-/
import Derived.Test.YtojmnfckijgofaaShr6
namespace Go.Proofs.Ytojmnfckijgofaa
set_option linter.unusedVariables false
set_option linter.unusedSimpArgs false
set_option maxRecDepth 100000
open Go.RowKit Go.Lib Math

theorem fact_call (w : World) : Calls Try.prog 5 #[.int .i64 10, .slice (some ⟨w.heap.size, 0, none⟩) 3 3] (w.alloc (.cells #[.int .i64 1, .int .i64 1, .int .i64 1] 3)) fun e w' => ∃ g, e = .returned (.tuple #[.slice (some ⟨g, 0, none⟩) 3 3, .nilIface]) ∧ w'.cell? ⟨g, 0, none⟩ = some (.int .i64 4) ∧ w'.cell? ⟨g, 2, none⟩ = some (.int .i64 3) ∧ Hid (Below w.heap.size w w') := by
  have h := shares_any 10 (some ⟨w.heap.size, 0, none⟩) [1, 1, 1] 3 (w.alloc (.cells #[.int .i64 1, .int .i64 1, .int .i64 1] 3)) (isW_lit w [1, 1, 1]) (by decide) ⟨by decide, by decide⟩
  refine Calls.mono h ?_
  rintro e w' ⟨hb, _, h2⟩
  obtain ⟨f0, f1, f2, f3⟩ := share_fact1
  obtain ⟨g, _, rfl, hr⟩ := h2 f3
  refine ⟨g, rfl, ?_, ?_, ((Below.refl _ w).alloc (Nat.le_refl _) _).trans (hb.mono (by simp))⟩
  · rw [← f0]; exact nrow_get hr (by decide)
  · rw [← f2]; exact nrow_get hr (by decide)

set_option maxHeartbeats 16000000 in
theorem parts_pos (t : Int) (a : Option Addr) (ws : List Int) (cap : Nat) (w : World) (h : IsW w a ws cap) (hl : ws.length ≤ 140737488355328) (ht : I64 t) (hsg : 0 < t) :
    Calls Try.prog 3 #[.int .i64 t, .slice a ws.length cap] w fun e w' => e = .returned (.bool true) ∧ Below w.heap.size w w' := by
  have HF : Hid (Calls _ _ _ _ _) := fact_call w
  have HW : Hid (IsW w a ws cap) := h
  have HS : Hid (∀ t' W, I64 t' → IsW W a ws cap → Calls Try.prog 5 #[.int .i64 t', .slice a ws.length cap] W (SharesEnd t' ws W)) := fun t' W h1 h2 => shares_any t' a ws cap W h2 hl h1
  have Ht : Hid (I64 t) := ht
  have d1 : decide (t > 0) = true := decide_eq_true hsg
  have d2 : decide (t < 0) = false := decide_eq_false (by omega)
  have d3 : (t == 0) = false := by rw [beq_eq_false_iff_ne]; omega
  have hsg1 : 0 < t := hsg
  have hsg2 : ¬ t < 0 := by omega
  have hsg3 : ¬ t = 0 := by omega
  clear h ht
  by_cases hb : shBad ws = 0
  · have hG := shBad_zero hb
    obtain ⟨n, hn⟩ : ∃ n, ws.length = n := ⟨_, rfl⟩
    have hn40 : n ≤ 40 := hn ▸ hG.1
    have HSum : Hid (((List.range n).map (shareI t ws)).sum = t) := by rw [← hn]; exact share_sum hG
    have HBd : Hid (∀ i, i < n → (0 ≤ t → 0 ≤ shareI t ws i ∧ shareI t ws i ≤ t) ∧ (t ≤ 0 → t ≤ shareI t ws i ∧ shareI t ws i ≤ 0)) := fun i hi => share_bd hG (by omega)
    have HZ : Hid (∀ i, i < n → ws.getD i 0 = 0 → shareI t ws i = 0) := fun i hi h0 => share_zero hG (by omega) h0
    have HM : Hid (∀ i k, i < n → k < n → ws.getD k 0 < ws.getD i 0 → (0 < t → shareI t ws k ≤ shareI t ws i) ∧ (t < 0 → shareI t ws i ≤ shareI t ws k)) := fun i k hi hk hw => share_more hG (by omega) (by omega) hw
    have HN0 : Hid (∀ i, i < n → shareI 0 ws i = 0) := fun i hi => by
      have := (share_bd (t := 0) hG (i := i) (by omega))
      have := this.1 (by omega)
      omega
    have n1 : (n : Int) ≤ 40 := by omega
    have Hb : Hid (shBad ws = 0) := hb
    have Hn : Hid (ws.length = n) := hn
    have HSumI : Hid (∀ i, i < ((List.range n).map (shareI t ws)).length → I64 (((List.range n).map (shareI t ws)).getD i 0)) := fun i hi => by
      have hi' : i < n := by simpa using hi
      rw [show ((List.range n).map (shareI t ws)).getD i 0 = shareI t ws i by simp [List.getD_eq_getElem?_getD, hi']]
      have h1 := HBd.out i hi'
      have h2 := Ht.out.1
      have h3 := Ht.out.2
      unfold I64
      rcases Int.le_total 0 t with h | h
      · have := h1.1 h; omega
      · have := h1.2 h; omega
    rw [hn] at HS ⊢
    clear hG hb hn
    go_enter Try.func3, Try.ntmps3
    go_wp2_with fail
    refine HF.out.mono ?_
    rintro e w1 ⟨g0, rfl, c0, c2, B1⟩
    have HS1 : Hid (Calls _ _ _ w1 _) := HS.out t w1 Ht.out (HW.out.below B1.out)
    clear HF
    go_wp2_with fail
    refine HS1.out.mono ?_
    rintro e w2 ⟨b2, _, h2⟩
    obtain ⟨g, hg, rfl, R⟩ := h2 Hb.out
    rw [Hn.out] at R ⊢
    have B2 : Hid (Below w.heap.size w w2) := B1.out.trans (b2.mono B1.out.size)
    have HR : Hid (∀ i, i < n → w2.cell? ⟨g, i, none⟩ = some (.int .i64 (shareI t ws i))) := fun i hi => nrow_get R hi
    have HC : Hid (∀ i, i < n → ∃ b off, a = some ⟨b, off, none⟩ ∧ b < w2.heap.size ∧ w2.cell? ⟨b, off + i, none⟩ = some (.int .i64 (ws.getD i 0))) := fun i hi => (HW.out.below B2.out).at (by rw [Hn.out]; exact hi)
    have HSm : Hid (Calls _ _ _ w2 _) := sum_run g 0 n n ((List.range n).map (shareI t ws)) w2 (by simp) (by simp; omega) HSumI (fun i hi => by
      have hi' : i < n := by simpa using hi
      rw [show ((List.range n).map (shareI t ws)).getD i 0 = shareI t ws i by simp [List.getD_eq_getElem?_getD, hi'], Nat.zero_add]
      exact HR.out i hi')
    rw [HSum.out, (sum_fit t Ht.out).1, (sum_fit t Ht.out).2] at HSm
    clear HS1 b2 R h2 c0 c2 B1
    go_wp2_with fail
    refine HSm.out.mono ?_
    rintro e w' ⟨rfl, hw⟩
    rw [hw]; clear hw w' HSm HSumI
    go_wp2
    go_loopw [11] (fun v wr => ∃ i : Nat, i ≤ n ∧ v = .int .i64 i ∧ Hid (∃ m, wr = w2.drewN m)) (fun v _ => n - (RowKit.intOf v).toNat)
    case atStart => exact ⟨0, Nat.zero_le _, rfl, 0, rfl⟩
    case round =>
      obtain ⟨i, hi, rfl, Hm⟩ := hrel
      obtain ⟨m, hm⟩ := Hm.out
      subst hm
      clear Hm
      by_cases hlt : i < n
      · obtain ⟨b, off, rfl, hb, cx⟩ := HC.out i hlt
        have cV := HR.out i hlt
        obtain ⟨V, hV⟩ : ∃ V, shareI t ws i = V := ⟨_, rfl⟩
        obtain ⟨x, hx⟩ : ∃ x, ws.getD i 0 = x := ⟨_, rfl⟩
        have HxV : Hid (shareI t ws i = V ∧ ws.getD i 0 = x) := ⟨hV, hx⟩
        rw [hV] at cV
        rw [hx] at cx
        have i0 : (0 : Int) ≤ i := by omega
        have i1 : (i : Int) < n := by omega
        have cx' : (w2.drewN m).cell? ⟨b, off + i, none⟩ = some (.int .i64 x) := cx
        have cV' : (w2.drewN m).cell? ⟨g, i, none⟩ = some (.int .i64 V) := cV
        clear cx cV
        have v1 : ¬ V < 0 := by have := (HxV.out.1 ▸ HBd.out i hlt).1 (by omega); omega
        rcases Classical.em (x = 0) with hx0 | hx0
        · have hV0 : V = 0 := by rw [← hV]; exact HZ.out i hlt (hx.trans hx0)
          have e1 : (x == 0) = true := by rw [hx0]; rfl
          have e2 : (V != 0) = false := by rw [hV0]; rfl
          clear hV hx hx0 hV0
          go_wp2
          go_loopw [12] (fun v wr => ∃ k : Nat, k ≤ n ∧ v = .int .i64 k ∧ Hid (∃ m, wr = w2.drewN m)) (fun v _ => n - (RowKit.intOf v).toNat)
          case atStart => exact ⟨0, Nat.zero_le _, rfl, m, rfl⟩
          case round =>
            obtain ⟨k, hk, rfl, Hm⟩ := hrel
            obtain ⟨m', hm⟩ := Hm.out
            subst hm
            clear Hm cx' cV'
            by_cases hlt2 : k < n
            · obtain ⟨b', off', hab, hb', cy⟩ := HC.out k hlt2
              obtain ⟨rfl, rfl⟩ : b' = b ∧ off' = off := by simpa using hab.symm
              obtain ⟨b2, off2, hab2, hb2, cx⟩ := HC.out i hlt
              obtain ⟨rfl, rfl⟩ : b2 = b' ∧ off2 = off' := by simpa using hab2.symm
              have cU := HR.out k hlt2
              have cV := HR.out i hlt
              rw [HxV.out.1] at cV
              rw [HxV.out.2] at cx
              have hmo := HM.out i k hlt hlt2
              rw [HxV.out.1, HxV.out.2] at hmo
              generalize shareI t ws k = U at *
              generalize ws.getD k 0 = y at *
              have k0 : (0 : Int) ≤ k := by omega
              have k1 : (k : Int) < n := by omega
              have cx2 : (w2.drewN m').cell? ⟨b2, off2 + i, none⟩ = some (.int .i64 x) := cx
              have cV2 : (w2.drewN m').cell? ⟨g, i, none⟩ = some (.int .i64 V) := cV
              have cy2 : (w2.drewN m').cell? ⟨b2, off2 + k, none⟩ = some (.int .i64 y) := cy
              have cU2 : (w2.drewN m').cell? ⟨g, k, none⟩ = some (.int .i64 U) := cU
              have HWm : Hid (∀ q, ∃ p, (w2.drewN m').drewN q = w2.drewN p) := fun q => ⟨m' + q, drew_twice w2 m' q⟩
              generalize w2.drewN m' = W at *
              clear hab hab2 cx cV cy cU
              by_cases hxy : y < x
              · have q1 : decide (x > y) = true := decide_eq_true hxy
                have q2 : decide (V < U) = false := decide_eq_false (by have := (hmo hxy).1 hsg1; omega)
                have q3 : True := trivial
                clear hmo
                go_wp2
                go_quiet (fail)
                rename Nat => nq
                go_wp2
                go_roundw
                case rel => exact ⟨k + 1, by omega, by go_num, HWm.out _⟩
                case measure => simp [RowKit.intOf]; omega
              · have q1 : decide (x > y) = false := decide_eq_false hxy
                clear hmo
                go_wp2
                go_quiet (fail)
                rename Nat => nq
                go_wp2
                go_roundw
                case rel => exact ⟨k + 1, by omega, by go_num, HWm.out _⟩
                case measure => simp [RowKit.intOf]; omega
            · have ek : k = n := by omega
              subst ek
              have k1 : ¬ (k : Int) < k := by omega
              go_wp2
              go_roundw
              case rel => exact ⟨i + 1, by omega, by go_num, _, rfl⟩
              case measure => simp [RowKit.intOf]; omega
        · have e1 : (x == 0) = false := by rw [beq_eq_false_iff_ne]; exact hx0
          clear hV hx
          go_wp2
          go_loopw [12] (fun v wr => ∃ k : Nat, k ≤ n ∧ v = .int .i64 k ∧ Hid (∃ m, wr = w2.drewN m)) (fun v _ => n - (RowKit.intOf v).toNat)
          case atStart => exact ⟨0, Nat.zero_le _, rfl, m, rfl⟩
          case round =>
            obtain ⟨k, hk, rfl, Hm⟩ := hrel
            obtain ⟨m', hm⟩ := Hm.out
            subst hm
            clear Hm cx' cV'
            by_cases hlt2 : k < n
            · obtain ⟨b', off', hab, hb', cy⟩ := HC.out k hlt2
              obtain ⟨rfl, rfl⟩ : b' = b ∧ off' = off := by simpa using hab.symm
              obtain ⟨b2, off2, hab2, hb2, cx⟩ := HC.out i hlt
              obtain ⟨rfl, rfl⟩ : b2 = b' ∧ off2 = off' := by simpa using hab2.symm
              have cU := HR.out k hlt2
              have cV := HR.out i hlt
              rw [HxV.out.1] at cV
              rw [HxV.out.2] at cx
              have hmo := HM.out i k hlt hlt2
              rw [HxV.out.1, HxV.out.2] at hmo
              generalize shareI t ws k = U at *
              generalize ws.getD k 0 = y at *
              have k0 : (0 : Int) ≤ k := by omega
              have k1 : (k : Int) < n := by omega
              have cx2 : (w2.drewN m').cell? ⟨b2, off2 + i, none⟩ = some (.int .i64 x) := cx
              have cV2 : (w2.drewN m').cell? ⟨g, i, none⟩ = some (.int .i64 V) := cV
              have cy2 : (w2.drewN m').cell? ⟨b2, off2 + k, none⟩ = some (.int .i64 y) := cy
              have cU2 : (w2.drewN m').cell? ⟨g, k, none⟩ = some (.int .i64 U) := cU
              have HWm : Hid (∀ q, ∃ p, (w2.drewN m').drewN q = w2.drewN p) := fun q => ⟨m' + q, drew_twice w2 m' q⟩
              generalize w2.drewN m' = W at *
              clear hab hab2 cx cV cy cU
              by_cases hxy : y < x
              · have q1 : decide (x > y) = true := decide_eq_true hxy
                have q2 : decide (V < U) = false := decide_eq_false (by have := (hmo hxy).1 hsg1; omega)
                have q3 : True := trivial
                clear hmo
                go_wp2
                go_quiet (fail)
                rename Nat => nq
                go_wp2
                go_roundw
                case rel => exact ⟨k + 1, by omega, by go_num, HWm.out _⟩
                case measure => simp [RowKit.intOf]; omega
              · have q1 : decide (x > y) = false := decide_eq_false hxy
                clear hmo
                go_wp2
                go_quiet (fail)
                rename Nat => nq
                go_wp2
                go_roundw
                case rel => exact ⟨k + 1, by omega, by go_num, HWm.out _⟩
                case measure => simp [RowKit.intOf]; omega
            · have ek : k = n := by omega
              subst ek
              have k1 : ¬ (k : Int) < k := by omega
              go_wp2
              go_roundw
              case rel => exact ⟨i + 1, by omega, by go_num, _, rfl⟩
              case measure => simp [RowKit.intOf]; omega
      · have ei : i = n := by omega
        subst ei
        have i1 : ¬ (i : Int) < i := by omega
        have HS2 : Hid (Calls _ _ _ (w2.drewN m) _) := HS.out 0 (w2.drewN m) ⟨by decide, by decide⟩ ((HW.out.below B2.out).below (drewN_below w2 m))
        clear HS HR HC HM HZ HBd
        go_wp2_with fail
        refine HS2.out.mono ?_
        rintro e w3 ⟨b3, _, h3⟩
        obtain ⟨g3, hg3, rfl, R3⟩ := h3 Hb.out
        rw [Hn.out] at R3 ⊢
        have B3 : Hid (Below w.heap.size w w3) := B2.out.trans (((drewN_below w2 m).trans b3).mono B2.out.size)
        have HR3 : Hid (∀ k, k < i → w3.cell? ⟨g3, k, none⟩ = some (.int .i64 0)) := fun k hk => by
          have := nrow_get R3 hk
          rw [HN0.out k hk] at this
          exact this
        clear HS2 b3 h3 R3 HN0
        go_wp2
        go_loop [14] (fun v => ∃ k : Nat, k ≤ i ∧ v = .int .i64 k) (fun v => i - (RowKit.intOf v).toNat)
        case atStart => exact ⟨0, Nat.zero_le _, rfl⟩
        case round =>
          obtain ⟨k, hk, rfl⟩ := hrel
          by_cases hlt2 : k < i
          · have c3 := HR3.out k hlt2
            have k0 : (0 : Int) ≤ k := by omega
            have k1 : (k : Int) < i := by omega
            go_wp2
            go_round
            case rel => exact ⟨k + 1, by omega, by go_num⟩
            case measure => simp [RowKit.intOf]; omega
          · have ek : k = i := by omega
            subst ek
            have k1 : ¬ (k : Int) < k := by omega
            go_wp2
            go_ret
            exact ⟨rfl, B3.out⟩
  · have Hb : Hid (shBad ws ≠ 0) := hb
    have n0 : (0 : Int) ≤ ws.length := by omega
    go_enter Try.func3, Try.ntmps3
    go_wp2_with fail
    refine HF.out.mono ?_
    rintro e w1 ⟨g0, rfl, c0, c2, B1⟩
    have HS1 : Hid (Calls _ _ _ w1 _) := HS.out t w1 Ht.out (HW.out.below B1.out)
    clear HF hb
    go_wp2_with fail
    refine HS1.out.mono ?_
    rintro e w2 ⟨b2, h1, _⟩
    have he := h1 Hb.out
    subst he
    have B2 : Hid (Below w.heap.size w w2) := B1.out.trans (b2.mono B1.out.size)
    clear HS1 b2 h1 Hb
    go_wp2
    go_ret
    exact ⟨rfl, B2.out⟩

set_option maxHeartbeats 16000000 in
theorem parts_neg (t : Int) (a : Option Addr) (ws : List Int) (cap : Nat) (w : World) (h : IsW w a ws cap) (hl : ws.length ≤ 140737488355328) (ht : I64 t) (hsg : t < 0) :
    Calls Try.prog 3 #[.int .i64 t, .slice a ws.length cap] w fun e w' => e = .returned (.bool true) ∧ Below w.heap.size w w' := by
  have HF : Hid (Calls _ _ _ _ _) := fact_call w
  have HW : Hid (IsW w a ws cap) := h
  have HS : Hid (∀ t' W, I64 t' → IsW W a ws cap → Calls Try.prog 5 #[.int .i64 t', .slice a ws.length cap] W (SharesEnd t' ws W)) := fun t' W h1 h2 => shares_any t' a ws cap W h2 hl h1
  have Ht : Hid (I64 t) := ht
  have d1 : decide (t > 0) = false := decide_eq_false (by omega)
  have d2 : decide (t < 0) = true := decide_eq_true hsg
  have d3 : (t == 0) = false := by rw [beq_eq_false_iff_ne]; omega
  have hsg1 : ¬ 0 < t := by omega
  have hsg2 : t < 0 := hsg
  have hsg3 : ¬ t = 0 := by omega
  clear h ht
  by_cases hb : shBad ws = 0
  · have hG := shBad_zero hb
    obtain ⟨n, hn⟩ : ∃ n, ws.length = n := ⟨_, rfl⟩
    have hn40 : n ≤ 40 := hn ▸ hG.1
    have HSum : Hid (((List.range n).map (shareI t ws)).sum = t) := by rw [← hn]; exact share_sum hG
    have HBd : Hid (∀ i, i < n → (0 ≤ t → 0 ≤ shareI t ws i ∧ shareI t ws i ≤ t) ∧ (t ≤ 0 → t ≤ shareI t ws i ∧ shareI t ws i ≤ 0)) := fun i hi => share_bd hG (by omega)
    have HZ : Hid (∀ i, i < n → ws.getD i 0 = 0 → shareI t ws i = 0) := fun i hi h0 => share_zero hG (by omega) h0
    have HM : Hid (∀ i k, i < n → k < n → ws.getD k 0 < ws.getD i 0 → (0 < t → shareI t ws k ≤ shareI t ws i) ∧ (t < 0 → shareI t ws i ≤ shareI t ws k)) := fun i k hi hk hw => share_more hG (by omega) (by omega) hw
    have HN0 : Hid (∀ i, i < n → shareI 0 ws i = 0) := fun i hi => by
      have := (share_bd (t := 0) hG (i := i) (by omega))
      have := this.1 (by omega)
      omega
    have n1 : (n : Int) ≤ 40 := by omega
    have Hb : Hid (shBad ws = 0) := hb
    have Hn : Hid (ws.length = n) := hn
    have HSumI : Hid (∀ i, i < ((List.range n).map (shareI t ws)).length → I64 (((List.range n).map (shareI t ws)).getD i 0)) := fun i hi => by
      have hi' : i < n := by simpa using hi
      rw [show ((List.range n).map (shareI t ws)).getD i 0 = shareI t ws i by simp [List.getD_eq_getElem?_getD, hi']]
      have h1 := HBd.out i hi'
      have h2 := Ht.out.1
      have h3 := Ht.out.2
      unfold I64
      rcases Int.le_total 0 t with h | h
      · have := h1.1 h; omega
      · have := h1.2 h; omega
    rw [hn] at HS ⊢
    clear hG hb hn
    go_enter Try.func3, Try.ntmps3
    go_wp2_with fail
    refine HF.out.mono ?_
    rintro e w1 ⟨g0, rfl, c0, c2, B1⟩
    have HS1 : Hid (Calls _ _ _ w1 _) := HS.out t w1 Ht.out (HW.out.below B1.out)
    clear HF
    go_wp2_with fail
    refine HS1.out.mono ?_
    rintro e w2 ⟨b2, _, h2⟩
    obtain ⟨g, hg, rfl, R⟩ := h2 Hb.out
    rw [Hn.out] at R ⊢
    have B2 : Hid (Below w.heap.size w w2) := B1.out.trans (b2.mono B1.out.size)
    have HR : Hid (∀ i, i < n → w2.cell? ⟨g, i, none⟩ = some (.int .i64 (shareI t ws i))) := fun i hi => nrow_get R hi
    have HC : Hid (∀ i, i < n → ∃ b off, a = some ⟨b, off, none⟩ ∧ b < w2.heap.size ∧ w2.cell? ⟨b, off + i, none⟩ = some (.int .i64 (ws.getD i 0))) := fun i hi => (HW.out.below B2.out).at (by rw [Hn.out]; exact hi)
    have HSm : Hid (Calls _ _ _ w2 _) := sum_run g 0 n n ((List.range n).map (shareI t ws)) w2 (by simp) (by simp; omega) HSumI (fun i hi => by
      have hi' : i < n := by simpa using hi
      rw [show ((List.range n).map (shareI t ws)).getD i 0 = shareI t ws i by simp [List.getD_eq_getElem?_getD, hi'], Nat.zero_add]
      exact HR.out i hi')
    rw [HSum.out, (sum_fit t Ht.out).1, (sum_fit t Ht.out).2] at HSm
    clear HS1 b2 R h2 c0 c2 B1
    go_wp2_with fail
    refine HSm.out.mono ?_
    rintro e w' ⟨rfl, hw⟩
    rw [hw]; clear hw w' HSm HSumI
    go_wp2
    go_loopw [11] (fun v wr => ∃ i : Nat, i ≤ n ∧ v = .int .i64 i ∧ Hid (∃ m, wr = w2.drewN m)) (fun v _ => n - (RowKit.intOf v).toNat)
    case atStart => exact ⟨0, Nat.zero_le _, rfl, 0, rfl⟩
    case round =>
      obtain ⟨i, hi, rfl, Hm⟩ := hrel
      obtain ⟨m, hm⟩ := Hm.out
      subst hm
      clear Hm
      by_cases hlt : i < n
      · obtain ⟨b, off, rfl, hb, cx⟩ := HC.out i hlt
        have cV := HR.out i hlt
        obtain ⟨V, hV⟩ : ∃ V, shareI t ws i = V := ⟨_, rfl⟩
        obtain ⟨x, hx⟩ : ∃ x, ws.getD i 0 = x := ⟨_, rfl⟩
        have HxV : Hid (shareI t ws i = V ∧ ws.getD i 0 = x) := ⟨hV, hx⟩
        rw [hV] at cV
        rw [hx] at cx
        have i0 : (0 : Int) ≤ i := by omega
        have i1 : (i : Int) < n := by omega
        have cx' : (w2.drewN m).cell? ⟨b, off + i, none⟩ = some (.int .i64 x) := cx
        have cV' : (w2.drewN m).cell? ⟨g, i, none⟩ = some (.int .i64 V) := cV
        clear cx cV
        have v1 : ¬ 0 < V := by have := (HxV.out.1 ▸ HBd.out i hlt).2 (by omega); omega
        have v2 : decide (V > 0) = false := decide_eq_false v1
        rcases Classical.em (x = 0) with hx0 | hx0
        · have hV0 : V = 0 := by rw [← hV]; exact HZ.out i hlt (hx.trans hx0)
          have e1 : (x == 0) = true := by rw [hx0]; rfl
          have e2 : (V != 0) = false := by rw [hV0]; rfl
          clear hV hx hx0 hV0
          go_wp2
          go_loopw [12] (fun v wr => ∃ k : Nat, k ≤ n ∧ v = .int .i64 k ∧ Hid (∃ m, wr = w2.drewN m)) (fun v _ => n - (RowKit.intOf v).toNat)
          case atStart => exact ⟨0, Nat.zero_le _, rfl, m, rfl⟩
          case round =>
            obtain ⟨k, hk, rfl, Hm⟩ := hrel
            obtain ⟨m', hm⟩ := Hm.out
            subst hm
            clear Hm cx' cV'
            by_cases hlt2 : k < n
            · obtain ⟨b', off', hab, hb', cy⟩ := HC.out k hlt2
              obtain ⟨rfl, rfl⟩ : b' = b ∧ off' = off := by simpa using hab.symm
              obtain ⟨b2, off2, hab2, hb2, cx⟩ := HC.out i hlt
              obtain ⟨rfl, rfl⟩ : b2 = b' ∧ off2 = off' := by simpa using hab2.symm
              have cU := HR.out k hlt2
              have cV := HR.out i hlt
              rw [HxV.out.1] at cV
              rw [HxV.out.2] at cx
              have hmo := HM.out i k hlt hlt2
              rw [HxV.out.1, HxV.out.2] at hmo
              generalize shareI t ws k = U at *
              generalize ws.getD k 0 = y at *
              have k0 : (0 : Int) ≤ k := by omega
              have k1 : (k : Int) < n := by omega
              have cx2 : (w2.drewN m').cell? ⟨b2, off2 + i, none⟩ = some (.int .i64 x) := cx
              have cV2 : (w2.drewN m').cell? ⟨g, i, none⟩ = some (.int .i64 V) := cV
              have cy2 : (w2.drewN m').cell? ⟨b2, off2 + k, none⟩ = some (.int .i64 y) := cy
              have cU2 : (w2.drewN m').cell? ⟨g, k, none⟩ = some (.int .i64 U) := cU
              have HWm : Hid (∀ q, ∃ p, (w2.drewN m').drewN q = w2.drewN p) := fun q => ⟨m' + q, drew_twice w2 m' q⟩
              generalize w2.drewN m' = W at *
              clear hab hab2 cx cV cy cU
              by_cases hxy : y < x
              · have q1 : decide (x > y) = true := decide_eq_true hxy
                have q2 : True := trivial
                have q3 : decide (V > U) = false := decide_eq_false (by have := (hmo hxy).2 hsg2; omega)
                clear hmo
                go_wp2
                go_quiet (fail)
                rename Nat => nq
                go_wp2
                go_roundw
                case rel => exact ⟨k + 1, by omega, by go_num, HWm.out _⟩
                case measure => simp [RowKit.intOf]; omega
              · have q1 : decide (x > y) = false := decide_eq_false hxy
                clear hmo
                go_wp2
                go_quiet (fail)
                rename Nat => nq
                go_wp2
                go_roundw
                case rel => exact ⟨k + 1, by omega, by go_num, HWm.out _⟩
                case measure => simp [RowKit.intOf]; omega
            · have ek : k = n := by omega
              subst ek
              have k1 : ¬ (k : Int) < k := by omega
              go_wp2
              go_roundw
              case rel => exact ⟨i + 1, by omega, by go_num, _, rfl⟩
              case measure => simp [RowKit.intOf]; omega
        · have e1 : (x == 0) = false := by rw [beq_eq_false_iff_ne]; exact hx0
          clear hV hx
          go_wp2
          go_loopw [12] (fun v wr => ∃ k : Nat, k ≤ n ∧ v = .int .i64 k ∧ Hid (∃ m, wr = w2.drewN m)) (fun v _ => n - (RowKit.intOf v).toNat)
          case atStart => exact ⟨0, Nat.zero_le _, rfl, m, rfl⟩
          case round =>
            obtain ⟨k, hk, rfl, Hm⟩ := hrel
            obtain ⟨m', hm⟩ := Hm.out
            subst hm
            clear Hm cx' cV'
            by_cases hlt2 : k < n
            · obtain ⟨b', off', hab, hb', cy⟩ := HC.out k hlt2
              obtain ⟨rfl, rfl⟩ : b' = b ∧ off' = off := by simpa using hab.symm
              obtain ⟨b2, off2, hab2, hb2, cx⟩ := HC.out i hlt
              obtain ⟨rfl, rfl⟩ : b2 = b' ∧ off2 = off' := by simpa using hab2.symm
              have cU := HR.out k hlt2
              have cV := HR.out i hlt
              rw [HxV.out.1] at cV
              rw [HxV.out.2] at cx
              have hmo := HM.out i k hlt hlt2
              rw [HxV.out.1, HxV.out.2] at hmo
              generalize shareI t ws k = U at *
              generalize ws.getD k 0 = y at *
              have k0 : (0 : Int) ≤ k := by omega
              have k1 : (k : Int) < n := by omega
              have cx2 : (w2.drewN m').cell? ⟨b2, off2 + i, none⟩ = some (.int .i64 x) := cx
              have cV2 : (w2.drewN m').cell? ⟨g, i, none⟩ = some (.int .i64 V) := cV
              have cy2 : (w2.drewN m').cell? ⟨b2, off2 + k, none⟩ = some (.int .i64 y) := cy
              have cU2 : (w2.drewN m').cell? ⟨g, k, none⟩ = some (.int .i64 U) := cU
              have HWm : Hid (∀ q, ∃ p, (w2.drewN m').drewN q = w2.drewN p) := fun q => ⟨m' + q, drew_twice w2 m' q⟩
              generalize w2.drewN m' = W at *
              clear hab hab2 cx cV cy cU
              by_cases hxy : y < x
              · have q1 : decide (x > y) = true := decide_eq_true hxy
                have q2 : True := trivial
                have q3 : decide (V > U) = false := decide_eq_false (by have := (hmo hxy).2 hsg2; omega)
                clear hmo
                go_wp2
                go_quiet (fail)
                rename Nat => nq
                go_wp2
                go_roundw
                case rel => exact ⟨k + 1, by omega, by go_num, HWm.out _⟩
                case measure => simp [RowKit.intOf]; omega
              · have q1 : decide (x > y) = false := decide_eq_false hxy
                clear hmo
                go_wp2
                go_quiet (fail)
                rename Nat => nq
                go_wp2
                go_roundw
                case rel => exact ⟨k + 1, by omega, by go_num, HWm.out _⟩
                case measure => simp [RowKit.intOf]; omega
            · have ek : k = n := by omega
              subst ek
              have k1 : ¬ (k : Int) < k := by omega
              go_wp2
              go_roundw
              case rel => exact ⟨i + 1, by omega, by go_num, _, rfl⟩
              case measure => simp [RowKit.intOf]; omega
      · have ei : i = n := by omega
        subst ei
        have i1 : ¬ (i : Int) < i := by omega
        have HS2 : Hid (Calls _ _ _ (w2.drewN m) _) := HS.out 0 (w2.drewN m) ⟨by decide, by decide⟩ ((HW.out.below B2.out).below (drewN_below w2 m))
        clear HS HR HC HM HZ HBd
        go_wp2_with fail
        refine HS2.out.mono ?_
        rintro e w3 ⟨b3, _, h3⟩
        obtain ⟨g3, hg3, rfl, R3⟩ := h3 Hb.out
        rw [Hn.out] at R3 ⊢
        have B3 : Hid (Below w.heap.size w w3) := B2.out.trans (((drewN_below w2 m).trans b3).mono B2.out.size)
        have HR3 : Hid (∀ k, k < i → w3.cell? ⟨g3, k, none⟩ = some (.int .i64 0)) := fun k hk => by
          have := nrow_get R3 hk
          rw [HN0.out k hk] at this
          exact this
        clear HS2 b3 h3 R3 HN0
        go_wp2
        go_loop [14] (fun v => ∃ k : Nat, k ≤ i ∧ v = .int .i64 k) (fun v => i - (RowKit.intOf v).toNat)
        case atStart => exact ⟨0, Nat.zero_le _, rfl⟩
        case round =>
          obtain ⟨k, hk, rfl⟩ := hrel
          by_cases hlt2 : k < i
          · have c3 := HR3.out k hlt2
            have k0 : (0 : Int) ≤ k := by omega
            have k1 : (k : Int) < i := by omega
            go_wp2
            go_round
            case rel => exact ⟨k + 1, by omega, by go_num⟩
            case measure => simp [RowKit.intOf]; omega
          · have ek : k = i := by omega
            subst ek
            have k1 : ¬ (k : Int) < k := by omega
            go_wp2
            go_ret
            exact ⟨rfl, B3.out⟩
  · have Hb : Hid (shBad ws ≠ 0) := hb
    have n0 : (0 : Int) ≤ ws.length := by omega
    go_enter Try.func3, Try.ntmps3
    go_wp2_with fail
    refine HF.out.mono ?_
    rintro e w1 ⟨g0, rfl, c0, c2, B1⟩
    have HS1 : Hid (Calls _ _ _ w1 _) := HS.out t w1 Ht.out (HW.out.below B1.out)
    clear HF hb
    go_wp2_with fail
    refine HS1.out.mono ?_
    rintro e w2 ⟨b2, h1, _⟩
    have he := h1 Hb.out
    subst he
    have B2 : Hid (Below w.heap.size w w2) := B1.out.trans (b2.mono B1.out.size)
    clear HS1 b2 h1 Hb
    go_wp2
    go_ret
    exact ⟨rfl, B2.out⟩

set_option maxHeartbeats 16000000 in
theorem parts_zero (t : Int) (a : Option Addr) (ws : List Int) (cap : Nat) (w : World) (h : IsW w a ws cap) (hl : ws.length ≤ 140737488355328) (ht : I64 t) (hsg : t = 0) :
    Calls Try.prog 3 #[.int .i64 t, .slice a ws.length cap] w fun e w' => e = .returned (.bool true) ∧ Below w.heap.size w w' := by
  have HF : Hid (Calls _ _ _ _ _) := fact_call w
  have HW : Hid (IsW w a ws cap) := h
  have HS : Hid (∀ t' W, I64 t' → IsW W a ws cap → Calls Try.prog 5 #[.int .i64 t', .slice a ws.length cap] W (SharesEnd t' ws W)) := fun t' W h1 h2 => shares_any t' a ws cap W h2 hl h1
  have Ht : Hid (I64 t) := ht
  have d1 : decide (t > 0) = false := decide_eq_false (by omega)
  have d2 : decide (t < 0) = false := decide_eq_false (by omega)
  have d3 : (t == 0) = true := by rw [hsg]; rfl
  have hsg1 : ¬ 0 < t := by omega
  have hsg2 : ¬ t < 0 := by omega
  have Hsg : Hid (t = 0) := hsg
  clear hsg
  clear h ht
  by_cases hb : shBad ws = 0
  · have hG := shBad_zero hb
    obtain ⟨n, hn⟩ : ∃ n, ws.length = n := ⟨_, rfl⟩
    have hn40 : n ≤ 40 := hn ▸ hG.1
    have HSum : Hid (((List.range n).map (shareI t ws)).sum = t) := by rw [← hn]; exact share_sum hG
    have HBd : Hid (∀ i, i < n → (0 ≤ t → 0 ≤ shareI t ws i ∧ shareI t ws i ≤ t) ∧ (t ≤ 0 → t ≤ shareI t ws i ∧ shareI t ws i ≤ 0)) := fun i hi => share_bd hG (by omega)
    have HZ : Hid (∀ i, i < n → ws.getD i 0 = 0 → shareI t ws i = 0) := fun i hi h0 => share_zero hG (by omega) h0
    have HM : Hid (∀ i k, i < n → k < n → ws.getD k 0 < ws.getD i 0 → (0 < t → shareI t ws k ≤ shareI t ws i) ∧ (t < 0 → shareI t ws i ≤ shareI t ws k)) := fun i k hi hk hw => share_more hG (by omega) (by omega) hw
    have HN0 : Hid (∀ i, i < n → shareI 0 ws i = 0) := fun i hi => by
      have := (share_bd (t := 0) hG (i := i) (by omega))
      have := this.1 (by omega)
      omega
    have n1 : (n : Int) ≤ 40 := by omega
    have Hb : Hid (shBad ws = 0) := hb
    have Hn : Hid (ws.length = n) := hn
    have HSumI : Hid (∀ i, i < ((List.range n).map (shareI t ws)).length → I64 (((List.range n).map (shareI t ws)).getD i 0)) := fun i hi => by
      have hi' : i < n := by simpa using hi
      rw [show ((List.range n).map (shareI t ws)).getD i 0 = shareI t ws i by simp [List.getD_eq_getElem?_getD, hi']]
      have h1 := HBd.out i hi'
      have h2 := Ht.out.1
      have h3 := Ht.out.2
      unfold I64
      rcases Int.le_total 0 t with h | h
      · have := h1.1 h; omega
      · have := h1.2 h; omega
    rw [hn] at HS ⊢
    clear hG hb hn
    go_enter Try.func3, Try.ntmps3
    go_wp2_with fail
    refine HF.out.mono ?_
    rintro e w1 ⟨g0, rfl, c0, c2, B1⟩
    have HS1 : Hid (Calls _ _ _ w1 _) := HS.out t w1 Ht.out (HW.out.below B1.out)
    clear HF
    go_wp2_with fail
    refine HS1.out.mono ?_
    rintro e w2 ⟨b2, _, h2⟩
    obtain ⟨g, hg, rfl, R⟩ := h2 Hb.out
    rw [Hn.out] at R ⊢
    have B2 : Hid (Below w.heap.size w w2) := B1.out.trans (b2.mono B1.out.size)
    have HR : Hid (∀ i, i < n → w2.cell? ⟨g, i, none⟩ = some (.int .i64 (shareI t ws i))) := fun i hi => nrow_get R hi
    have HC : Hid (∀ i, i < n → ∃ b off, a = some ⟨b, off, none⟩ ∧ b < w2.heap.size ∧ w2.cell? ⟨b, off + i, none⟩ = some (.int .i64 (ws.getD i 0))) := fun i hi => (HW.out.below B2.out).at (by rw [Hn.out]; exact hi)
    have HSm : Hid (Calls _ _ _ w2 _) := sum_run g 0 n n ((List.range n).map (shareI t ws)) w2 (by simp) (by simp; omega) HSumI (fun i hi => by
      have hi' : i < n := by simpa using hi
      rw [show ((List.range n).map (shareI t ws)).getD i 0 = shareI t ws i by simp [List.getD_eq_getElem?_getD, hi'], Nat.zero_add]
      exact HR.out i hi')
    rw [HSum.out, (sum_fit t Ht.out).1, (sum_fit t Ht.out).2] at HSm
    clear HS1 b2 R h2 c0 c2 B1
    go_wp2_with fail
    refine HSm.out.mono ?_
    rintro e w' ⟨rfl, hw⟩
    rw [hw]; clear hw w' HSm HSumI
    go_wp2
    go_loopw [11] (fun v wr => ∃ i : Nat, i ≤ n ∧ v = .int .i64 i ∧ Hid (∃ m, wr = w2.drewN m)) (fun v _ => n - (RowKit.intOf v).toNat)
    case atStart => exact ⟨0, Nat.zero_le _, rfl, 0, rfl⟩
    case round =>
      obtain ⟨i, hi, rfl, Hm⟩ := hrel
      obtain ⟨m, hm⟩ := Hm.out
      subst hm
      clear Hm
      by_cases hlt : i < n
      · obtain ⟨b, off, rfl, hb, cx⟩ := HC.out i hlt
        have cV := HR.out i hlt
        obtain ⟨V, hV⟩ : ∃ V, shareI t ws i = V := ⟨_, rfl⟩
        obtain ⟨x, hx⟩ : ∃ x, ws.getD i 0 = x := ⟨_, rfl⟩
        have HxV : Hid (shareI t ws i = V ∧ ws.getD i 0 = x) := ⟨hV, hx⟩
        rw [hV] at cV
        rw [hx] at cx
        have i0 : (0 : Int) ≤ i := by omega
        have i1 : (i : Int) < n := by omega
        have cx' : (w2.drewN m).cell? ⟨b, off + i, none⟩ = some (.int .i64 x) := cx
        have cV' : (w2.drewN m).cell? ⟨g, i, none⟩ = some (.int .i64 V) := cV
        clear cx cV
        have v2 : (V != 0) = false := by
          have v1 : V = 0 := by have e := Hsg.out; have := (HxV.out.1 ▸ HBd.out i hlt).2 (by omega); have := (HxV.out.1 ▸ HBd.out i hlt).1 (by omega); omega
          rw [v1]; rfl
        rcases Classical.em (x = 0) with hx0 | hx0
        · have hV0 : V = 0 := by rw [← hV]; exact HZ.out i hlt (hx.trans hx0)
          have e1 : (x == 0) = true := by rw [hx0]; rfl
          have e2 : (V != 0) = false := by rw [hV0]; rfl
          clear hV hx hx0 hV0
          go_wp2
          go_loopw [12] (fun v wr => ∃ k : Nat, k ≤ n ∧ v = .int .i64 k ∧ Hid (∃ m, wr = w2.drewN m)) (fun v _ => n - (RowKit.intOf v).toNat)
          case atStart => exact ⟨0, Nat.zero_le _, rfl, m, rfl⟩
          case round =>
            obtain ⟨k, hk, rfl, Hm⟩ := hrel
            obtain ⟨m', hm⟩ := Hm.out
            subst hm
            clear Hm cx' cV'
            by_cases hlt2 : k < n
            · obtain ⟨b', off', hab, hb', cy⟩ := HC.out k hlt2
              obtain ⟨rfl, rfl⟩ : b' = b ∧ off' = off := by simpa using hab.symm
              obtain ⟨b2, off2, hab2, hb2, cx⟩ := HC.out i hlt
              obtain ⟨rfl, rfl⟩ : b2 = b' ∧ off2 = off' := by simpa using hab2.symm
              have cU := HR.out k hlt2
              have cV := HR.out i hlt
              rw [HxV.out.1] at cV
              rw [HxV.out.2] at cx
              have hmo := HM.out i k hlt hlt2
              rw [HxV.out.1, HxV.out.2] at hmo
              generalize shareI t ws k = U at *
              generalize ws.getD k 0 = y at *
              have k0 : (0 : Int) ≤ k := by omega
              have k1 : (k : Int) < n := by omega
              have cx2 : (w2.drewN m').cell? ⟨b2, off2 + i, none⟩ = some (.int .i64 x) := cx
              have cV2 : (w2.drewN m').cell? ⟨g, i, none⟩ = some (.int .i64 V) := cV
              have cy2 : (w2.drewN m').cell? ⟨b2, off2 + k, none⟩ = some (.int .i64 y) := cy
              have cU2 : (w2.drewN m').cell? ⟨g, k, none⟩ = some (.int .i64 U) := cU
              have HWm : Hid (∀ q, ∃ p, (w2.drewN m').drewN q = w2.drewN p) := fun q => ⟨m' + q, drew_twice w2 m' q⟩
              generalize w2.drewN m' = W at *
              clear hab hab2 cx cV cy cU
              by_cases hxy : y < x
              · have q1 : decide (x > y) = true := decide_eq_true hxy
                have q2 : True := trivial
                have q3 : True := trivial
                clear hmo
                go_wp2
                go_quiet (fail)
                rename Nat => nq
                go_wp2
                go_roundw
                case rel => exact ⟨k + 1, by omega, by go_num, HWm.out _⟩
                case measure => simp [RowKit.intOf]; omega
              · have q1 : decide (x > y) = false := decide_eq_false hxy
                clear hmo
                go_wp2
                go_quiet (fail)
                rename Nat => nq
                go_wp2
                go_roundw
                case rel => exact ⟨k + 1, by omega, by go_num, HWm.out _⟩
                case measure => simp [RowKit.intOf]; omega
            · have ek : k = n := by omega
              subst ek
              have k1 : ¬ (k : Int) < k := by omega
              go_wp2
              go_roundw
              case rel => exact ⟨i + 1, by omega, by go_num, _, rfl⟩
              case measure => simp [RowKit.intOf]; omega
        · have e1 : (x == 0) = false := by rw [beq_eq_false_iff_ne]; exact hx0
          clear hV hx
          go_wp2
          go_loopw [12] (fun v wr => ∃ k : Nat, k ≤ n ∧ v = .int .i64 k ∧ Hid (∃ m, wr = w2.drewN m)) (fun v _ => n - (RowKit.intOf v).toNat)
          case atStart => exact ⟨0, Nat.zero_le _, rfl, m, rfl⟩
          case round =>
            obtain ⟨k, hk, rfl, Hm⟩ := hrel
            obtain ⟨m', hm⟩ := Hm.out
            subst hm
            clear Hm cx' cV'
            by_cases hlt2 : k < n
            · obtain ⟨b', off', hab, hb', cy⟩ := HC.out k hlt2
              obtain ⟨rfl, rfl⟩ : b' = b ∧ off' = off := by simpa using hab.symm
              obtain ⟨b2, off2, hab2, hb2, cx⟩ := HC.out i hlt
              obtain ⟨rfl, rfl⟩ : b2 = b' ∧ off2 = off' := by simpa using hab2.symm
              have cU := HR.out k hlt2
              have cV := HR.out i hlt
              rw [HxV.out.1] at cV
              rw [HxV.out.2] at cx
              have hmo := HM.out i k hlt hlt2
              rw [HxV.out.1, HxV.out.2] at hmo
              generalize shareI t ws k = U at *
              generalize ws.getD k 0 = y at *
              have k0 : (0 : Int) ≤ k := by omega
              have k1 : (k : Int) < n := by omega
              have cx2 : (w2.drewN m').cell? ⟨b2, off2 + i, none⟩ = some (.int .i64 x) := cx
              have cV2 : (w2.drewN m').cell? ⟨g, i, none⟩ = some (.int .i64 V) := cV
              have cy2 : (w2.drewN m').cell? ⟨b2, off2 + k, none⟩ = some (.int .i64 y) := cy
              have cU2 : (w2.drewN m').cell? ⟨g, k, none⟩ = some (.int .i64 U) := cU
              have HWm : Hid (∀ q, ∃ p, (w2.drewN m').drewN q = w2.drewN p) := fun q => ⟨m' + q, drew_twice w2 m' q⟩
              generalize w2.drewN m' = W at *
              clear hab hab2 cx cV cy cU
              by_cases hxy : y < x
              · have q1 : decide (x > y) = true := decide_eq_true hxy
                have q2 : True := trivial
                have q3 : True := trivial
                clear hmo
                go_wp2
                go_quiet (fail)
                rename Nat => nq
                go_wp2
                go_roundw
                case rel => exact ⟨k + 1, by omega, by go_num, HWm.out _⟩
                case measure => simp [RowKit.intOf]; omega
              · have q1 : decide (x > y) = false := decide_eq_false hxy
                clear hmo
                go_wp2
                go_quiet (fail)
                rename Nat => nq
                go_wp2
                go_roundw
                case rel => exact ⟨k + 1, by omega, by go_num, HWm.out _⟩
                case measure => simp [RowKit.intOf]; omega
            · have ek : k = n := by omega
              subst ek
              have k1 : ¬ (k : Int) < k := by omega
              go_wp2
              go_roundw
              case rel => exact ⟨i + 1, by omega, by go_num, _, rfl⟩
              case measure => simp [RowKit.intOf]; omega
      · have ei : i = n := by omega
        subst ei
        have i1 : ¬ (i : Int) < i := by omega
        have HS2 : Hid (Calls _ _ _ (w2.drewN m) _) := HS.out 0 (w2.drewN m) ⟨by decide, by decide⟩ ((HW.out.below B2.out).below (drewN_below w2 m))
        clear HS HR HC HM HZ HBd
        go_wp2_with fail
        refine HS2.out.mono ?_
        rintro e w3 ⟨b3, _, h3⟩
        obtain ⟨g3, hg3, rfl, R3⟩ := h3 Hb.out
        rw [Hn.out] at R3 ⊢
        have B3 : Hid (Below w.heap.size w w3) := B2.out.trans (((drewN_below w2 m).trans b3).mono B2.out.size)
        have HR3 : Hid (∀ k, k < i → w3.cell? ⟨g3, k, none⟩ = some (.int .i64 0)) := fun k hk => by
          have := nrow_get R3 hk
          rw [HN0.out k hk] at this
          exact this
        clear HS2 b3 h3 R3 HN0
        go_wp2
        go_loop [14] (fun v => ∃ k : Nat, k ≤ i ∧ v = .int .i64 k) (fun v => i - (RowKit.intOf v).toNat)
        case atStart => exact ⟨0, Nat.zero_le _, rfl⟩
        case round =>
          obtain ⟨k, hk, rfl⟩ := hrel
          by_cases hlt2 : k < i
          · have c3 := HR3.out k hlt2
            have k0 : (0 : Int) ≤ k := by omega
            have k1 : (k : Int) < i := by omega
            go_wp2
            go_round
            case rel => exact ⟨k + 1, by omega, by go_num⟩
            case measure => simp [RowKit.intOf]; omega
          · have ek : k = i := by omega
            subst ek
            have k1 : ¬ (k : Int) < k := by omega
            go_wp2
            go_ret
            exact ⟨rfl, B3.out⟩
  · have Hb : Hid (shBad ws ≠ 0) := hb
    have n0 : (0 : Int) ≤ ws.length := by omega
    go_enter Try.func3, Try.ntmps3
    go_wp2_with fail
    refine HF.out.mono ?_
    rintro e w1 ⟨g0, rfl, c0, c2, B1⟩
    have HS1 : Hid (Calls _ _ _ w1 _) := HS.out t w1 Ht.out (HW.out.below B1.out)
    clear HF hb
    go_wp2_with fail
    refine HS1.out.mono ?_
    rintro e w2 ⟨b2, h1, _⟩
    have he := h1 Hb.out
    subst he
    have B2 : Hid (Below w.heap.size w w2) := B1.out.trans (b2.mono B1.out.size)
    clear HS1 b2 h1 Hb
    go_wp2
    go_ret
    exact ⟨rfl, B2.out⟩
theorem parts_walk (t : Int) (a : Option Addr) (ws : List Int) (cap : Nat) (w : World) (h : IsW w a ws cap) (hl : ws.length ≤ 140737488355328) (ht : I64 t) :
    Calls Try.prog 3 #[.int .i64 t, .slice a ws.length cap] w fun e w' => e = .returned (.bool true) ∧ Below w.heap.size w w' := by
  rcases Int.lt_trichotomy t 0 with h1 | h1 | h1
  · exact parts_neg t a ws cap w h hl ht h1
  · exact parts_zero t a ws cap w h hl ht h1
  · exact parts_pos t a ws cap w h hl ht h1
end Go.Proofs.Ytojmnfckijgofaa
