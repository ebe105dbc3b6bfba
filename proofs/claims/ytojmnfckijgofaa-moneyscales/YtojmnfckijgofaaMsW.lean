/-
  The walk of daylaw5.MoneyScales.
-/
import Derived.Test.YtojmnfckijgofaaShr6
import Derived.Maps.AppendAt
namespace Go.Proofs.Ytojmnfckijgofaa
set_option linter.unusedVariables false
set_option linter.unusedSimpArgs false
set_option maxRecDepth 100000
open Go.RowKit Go.Lib Math

theorem sInt_info : ∃ i0, Try.prog.info? 3 = some i0 ∧ i0.zero = some (.int .i64 0) ∧ i0.size = 1 ∧ i0.bytes = 8 := by
  have h := srt_int
  cases hq : Try.prog.info? 3 with
  | none => rw [hq] at h; simp at h
  | some i0 =>
    rw [hq] at h
    simp at h
    exact ⟨i0, rfl, h.1, h.2.1, h.2.2⟩
/-- A row of numbers that this call makes bit by bit. -/
def SRow (w : World) (n : Nat) (v : Value) (xs : List Int) : Prop := w.ownsRow n 3 1 v xs.length (xs.map (Value.int .i64))
theorem SRow.isW {w : World} {n : Nat} {v : Value} {xs : List Int} (h : SRow w n v xs) : ∃ a cap, v = .slice a xs.length cap ∧ IsW w a xs cap := by
  obtain ⟨_, ⟨rfl, h0⟩ | ⟨g, cap, cur, rfl, _, hh, hc, _, hs, ht⟩⟩ := h
  · rw [List.length_eq_zero_iff] at h0
    subst h0
    exact ⟨none, 0, rfl, ⟨by simp, .inl rfl⟩⟩
  · refine ⟨some ⟨g, 0, none⟩, cap, rfl, ⟨hc, .inr ⟨g, 0, rfl, (Array.getElem?_eq_some_iff.1 hh).1, fun k hk => ?_⟩⟩⟩
    have e : cur[k]? = some (.int .i64 (xs.getD k 0)) := by
      have h1 : (cur.toList.take (xs.length * 1))[k]? = (xs.map (Value.int .i64))[k]? := by rw [ht]
      rw [List.getElem?_take, if_pos (by omega), List.getElem?_map, List.getElem?_eq_getElem hk] at h1
      rw [← Array.getElem?_toList, h1, List.getD_eq_getElem?_getD, List.getElem?_eq_getElem hk]
      rfl
    rw [Nat.zero_add]
    simp [World.cell?, hh, e]
theorem SRow.own {w : World} {n : Nat} {v : Value} {xs : List Int} (h : SRow w n v xs) : ∀ j, v.ownBlock = some j → n ≤ j := by
  intro j hj
  obtain ⟨_, ⟨rfl, h0⟩ | ⟨g, cap, cur, rfl, hb, _⟩⟩ := h
  · simp [Value.ownBlock] at hj
  · simp [Value.ownBlock] at hj
    omega
theorem fact_call2 (w : World) : Calls Try.prog 5 #[.int .i64 9, .slice (some ⟨w.heap.size, 0, none⟩) 2 2] (w.alloc (.cells #[.int .i64 1, .int .i64 2] 3)) fun e w' => ∃ g, e = .returned (.tuple #[.slice (some ⟨g, 0, none⟩) 2 2, .nilIface]) ∧ w'.cell? ⟨g, 1, none⟩ = some (.int .i64 6) ∧ Hid (Below w.heap.size w w') := by
  have h := shares_any 9 (some ⟨w.heap.size, 0, none⟩) [1, 2] 2 (w.alloc (.cells #[.int .i64 1, .int .i64 2] 3)) (isW_lit w [1, 2]) (by decide) ⟨by decide, by decide⟩
  refine Calls.mono h ?_
  rintro e w' ⟨hb, _, h2⟩
  obtain ⟨f0, f1, f3⟩ := share_fact2
  obtain ⟨g, _, rfl, hr⟩ := h2 f3
  refine ⟨g, rfl, ?_, ((Below.refl _ w).alloc (Nat.le_refl _) _).trans (hb.mono (by simp))⟩
  rw [← f1]; exact nrow_get hr (by decide)
set_option maxHeartbeats 2000000 in
theorem sameW (a1 a2 : Option Addr) (l : List Int) (cap1 cap2 : Nat) (w : World) (h1 : IsW w a1 l cap1) (h2 : IsW w a2 l cap2) (hl : l.length ≤ 1000000) :
    Calls Try.prog 7 #[.slice a1 l.length cap1, .slice a2 l.length cap2] w fun e w' => e = .returned (.bool true) ∧ ∃ m, w' = w.drewN m := by
  have H1 : Hid (∀ k, k < l.length → ∃ b off, a1 = some ⟨b, off, none⟩ ∧ b < w.heap.size ∧ w.cell? ⟨b, off + k, none⟩ = some (.int .i64 (l.getD k 0))) := fun k hk => h1.at hk
  have H2 : Hid (∀ k, k < l.length → ∃ b off, a2 = some ⟨b, off, none⟩ ∧ b < w.heap.size ∧ w.cell? ⟨b, off + k, none⟩ = some (.int .i64 (l.getD k 0))) := fun k hk => h2.at hk
  have hl' : (l.length : Int) ≤ 1000000 := by omega
  clear h1 h2
  go_enter Try.func7, Try.ntmps7
  go_wp2
  go_loopw [5] (fun v wr => ∃ k : Nat, k ≤ l.length ∧ v = .int .i64 k ∧ Hid (∃ m, wr = w.drewN m)) (fun v _ => l.length - (RowKit.intOf v).toNat)
  case atStart => exact ⟨0, Nat.zero_le _, rfl, 0, rfl⟩
  case round =>
    obtain ⟨k, hk, rfl, Hm⟩ := hrel
    obtain ⟨m, hm⟩ := Hm.out
    subst hm
    clear Hm
    by_cases hlt : k < l.length
    · obtain ⟨b, off, rfl, hb, c⟩ := H1.out k hlt
      obtain ⟨b2, off2, rfl, hb2, c2⟩ := H2.out k hlt
      generalize l.getD k 0 = x at *
      have i0 : (0 : Int) ≤ k := by omega
      have i1 : (k : Int) < l.length := by omega
      have c' : (w.drewN m).cell? ⟨b, off + k, none⟩ = some (.int .i64 x) := c
      have c2' : (w.drewN m).cell? ⟨b2, off2 + k, none⟩ = some (.int .i64 x) := c2
      have HWm : Hid (∀ q, ∃ p, (w.drewN m).drewN q = w.drewN p) := fun q => ⟨m + q, drew_twice w m q⟩
      clear c c2
      generalize w.drewN m = W at *
      go_wp2
      go_quiet (fail)
      rename Nat => nq
      go_wp2
      go_roundw
      case rel => exact ⟨k + 1, by omega, by go_num, HWm.out _⟩
      case measure => simp [RowKit.intOf]; omega
    · have hk2 : k = l.length := by omega
      subst hk2
      have i1 : ¬ (l.length : Int) < l.length := by omega
      go_wp2
      go_ret
      exact ⟨rfl, m, rfl⟩
theorem share_times {t k : Int} {ws : List Int} (hk : 0 < k) (n : Nat) : (List.range n).map (shareI t (timesL ws k)) = (List.range n).map (shareI t ws) := by
  apply List.map_congr_left
  intro i _
  exact times_share hk i
theorem NRow.isW {w : World} {g : Nat} {l : List Int} (h : NRow w g l) : IsW w (some ⟨g, 0, none⟩) l l.length :=
  ⟨Nat.le_refl _, .inr ⟨g, 0, rfl, h.ltS, fun k hk => by rw [Nat.zero_add]; exact h.cell hk⟩⟩
theorem times_take (ws : List Int) (k : Int) (i : Nat) (h : i < ws.length) : timesL (ws.take (i + 1)) k = timesL (ws.take i) k ++ [ws.getD i 0 * k] := by
  unfold timesL
  rw [w_take ws i h, List.map_append]
  rfl
set_option maxHeartbeats 16000000 in
theorem scales_walk (t : Int) (a : Option Addr) (ws : List Int) (cap : Nat) (k : Int) (w : World) (h : IsW w a ws cap) (hwi : ∀ x ∈ ws, I64 x) (hl : ws.length * 8 ≤ 140737488355328) (ht : I64 t) (hk : I64 k) :
    Calls Try.prog 4 #[.int .i64 t, .slice a ws.length cap, .int .i64 k] w fun e w' => e = .returned (.bool true) ∧ Below w.heap.size w w' := by
  have HF : Hid (Calls _ _ _ _ _) := fact_call2 w
  have HW : Hid (IsW w a ws cap) := h
  have HS : Hid (∀ t' W, I64 t' → IsW W a ws cap → Calls Try.prog 5 #[.int .i64 t', .slice a ws.length cap] W (SharesEnd t' ws W)) := fun t' W h1 h2 => shares_any t' a ws cap W h2 (by omega) h1
  have Ht : Hid (I64 t) := ht
  have hl' : (ws.length : Int) ≤ 17592186044416 := by omega
  have n0 : (0 : Int) ≤ ws.length := by omega
  obtain ⟨i0, hi, hz0, hz1, hz2⟩ := sInt_info
  clear h
  by_cases hk0 : k < 1
  · have e1 : decide (k < 1) = true := decide_eq_true hk0
    go_enter Try.func4, Try.ntmps4
    go_wp2_with fail
    refine HF.out.mono ?_
    rintro e w1 ⟨g0, rfl, c0, B1⟩
    go_wp2
    go_ret
    exact ⟨rfl, B1.out⟩
  by_cases hk1 : 1000 < k
  · go_enter Try.func4, Try.ntmps4
    go_wp2_with fail
    refine HF.out.mono ?_
    rintro e w1 ⟨g0, rfl, c0, B1⟩
    go_wp2
    go_ret
    exact ⟨rfl, B1.out⟩
  by_cases ht0 : t < -1000000000000
  · go_enter Try.func4, Try.ntmps4
    go_wp2_with fail
    refine HF.out.mono ?_
    rintro e w1 ⟨g0, rfl, c0, B1⟩
    go_wp2
    go_ret
    exact ⟨rfl, B1.out⟩
  by_cases ht1 : 1000000000000 < t
  · go_enter Try.func4, Try.ntmps4
    go_wp2_with fail
    refine HF.out.mono ?_
    rintro e w1 ⟨g0, rfl, c0, B1⟩
    go_wp2
    go_ret
    exact ⟨rfl, B1.out⟩
  clear ht hk
  go_enter Try.func4, Try.ntmps4
  go_wp2_with fail
  refine HF.out.mono ?_
  rintro e w1 ⟨g0, rfl, c0, B1⟩
  clear HF
  go_wp2
  clear c0
  go_loopw [9, 10] (fun v i wr => ∃ q : Nat, q ≤ ws.length ∧ i = .int .i64 q ∧ Hid (SRow wr w1.heap.size v (timesL (ws.take q) k) ∧ (∀ x ∈ ws.take q, 0 ≤ x ∧ x ≤ 1000000) ∧ Below w1.heap.size w1 wr)) (fun _ i _ => ws.length - (RowKit.intOf i).toNat)
  case atStart => exact ⟨0, Nat.zero_le _, rfl, ⟨by simp [timesL], .inl ⟨rfl, by simp [timesL]⟩⟩, by simp, Below.refl _ _⟩
  case round =>
    obtain ⟨q, hq, rfl, H⟩ := hrel
    by_cases hlt : q < ws.length
    · obtain ⟨r1, r2, r3⟩ := H.out
      have hW3 := (HW.out.below (B1.out.trans (r3.mono B1.out.size)))
      obtain ⟨b, off, rfl, hb, c⟩ := hW3.at hlt
      have et := times_take ws k q hlt
      have ew := w_take ws q hlt
      have q0 : (0 : Int) ≤ q := by omega
      have q1 : (q : Int) < ws.length := by omega
      have hb1 : b < w1.heap.size := by
        obtain ⟨b', off', e', hb', _⟩ := (HW.out.below B1.out).at hlt
        have : b = b' := by simp only [Option.some.injEq, Addr.mk.injEq] at e'; exact e'.1
        rw [this]; exact hb'
      generalize ws.getD q 0 = x at *
      have HB : Hid (Below w.heap.size w wr) := B1.out.trans (r3.mono B1.out.size)
      by_cases hx0 : x < 0
      · clear H r1 r2 r3 et ew hW3
        go_wp2
        go_ret
        exact ⟨rfl, HB.out⟩
      · by_cases hx1 : 1000000 < x
        · clear H r1 r2 r3 et ew hW3
          go_wp2
          go_ret
          exact ⟨rfl, HB.out⟩
        · have hm0 : 0 ≤ x * k := Int.mul_nonneg (by omega) (by omega)
          have hm1 : x * k ≤ 1000000 * 1000 := Int.mul_le_mul (by omega) (by omega) (by omega) (by omega)
          have Het : Hid (timesL (ws.take (q + 1)) k = timesL (ws.take q) k ++ [x * k]) := et
          have Hok : Hid (∀ x ∈ ws.take (q + 1), 0 ≤ x ∧ x ≤ 1000000) := by
            unfold Hid
            rw [ew]
            intro y hy
            rcases List.mem_append.1 hy with hy | hy
            · exact r2 y hy
            · rw [List.mem_singleton.1 hy]; omega
          have HR : Hid (SRow wr w1.heap.size _ (timesL (ws.take q) k)) := r1
          have Hb3 : Hid (Below w1.heap.size w1 wr) := r3
          have hlenq : (timesL (ws.take q) k).length = q := by rw [times_len, List.length_take]; omega
          have hs3 := r3.size
          clear H r1 r2 r3 et ew hW3
          go_wp2_with (at_builtin; refine wpList_append_own _ rfl _ _ 22 rfl w1.heap.size 3 i0 (.int .i64 0) 1 8 Try.underlying22 hi hz0 hz1 hz2 rfl (by decide) _ _ _ rfl (World.ownsRow.alloc HR.out _) ⟨wr.heap.size, 0, none⟩ 1 1 [.int .i64 (x * k)] rfl rfl (cell_one_new _ _ _) ?c2 ?c3 ?c4 ?c5 ?_)
          case c2 => first | rfl | (intro u hu; simp at hu; subst hu; rfl)
          case c3 => unfold maxLen; omega
          case c4 => omega
          case c5 => first | omega | (simp; omega)
          intro v' w4 hown' hgrow _
          have hob := HR.out.own
          have B4 : Below w1.heap.size w1 w4 := (Hb3.out.alloc Hb3.out.size (.cells #[.int .i64 (x * k)] 3)).grown hgrow (by simp; omega) (fun j ej => hob j ej)
          have T4 : Hid (SRow w4 w1.heap.size v' (timesL (ws.take (q + 1)) k) ∧ (∀ x ∈ ws.take (q + 1), 0 ≤ x ∧ x ≤ 1000000) ∧ Below w1.heap.size w1 w4) := by
            refine ⟨?_, Hok.out, B4⟩
            rw [Het.out]
            unfold SRow
            rw [List.length_append, hlenq]
            simpa using hown'
          clear hown' hgrow hob HR Hb3 B4 HB
          go_wp2
          go_roundw
          case rel => exact ⟨q + 1, by omega, by go_num, T4⟩
          case measure => simp [RowKit.intOf]; omega
    · have eq : q = ws.length := by omega
      subst eq
      have q1 : ¬ (ws.length : Int) < ws.length := by omega
      obtain ⟨r1, r2, r3⟩ := H.out
      rw [List.take_length] at r1 r2
      obtain ⟨a2, cap2, rfl, hw2⟩ := r1.isW
      rw [times_len]
      have HW2 : Hid (IsW wr a2 (timesL ws k) cap2) := hw2
      have B2 : Hid (Below w.heap.size w wr) := B1.out.trans (r3.mono B1.out.size)
      have HS2 : Hid (∀ W, IsW W a2 (timesL ws k) cap2 → Calls Try.prog 5 #[.int .i64 t, .slice a2 ws.length cap2] W (SharesEnd t (timesL ws k) W)) := fun W hW => by
        have := shares_any t a2 (timesL ws k) cap2 W hW (by rw [times_len]; omega) Ht.out
        rw [times_len] at this
        exact this
      have HS1 : Hid (Calls _ _ _ wr _) := HS.out t wr Ht.out (HW.out.below B2.out)
      have HBd : Hid (shBad (timesL ws k) = shBad ws) := times_bad (by omega) (by omega) r2
      have Hti : Hid (I64 (-t)) := by unfold Hid; have := Ht.out.1; have := Ht.out.2; unfold I64; omega
      have hneg : IntKind.i64.wrap (-t) = -t := by rw [IntKind.wrap_i64]; omega
      clear H r1 r2 r3 hw2
      by_cases hbad : shBad ws = 0
      · have hG := shBad_zero hbad
        obtain ⟨n, hn⟩ : ∃ n, ws.length = n := ⟨_, rfl⟩
        have hn40 : n ≤ 40 := hn ▸ hG.1
        have n40 : (n : Int) ≤ 40 := by omega
        have Hn : Hid (ws.length = n) := hn
        have Hb : Hid (shBad ws = 0) := hbad
        have HNg : Hid (∀ i, i < n → shareI (-t) ws i = -(shareI t ws i) ∧ -1000000000000 ≤ shareI t ws i ∧ shareI t ws i ≤ 1000000000000) := fun i hi => by
          refine ⟨share_neg hG (by omega), ?_⟩
          have h1 := share_bd (t := t) hG (i := i) (by omega)
          have := Ht.out.1
          have := Ht.out.2
          rcases Int.le_total 0 t with h | h
          · have := h1.1 h; omega
          · have := h1.2 h; omega
        have HTs : Hid ((List.range n).map (shareI t (timesL ws k)) = (List.range n).map (shareI t ws)) := share_times (by omega) n
        rw [hn] at HS HS1 HS2 q1 ⊢
        clear hG hbad hn
        go_wp2_with fail
        refine HS1.out.mono ?_
        rintro e w3 ⟨b3, _, h3⟩
        obtain ⟨ga, hga, rfl, Ra⟩ := h3 Hb.out
        rw [Hn.out] at Ra ⊢
        have B3 : Hid (Below w.heap.size w w3) := B2.out.trans (b3.mono B2.out.size)
        have HC2 : Hid (Calls _ _ _ w3 _) := HS2.out w3 (HW2.out.below b3)
        have HRa : Hid (NRow w3 ga ((List.range n).map (shareI t ws))) := Ra
        clear HS1 HS2 b3 h3 Ra
        go_wp2_with fail
        refine HC2.out.mono ?_
        rintro e w4 ⟨b4, _, h4⟩
        obtain ⟨gb, hgb, rfl, Rb⟩ := h4 (HBd.out.trans Hb.out)
        rw [times_len, Hn.out] at Rb ⊢
        rw [HTs.out] at Rb
        have B4 : Hid (Below w.heap.size w w4) := B3.out.trans (b4.mono B3.out.size)
        have HC3 : Hid (Calls _ _ _ w4 _) := HS.out (-t) w4 Hti.out (HW.out.below B4.out)
        have HRa4 : Hid (NRow w4 ga ((List.range n).map (shareI t ws))) := HRa.out.belowS b4 HRa.out.ltS
        have HRb : Hid (NRow w4 gb ((List.range n).map (shareI t ws))) := Rb
        clear HC2 b4 h4 Rb HRa B3
        go_wp2_with fail
        refine HC3.out.mono ?_
        rintro e w5 ⟨b5, _, h5⟩
        obtain ⟨gc, hgc, rfl, Rc⟩ := h5 Hb.out
        rw [Hn.out] at Rc ⊢
        have B5 : Hid (Below w.heap.size w w5) := B4.out.trans (b5.mono B4.out.size)
        have hRa5 := HRa4.out.belowS b5 HRa4.out.ltS
        have hRb5 := HRb.out.belowS b5 HRb.out.ltS
        have HSm : Hid (Calls Try.prog 7 #[.slice (some ⟨ga, 0, none⟩) n n, .slice (some ⟨gb, 0, none⟩) n n] w5 fun e w' => e = .returned (.bool true) ∧ ∃ m, w' = w5.drewN m) := by
          unfold Hid
          have h1 := sameW (some ⟨ga, 0, none⟩) (some ⟨gb, 0, none⟩) _ _ _ w5 hRa5.isW hRb5.isW (by simp; omega)
          simpa using h1
        have HCa : Hid (∀ i, i < n → w5.cell? ⟨ga, i, none⟩ = some (.int .i64 (shareI t ws i))) := fun i hi => nrow_get hRa5 hi
        have HCc : Hid (∀ i, i < n → w5.cell? ⟨gc, i, none⟩ = some (.int .i64 (-(shareI t ws i)))) := fun i hi => by
          have := nrow_get Rc hi
          rw [(HNg.out i hi).1] at this
          exact this
        clear HC3 b5 h5 Rc hRa5 hRb5 HRa4 HRb B4
        go_wp2_with fail
        refine HSm.out.mono ?_
        rintro e w' ⟨rfl, m, hw⟩
        subst hw
        clear HSm
        go_wp2
        go_quiet (fail)
        rename Nat => nq
        have Hm0 : Hid (∃ p, (w5.drewN m).drewN nq = w5.drewN p) := ⟨m + nq, drew_twice w5 m nq⟩
        go_wp2
        go_loopw [18] (fun v wr => ∃ i : Nat, i ≤ n ∧ v = .int .i64 i ∧ Hid (∃ m, wr = w5.drewN m)) (fun v _ => n - (RowKit.intOf v).toNat)
        case atStart => exact ⟨0, Nat.zero_le _, rfl, Hm0⟩
        case round =>
          obtain ⟨i, hi', rfl, Hm⟩ := hrel
          obtain ⟨m2, hm⟩ := Hm.out
          subst hm
          clear Hm
          by_cases hlt : i < n
          · have ca : (w5.drewN m2).cell? ⟨ga, i, none⟩ = some (.int .i64 (shareI t ws i)) := HCa.out i hlt
            have cc : (w5.drewN m2).cell? ⟨gc, i, none⟩ = some (.int .i64 (-(shareI t ws i))) := HCc.out i hlt
            obtain ⟨_, v1, v2⟩ := HNg.out i hlt
            generalize shareI t ws i = V at *
            have v3 : IntKind.i64.wrap (-V) = -V := by rw [IntKind.wrap_i64]; omega
            have v4 : (-V != -V) = false := by simp
            have j0 : (0 : Int) ≤ i := by omega
            have j1 : (i : Int) < n := by omega
            have HWm : Hid (∀ q, ∃ p, (w5.drewN m2).drewN q = w5.drewN p) := fun q => ⟨m2 + q, drew_twice w5 m2 q⟩
            generalize w5.drewN m2 = W at *
            go_wp2
            go_quiet (fail)
            rename Nat => nq2
            go_wp2
            go_roundw
            case rel => exact ⟨i + 1, by omega, by go_num, HWm.out _⟩
            case measure => simp [RowKit.intOf]; omega
          · have ei : i = n := by omega
            subst ei
            have j1 : ¬ (i : Int) < i := by omega
            go_wp2
            go_ret
            exact ⟨rfl, B5.out.trans ((drewN_below w5 m2).mono B5.out.size)⟩
      · have Hb : Hid (shBad ws ≠ 0) := hbad
        go_wp2_with fail
        refine HS1.out.mono ?_
        rintro e w3 ⟨b3, h3, _⟩
        have he := h3 Hb.out
        subst he
        have B3 : Hid (Below w.heap.size w w3) := B2.out.trans (b3.mono B2.out.size)
        have HC2 : Hid (Calls _ _ _ w3 _) := HS2.out w3 (HW2.out.below b3)
        clear HS1 HS2 b3 h3
        go_wp2_with fail
        refine HC2.out.mono ?_
        rintro e w4 ⟨b4, h4, _⟩
        have he := h4 (by rw [HBd.out]; exact Hb.out)
        rw [HBd.out] at he
        subst he
        have B4 : Hid (Below w.heap.size w w4) := B3.out.trans (b4.mono B3.out.size)
        have HC3 : Hid (Calls _ _ _ w4 _) := HS.out (-t) w4 Hti.out (HW.out.below B4.out)
        clear HC2 b4 h4
        go_wp2_with fail
        refine HC3.out.mono ?_
        rintro e w5 ⟨b5, h5, _⟩
        have he := h5 Hb.out
        subst he
        have B5 : Hid (Below w.heap.size w w5) := B4.out.trans (b5.mono B4.out.size)
        have HSm : Hid (Calls Try.prog 7 #[.slice none 0 0, .slice none 0 0] w5 fun e w' => e = .returned (.bool true) ∧ ∃ m, w' = w5.drewN m) := sameW none none [] 0 0 w5 ⟨by simp, .inl rfl⟩ ⟨by simp, .inl rfl⟩ (by simp)
        clear HC3 b5 h5
        generalize shBad ws = en at *
        go_wp2_with fail
        refine HSm.out.mono ?_
        rintro e w' ⟨rfl, m, hw⟩
        subst hw
        clear HSm
        go_wp2
        go_quiet (fail)
        rename Nat => nq
        go_wp2
        refine wp_loop_rounds 1 ?_
        rw [rounds_succ]
        go_wp2
        go_ret
        refine ⟨rfl, ?_⟩
        try rw [drew_twice]
        exact B5.out.trans ((drewN_below w5 _).mono B5.out.size)
end Go.Proofs.Ytojmnfckijgofaa
