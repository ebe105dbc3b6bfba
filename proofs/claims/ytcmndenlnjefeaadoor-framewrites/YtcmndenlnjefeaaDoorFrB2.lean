/-
  The contract of frame.Balances.
-/
import Derived.Test.YtcmndenlnjefeaaDoorFrB1
namespace Go.Proofs.YtcmndenlnjefeaaDoor
set_option linter.unusedVariables false
set_option linter.unusedSimpArgs false
set_option maxRecDepth 100000
open Go.RowKit Go.Lib

theorem blsW_snoc (l : List Bl) (x : Bl) : blsW (l ++ [x]) = blsW l ++ blW x := by simp [blsW]

set_option maxHeartbeats 4000000 in
theorem fBalances_any (a : Option Addr) (cap : Nat) (l : List Bl) (w : World) (hlen : l.length ≤ maxLen) (hwf : ∀ x ∈ l, I64B x) (h : IsBl w a l cap) :
    Calls Tryd.prog 8 #[.slice a l.length cap] w fun e w' =>
      ((balBad l ≠ 0 ∧ e = .returned (.tuple #[.slice none 0 0, enE (balBad l)])) ∨ (balBad l = 0 ∧ ∃ v, e = .returned (.tuple #[v, .nilIface]) ∧ ByRow w' w.heap.size v (balB l))) ∧ Below w.heap.size w w' := by
  have hlen' : (l.length : Int) ≤ 9223372036854775807 := by unfold maxLen at hlen; omega
  by_cases h1 : 200 < l.length
  · have h1' : (200 : Int) < l.length := by omega
    have e1 : balBad l = 4 := if_pos h1
    rw [e1]
    clear e1 h
    go_enter Tryd.func8, Tryd.ntmps8
    go_wp2
    go_ret2
    exact ⟨.inl ⟨by decide, rfl⟩, Below.refl _ _⟩
  have h1' : ¬ (200 : Int) < l.length := by omega
  have HA : Hid (IsBl w a l cap) := h
  have Hwf : Hid (∀ x ∈ l, I64B x) := hwf
  obtain ⟨W1, hW1⟩ : ∃ W1, w.alloc (.cells #[.slice none 0 0, .nilIface] 44) = W1 := ⟨_, rfl⟩
  have y0 : WrAt W1 w.heap.size [] 0 := by rw [← hW1]; exact ⟨_, WBox.new _ _ _, ByRow.nil _ _⟩
  have B0 : Below w.heap.size w W1 := by rw [← hW1]; exact (Below.refl _ _).alloc (Nat.le_refl _) _
  have hn3 := @numB_length l.length (by omega) (by omega)
  have HN : Hid (Calls _ _ _ _ _) := wnumber_any w.heap.size [] 0 l.length W1 (by omega) (by omega) (by simp) y0
  have HB0 : Hid (Below w.heap.size w W1) := B0
  have Hbad : Hid (balBad l = blsErr l l.length) := if_neg h1
  have HeW : Hid (BlsFit l → numB l.length ++ blsW l = balB l) := fun hf => balW_fit hf
  clear h hwf B0 y0
  go_enter Tryd.func8, Tryd.ntmps8
  go_wp2_with fail
  refine HN.out.mono ?_
  rintro e w1 ⟨rfl, y1, B1⟩
  have Hy1 : Hid (WrAt w1 w.heap.size (numB l.length) 0) := y1
  have HB1 : Hid (Below w.heap.size w w1) := HB0.out.trans B1
  generalize numB l.length = hd at *
  clear HN y1 B1 HB0 hW1
  go_wp2
  go_loopw [5, 15] (fun _ i wr => ∃ k : Nat, k ≤ l.length ∧ i = .int .i64 k ∧ Hid (WrAt wr w.heap.size (hd ++ blsW (l.take k)) (blsErr l k)) ∧ Below w.heap.size w wr) (fun _ i _ => l.length - (intOf i).toNat)
  case atStart => exact ⟨0, Nat.zero_le _, rfl, by unfold Hid; simpa [blsW, blsErr] using Hy1.out, HB1.out⟩
  case round =>
    obtain ⟨k, hk, rfl, R, BW⟩ := hrel
    by_cases hlt : k < l.length
    · rcases HA.out.lies with h0 | ⟨gb, go, rfl, hgb, hgc⟩
      · rw [h0] at hlt; simp at hlt
      have hn := (hgc k hlt).below BW hgb
      have hst : hd ++ blsW (l.take (k + 1)) = hd ++ blsW (l.take k) ++ blW (l.getD k bl0) := by rw [bls_take l k hlt, blsW_snoc, List.append_assoc]
      have hse : blsErr l (k + 1) = fo (blErr (blsErr l k) (l.getD k bl0)) (ordAt l k) := rfl
      have hxw := Hwf.out _ (bls_mem l k hlt)
      have hbl : (hd ++ blsW (l.take k)).length ≤ 17610 := by
        have := blsW_length (l.take k) (fun y hy => Hwf.out y (List.mem_of_mem_take hy))
        rw [List.length_take] at this
        rw [List.length_append]
        omega
      have HRi : Hid (∀ W, Below w.heap.size w W → Calls Tryd.prog 19 #[.slice (some ⟨gb, go, none⟩) l.length cap, .int .i64 k] W fun e w' => e = .returned (.bool (risesB l k)) ∧ Below W.heap.size W w') := fun W hW => rises_any _ cap k l W (by omega) hlt (HA.out.below hW)
      have hro : risesB l k = decide (ordAt l k = 0) := rfl
      have ho5 : ordAt l k = 0 ∨ ordAt l k = 5 := by unfold ordAt; split <;> simp
      generalize l.getD k bl0 = x at *
      generalize hd ++ blsW (l.take k) = bk at *
      generalize blsErr l k = ek at *
      generalize ordAt l k = ok at *
      generalize risesB l k = rk at *
      have Hst : Hid (_ = _) := hst
      have Hse : Hid (_ = _) := hse
      have Hro : Hid (rk = decide (ok = 0)) := hro
      have Hn : Hid (BlAt wr gb (go + k * 4) x) := hn
      clear hst hse hgc hro
      obtain ⟨x0, x1, x2, x3⟩ := x
      obtain ⟨c0, c1, c2, c3⟩ := hn
      simp only at c0 c1 c2 c3
      obtain ⟨hx0, hx3⟩ := hxw
      simp only at hx0 hx3
      have j0 : (0 : Int) ≤ k := by omega
      have j1 : (k : Int) < l.length := by omega
      have t0 := numB_length hx0.1 hx0.2
      have t34a := txtW_length x1
      have t34b := txtW_length x2
      have HT0 : Hid (Calls _ _ _ _ _) := wsmall_any w.heap.size bk ek x0 wr hx0.1 hx0.2 (by omega) R.out
      clear R c1 c2 c3
      go_wp2_with fail
      refine HT0.out.mono ?_
      rintro e u1 ⟨rfl, y1, B1⟩
      have n1 := Hn.out.below B1 hgb
      have HT1 : Hid (Calls _ _ _ _ _) := wtext_any w.heap.size _ _ x1 u1 (by rw [List.length_append]; omega) y1
      have Hn1 : Hid (BlAt u1 _ _ _) := n1
      have HB1 : Hid (Below w.heap.size wr u1) := B1
      clear c0 HT0 Hn y1 B1
      have c1 := n1.c1
      simp only at c1
      clear n1
      go_wp2_with fail
      refine HT1.out.mono ?_
      rintro e u2 ⟨rfl, y2, B2⟩
      have n2 := Hn1.out.below B2 hgb
      have HT2 : Hid (Calls _ _ _ _ _) := wtext_any w.heap.size _ _ x2 u2 (by rw [List.length_append, List.length_append]; omega) y2
      have Hn2 : Hid (BlAt u2 _ _ _) := n2
      have HB2 : Hid (Below w.heap.size wr u2) := HB1.out.trans B2
      clear c1 HT1 Hn1 y2 B2 HB1
      have c2 := n2.c2
      simp only at c2
      clear n2
      go_wp2_with fail
      refine HT2.out.mono ?_
      rintro e u3 ⟨rfl, y3, B3⟩
      have n3 := Hn2.out.below B3 hgb
      have HT3 : Hid (Calls _ _ _ _ _) := wamount_any w.heap.size _ _ x3 u3 hx3.1 hx3.2 (by rw [List.length_append, List.length_append, List.length_append]; omega) y3
      have HB3 : Hid (Below w.heap.size wr u3) := HB2.out.trans B3
      clear c2 HT2 Hn2 y3 B3 HB2
      have c3 := n3.c3
      simp only at c3
      clear n3
      go_wp2_with fail
      refine HT3.out.mono ?_
      rintro e u4 ⟨rfl, y4, B4⟩
      have BN := BW.trans (HB3.out.trans B4)
      have HY : WrAt u4 w.heap.size (hd ++ blsW (l.take (k + 1))) (blErr ek ⟨x0, x1, x2, x3⟩) := by
        rw [Hst.out]
        have : blW ⟨x0, x1, x2, x3⟩ = numB x0 ++ (txtW x1 ++ (txtW x2 ++ numB x3)) := by simp [blW]
        rw [this, ← List.append_assoc, ← List.append_assoc, ← List.append_assoc]
        exact y4
      generalize blErr ek ⟨x0, x1, x2, x3⟩ = e4 at *
      obtain ⟨v4, x4, r4⟩ := HY
      have d1 := x4.c1
      have Hx4 : Hid (WBox u4 _ _ _) := x4
      have Hr4 : Hid (ByRow u4 _ _ _) := r4
      clear c3 HT3 y4 B4 HB3 Hst x4 r4 t0 t34a t34b hx0 hx3 hbl
      by_cases he : e4 = 0
      · subst he
        rw [enE_zero] at d1
        have HRu : Hid (Calls _ _ _ _ _) := HRi.out u4 BN
        rcases ho5 with rfl | rfl
        · have hrk : rk = true := by rw [Hro.out]; rfl
          subst hrk
          go_wp2_with fail
          refine HRu.out.mono ?_
          rintro e u5 ⟨rfl, B5⟩
          have HYN : Hid (WrAt u5 w.heap.size (hd ++ blsW (l.take (k + 1))) (blsErr l (k + 1))) := by
            unfold Hid
            rw [Hse.out]
            exact ⟨v4, Hx4.out.below B5 Hx4.out.lt, Hr4.out.below B5⟩
          have BN5 := BN.trans (B5.mono BN.size)
          clear HRu HRi B5 Hx4 Hr4 d1
          go_wp2
          go_roundw
          case rel => exact ⟨k + 1, by omega, by go_num, HYN, BN5⟩
          case measure => simp [intOf]; omega
        · have hrk : rk = false := by rw [Hro.out]; rfl
          subst hrk
          go_wp2_with fail
          refine HRu.out.mono ?_
          rintro e u5 ⟨rfl, B5⟩
          have x5 := Hx4.out.below B5 Hx4.out.lt
          have f5 := x5.fz 1
          have g5 := x5.c1
          have HYN : Hid (WrAt (u5.setCell ⟨w.heap.size, 1, none⟩ (.iface 42 (.int .i64 5))) w.heap.size (hd ++ blsW (l.take (k + 1))) (blsErr l (k + 1))) := by
            unfold Hid
            rw [Hse.out]
            exact ⟨v4, x5.set1 _, ByRow.setOther (Hr4.out.below B5) (Nat.lt_succ_self _)⟩
          have BN5 := (BN.trans (B5.mono BN.size)).setCell (p := ⟨w.heap.size, 1, none⟩) (Nat.le_refl _) (.iface 42 (.int .i64 5))
          clear HRu HRi B5 Hx4 Hr4 d1 x5
          go_wp2
          go_roundw
          case rel => exact ⟨k + 1, by omega, by go_num, HYN, BN5⟩
          case measure => simp [intOf]; omega
      · rw [enE_ne he] at d1
        have HYN : Hid (WrAt u4 w.heap.size (hd ++ blsW (l.take (k + 1))) (blsErr l (k + 1))) := by
          unfold Hid
          rw [Hse.out]
          have : fo e4 ok = e4 := if_neg he
          rw [this]
          exact ⟨v4, Hx4.out, Hr4.out⟩
        clear HRi Hx4 Hr4
        go_wp2
        go_roundw
        case rel => exact ⟨k + 1, by omega, by go_num, HYN, BN⟩
        case measure => simp [intOf]; omega
    · have hk2 : k = l.length := by omega
      subst hk2
      have R1 := R.out
      rw [List.take_length] at R1
      obtain ⟨bad, hbad⟩ : ∃ bad, blsErr l l.length = bad := ⟨_, rfl⟩
      rw [hbad] at R1 Hbad
      have hb := Hbad.out
      by_cases h0 : bad = 0
      · subst h0
        have HWA : Hid (Calls _ _ _ _ _) := wall_ok w.heap.size _ wr R1
        have hW := HeW.out (balBad_zero.1 hb)
        rw [hW] at HWA
        clear R R1 hbad hb hW
        go_wp2_with fail
        refine HWA.out.mono ?_
        rintro e u ⟨v, rfl, rr, bu⟩
        obtain ⟨a4, c4, rfl, _⟩ := rr.isBy
        have HR : Hid (ByRow u _ _ _) := rr
        generalize (balB l).length = m4 at *
        clear HWA rr
        go_wp2
        go_ret2
        exact ⟨.inr ⟨Hbad.out, _, rfl, ByRow.mono (n := w.heap.size + 1) (m := w.heap.size) HR.out (by omega)⟩, BW.trans (bu.mono BW.size)⟩
      · have HWA : Hid (Calls _ _ _ _ _) := wall_bad w.heap.size _ bad wr h0 R1
        rw [enE_ne h0] at HWA
        clear R R1 hbad hb HeW
        go_wp2_with fail
        refine HWA.out.mono ?_
        rintro e u ⟨rfl, bu⟩
        clear HWA
        go_wp2
        go_ret2
        exact ⟨.inl ⟨by rw [Hbad.out]; exact h0, by rw [Hbad.out, enE_ne h0]; rfl⟩, BW.trans (bu.mono BW.size)⟩
end Go.Proofs.YtcmndenlnjefeaaDoor
