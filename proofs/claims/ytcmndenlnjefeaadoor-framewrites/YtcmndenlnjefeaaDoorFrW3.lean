/-
  The contract of dayref2.Balances.
-/
import Derived.Test.YtcmndenlnjefeaaDoorFrAh
import Derived.Test.YtcmndenlnjefeaaDoorFrW2
namespace Go.Proofs.YtcmndenlnjefeaaDoor
set_option linter.unusedVariables false
set_option linter.unusedSimpArgs false
set_option maxRecDepth 100000
open Go.RowKit Go.Lib

theorem blErr_ne {err : Int} {x : Bl} (h : err ≠ 0) : blErr err x = err := by
  have f : ∀ b, fo err b = err := fun b => if_neg h
  simp only [blErr, f]
theorem blsErr_at (l : List Bl) (k : Nat) (c : Int) (h0 : blsErr l k = 0) (hc : fo (blErr 0 (l.getD k bl0)) (ordAt l k) = c) (hn : c ≠ 0) : ∀ n, k < n → blsErr l n = c
  | 0, h => absurd h (by omega)
  | n + 1, h => by
    rw [blsErr]
    rcases (by omega : k < n ∨ k = n) with h' | rfl
    · rw [blsErr_at l k c h0 hc hn n h', blErr_ne hn]
      exact if_neg hn
    · rw [h0]; exact hc
/-- A balance in a box. -/
def BBox (W : World) (b : Nat) (x : Bl) : Prop := W.heap[b]? = some (.cells x.cells 50 (0, 0))
theorem BBox.c0 {W : World} {b : Nat} {x : Bl} (h : BBox W b x) : W.cell? ⟨b, 0, none⟩ = some (.int .i64 x.ent) := by unfold BBox at h; simp [World.cell?, h, Bl.cells]
theorem BBox.c1 {W : World} {b : Nat} {x : Bl} (h : BBox W b x) : W.cell? ⟨b, 1, none⟩ = some (.string x.acc) := by unfold BBox at h; simp [World.cell?, h, Bl.cells]
theorem BBox.c2 {W : World} {b : Nat} {x : Bl} (h : BBox W b x) : W.cell? ⟨b, 2, none⟩ = some (.string x.cur) := by unfold BBox at h; simp [World.cell?, h, Bl.cells]
theorem BBox.c3 {W : World} {b : Nat} {x : Bl} (h : BBox W b x) : W.cell? ⟨b, 3, none⟩ = some (.int .i64 x.amt) := by unfold BBox at h; simp [World.cell?, h, Bl.cells]
theorem BBox.kept {W W' : World} {b n : Nat} {x : Bl} {v : Value} {l : List UInt8} (h : BBox W b x) (hr : ByRow W n v l) (hk : Kept W v W') : BBox W' b x :=
  (hk.block b (Array.getElem?_eq_some_iff.1 h).1 (own_ne hr h (by decide))).trans h
theorem BBox.below {W W' : World} {b n : Nat} {x : Bl} (h : BBox W b x) (hb : Below n W W') (hn : b < n) : BBox W' b x := (hb.block b hn).trans h
theorem blsB_snoc (l : List Bl) (x : Bl) : blsB (l ++ [x]) = blsB l ++ blB x := by simp [blsB]
theorem blsB_length (l : List Bl) : ∀ k, k ≤ l.length → blsErr l k = 0 → (blsB (l.take k)).length ≤ 88 * k
  | 0, _, _ => by simp [blsB]
  | k + 1, h, h0 => by
    have hz := (blsErr_zero l (k + 1)).1 h0
    have ih := blsB_length l k (by omega) ((blsErr_zero l k).2 (fun j hj => hz j (by omega)))
    have hf := (hz k (by omega)).1
    rw [bls_take l k (by omega), blsB_snoc, List.length_append]
    have hb : (blB (l.getD k bl0)).length ≤ 88 := by
      obtain ⟨⟨q1, q2⟩, q3, q4, q5, q6⟩ := hf
      unfold mostA at q5 q6
      have j0 := @numB_length (l.getD k bl0).ent (by omega) (by omega)
      have j1 := textB_length q3
      have j2 := textB_length q4
      have j3 := @numB_length (l.getD k bl0).amt (by omega) (by omega)
      simp only [blB, List.length_append]
      omega
    omega

set_option maxHeartbeats 4000000 in
theorem refBals_any (a : Option Addr) (cap : Nat) (l : List Bl) (w : World) (hlen : l.length ≤ maxLen) (h : IsBl w a l cap) :
    Calls Tryd.prog 7 #[.slice a l.length cap] w fun e w' =>
      ((balBad l ≠ 0 ∧ e = .returned (.tuple #[.slice none 0 0, .int .i64 (balBad l)])) ∨ (balBad l = 0 ∧ ∃ v, e = .returned (.tuple #[v, .int .i64 0]) ∧ ByRow w' w.heap.size v (balB l))) ∧ Below w.heap.size w w' := by
  have hlen' : (l.length : Int) ≤ 9223372036854775807 := by unfold maxLen at hlen; omega
  by_cases h1 : 200 < l.length
  · have h1' : (200 : Int) < l.length := by omega
    have e1 : balBad l = 4 := if_pos h1
    rw [e1]
    clear e1 h
    go_enter Tryd.func7, Tryd.ntmps7
    go_wp2
    go_ret2
    first | exact ⟨.inl ⟨by decide, rfl⟩, Below.refl _ _⟩ | exact ⟨rfl, Below.refl _ _⟩
  have h1' : ¬ (200 : Int) < l.length := by omega
  have HA : Hid (IsBl w a l cap) := h
  have hn3 := @numB_length l.length (by omega) (by omega)
  have HN : Hid (Calls _ _ _ _ _) := refNum_any w.heap.size (.slice none 0 0) [] l.length w (by omega) (by omega) (by simp) (Nat.le_refl _) (ByRow.nil _ _)
  have Hbad : Hid (balBad l = blsErr l l.length) := if_neg h1
  have HeW : Hid (balB l = numB l.length ++ blsB l) := rfl
  clear h
  go_enter Tryd.func7, Tryd.ntmps7
  go_wp2_with fail
  refine HN.out.mono ?_
  rintro e w1 ⟨v1, rfl, y1, K1, _⟩
  have B1 : Below w.heap.size w w1 := K1.below (fun j e => by cases e) (Nat.le_refl _)
  have Hy1 : Hid (ByRow w1 w.heap.size v1 (numB l.length)) := y1
  have HB1 : Hid (Below w.heap.size w w1) := B1
  generalize numB l.length = hd at *
  clear HN y1 B1 K1
  go_wp2
  go_loopw [4, 5, 6, 7] (fun v i _ _ wr => ∃ k : Nat, k ≤ l.length ∧ i = .int .i64 k ∧ Hid (blsErr l k = 0) ∧ Hid (ByRow wr w.heap.size v (hd ++ blsB (l.take k))) ∧ Below w.heap.size w wr) (fun _ i _ _ _ => l.length - (intOf i).toNat)
  case atStart => exact ⟨0, Nat.zero_le _, rfl, rfl, by unfold Hid; simpa [blsB] using Hy1.out, HB1.out⟩
  case round =>
    obtain ⟨k, hk, rfl, H0, R, BW⟩ := hrel
    have hsz := BW.size
    by_cases hlt : k < l.length
    · rcases HA.out.lies with h0 | ⟨gb, go, rfl, hgb, hgc⟩
      · rw [h0] at hlt; simp at hlt
      have hn := (hgc k hlt).below BW hgb
      have hst : hd ++ blsB (l.take (k + 1)) = hd ++ blsB (l.take k) ++ blB (l.getD k bl0) := by rw [bls_take l k hlt, blsB_snoc, List.append_assoc]
      have HAt : Hid (∀ c, fo (blErr 0 (l.getD k bl0)) (ordAt l k) = c → c ≠ 0 → balBad l = c) := fun c hc hn => by rw [Hbad.out]; exact blsErr_at l k c H0.out hc hn l.length hlt
      have HNx : Hid (blErr 0 (l.getD k bl0) = 0 → ordAt l k = 0 → blsErr l (k + 1) = 0) := fun q1 q2 => by rw [blsErr, H0.out, q1, q2]; rfl
      have hbl : (hd ++ blsB (l.take k)).length ≤ 17610 := by
        have := blsB_length l k hk H0.out
        rw [List.length_append]
        omega
      have hprev : ∀ m, k = m + 1 → BlAt wr gb (go + m * 4) (l.getD m bl0) ∧ (ordAt l k = if cmpB (l.getD m bl0) (l.getD k bl0) < 0 then 0 else 5) := fun m hm => by
        subst hm
        refine ⟨(hgc m (by omega)).below BW hgb, ?_⟩
        unfold ordAt
        simp only [Nat.add_sub_cancel]
        by_cases hh : cmpB (l.getD m bl0) (l.getD (m + 1) bl0) < 0
        · rw [if_pos (.inr hh), if_pos hh]
        · rw [if_neg (by rintro (h' | h'); omega; exact hh h'), if_neg hh]
      have hzero : k = 0 → ordAt l k = 0 := fun hh => by subst hh; simp [ordAt]
      generalize l.getD k bl0 = x at *
      generalize hd ++ blsB (l.take k) = bk at *
      have Hst : Hid (_ = bk ++ blB x) := hst
      have Hprev : Hid (∀ m, k = m + 1 → BlAt wr gb (go + m * 4) (l.getD m bl0) ∧ (ordAt l k = if cmpB (l.getD m bl0) x < 0 then 0 else 5)) := hprev
      have Hzero : Hid (k = 0 → ordAt l k = 0) := hzero
      clear hst hgc hprev hzero
      generalize ordAt l k = ok at *
      obtain ⟨x0, x1, x2, x3⟩ := x
      obtain ⟨c0, c1, c2, c3⟩ := hn
      simp only at c0 c1 c2 c3
      have j0 : (0 : Int) ≤ k := by omega
      have j1 : (k : Int) < l.length := by omega
      obtain ⟨V, hV⟩ : ∃ V, wr.alloc (.cells #[.int .i64 x0, .string x1, .string x2, .int .i64 x3] 50) = V := ⟨_, rfl⟩
      have HbV : Hid (Below w.heap.size w (wr.alloc (.cells #[.int .i64 x0, .string x1, .string x2, .int .i64 x3] 50))) := BW.alloc BW.size _
      have HV : Hid (_ = V) := hV
      by_cases q0 : 0 ≤ x0 ∧ x0 ≤ 200
      · have o0 : outB 0 200 x0 = 0 := if_pos q0
        obtain ⟨g1, g2⟩ := q0
        have g1' : ¬ x0 < 0 := by omega
        have g2' : ¬ 200 < x0 := by omega
        by_cases q1 : 24 < x1.size ∨ 24 < x2.size
        · have ec : balBad l = 4 := by
            refine HAt.out 4 ?_ (by decide)
            unfold blErr longB
            simp only [o0]
            by_cases q : 24 < x1.size
            · rw [if_pos q]; rfl
            · rcases q1 with q1 | q1
              · exact absurd q1 q
              · rw [if_neg q, if_pos q1]; rfl
          have Hec : Hid (balBad l = 4) := ec
          have hq : (24 : Int) < x1.size ∨ (¬ (24 : Int) < x1.size ∧ (24 : Int) < x2.size) := by omega
          clear q1 ec R hV HV o0
          rcases hq with q1 | ⟨q1, q2⟩
          all_goals
            go_wp2
            go_ret2
            exact ⟨.inl ⟨by rw [Hec.out]; decide, by rw [Hec.out]; rfl⟩, HbV.out⟩
        · have q1' : ¬ (24 : Int) < x1.size := by omega
          have q2' : ¬ (24 : Int) < x2.size := by omega
          have l0 : longB x1 = 0 := if_neg (by omega)
          have l1 : longB x2 = 0 := if_neg (by omega)
          cases q3 : isAmt x3
          · have ec : balBad l = 1 := by
              refine HAt.out 1 ?_ (by decide)
              unfold blErr
              simp only [o0, l0, l1]
              have : outB (-mostA) mostA x3 = 1 := if_neg (fun hh => by have := isAmt_iff.2 hh; rw [q3] at this; cases this)
              rw [this]
              rfl
            have Hec : Hid (balBad l = 1) := ec
            have hAm := refAmt_any x3 V
            rw [q3] at hAm
            have HAm : Hid (Calls _ _ _ _ _) := hAm
            clear q1 ec R l0 l1 o0 hV hAm
            rw [HV.out] at HbV
            go_wp2_with fail
            rw [HV.out]
            refine HAm.out.mono ?_
            rintro e w' ⟨rfl, rfl⟩
            clear HAm
            go_wp2
            go_ret2
            exact ⟨.inl ⟨by rw [Hec.out]; decide, by rw [Hec.out]; rfl⟩, HbV.out⟩
          · have hfit := isAmt_iff.1 q3
            have o3 : outB (-mostA) mostA x3 = 0 := if_pos hfit
            have hbe : blErr 0 ⟨x0, x1, x2, x3⟩ = 0 := by
              unfold blErr
              simp only [o0, l0, l1, o3]
              rfl
            unfold mostA at hfit
            have hAm := refAmt_any x3 V
            rw [q3] at hAm
            have HAm : Hid (Calls _ _ _ _ _) := hAm
            have xL : BBox V wr.heap.size ⟨x0, x1, x2, x3⟩ := by rw [← hV]; exact new_heap wr _
            have hRV0 := World.ownsRow.alloc R.out (.cells #[.int .i64 x0, .string x1, .string x2, .int .i64 x3] 50)
            rw [hV] at hRV0 HbV
            have HRV : Hid (ByRow V w.heap.size u4 bk) := hRV0
            have t1 := @textB_length x1 (by omega)
            have t2 := @textB_length x2 (by omega)
            have t0 := @numB_length x0 (by omega) (by omega)
            obtain ⟨cb, hcb⟩ : ∃ cb, wr.heap.size = cb := ⟨_, rfl⟩
            rw [hcb] at xL
            have HxL : Hid (BBox V cb ⟨x0, x1, x2, x3⟩) := xL
            have a0 := xL.c0
            have a1 := xL.c1
            have a2 := xL.c2
            have a3 := xL.c3
            simp only at a0 a1 a2 a3
            have hVw : wr.heap.size ≤ V.heap.size := by rw [← hV]; simp
            have HwV : Hid (Below wr.heap.size wr V) := by unfold Hid; rw [← hV]; exact (Below.refl _ _).alloc (Nat.le_refl _) _
            have hgw : gb < wr.heap.size := by omega
            clear hAm q1 q3 l0 l1 o0 o3 xL hRV0 R hV
            go_wp2_with fail
            rw [HV.out]
            refine HAm.out.mono ?_
            rintro e w' ⟨rfl, hw'⟩
            rw [hw']
            clear hw' w'
            clear HAm HV
            rcases k with _ | m
            · have hok := Hzero.out rfl
              have HNxt : Hid (blsErr l (0 + 1) = 0) := HNx.out hbe hok
              clear hok hbe Hprev Hzero HAt HwV
              go_wp2_with fail
              go_quiet (fail)
              rename Nat => nq
              have HBU : Hid (Below w.heap.size w (V.drewN nq)) := en_drewN HbV.out nq
              have HRU : Hid (ByRow (V.drewN nq) w.heap.size u4 bk) := HRV.out.below (en_drewN (Below.refl _ _) nq)
              have HxU : Hid (BBox (V.drewN nq) cb ⟨x0, x1, x2, x3⟩) := HxL.out.below (en_drewN (Below.refl V.heap.size V) nq) (Array.getElem?_eq_some_iff.1 HxL.out).1
              obtain ⟨U, hU⟩ : ∃ U, U = V.drewN nq := ⟨_, rfl⟩
              rw [← hU] at HBU HRU HxU ⊢
              clear hU a0 a1 a2 a3 HbV HRV HxL
              have hT0 := refNum_any w.heap.size u4 bk x0 U (by omega) (by omega) (by omega) (by have := HBU.out.size; omega) HRU.out
              have HT0 : Hid (Calls _ _ _ _ _) := hT0
              have a0 := HxU.out.c0
              simp only at a0
              clear hT0
              go_wp2_with fail
              refine HT0.out.mono ?_
              rintro e u1 ⟨v1', rfl, y1, K1, _⟩
              have Hx1 : Hid (BBox u1 cb _) := HxU.out.kept HRU.out K1
              have HB1' : Hid (Below w.heap.size w u1) := HBU.out.trans (K1.below HRU.out.own HBU.out.size)
              have HT1 : Hid (Calls _ _ _ _ _) := refText_any w.heap.size v1' _ x1 u1 (by omega) (by rw [List.length_append]; omega) HB1'.out.size y1
              have Hy1' : Hid (ByRow u1 w.heap.size v1' _) := y1
              clear a0 HT0 HxU HRU HBU y1 K1
              have a1 := Hx1.out.c1
              simp only at a1
              go_wp2_with fail
              refine HT1.out.mono ?_
              rintro e u2 ⟨v2', rfl, y2, K2⟩
              have Hx2 : Hid (BBox u2 cb _) := Hx1.out.kept Hy1'.out K2
              have HB2' : Hid (Below w.heap.size w u2) := HB1'.out.trans (K2.below Hy1'.out.own HB1'.out.size)
              have HT2 : Hid (Calls _ _ _ _ _) := refText_any w.heap.size v2' _ x2 u2 (by omega) (by rw [List.length_append, List.length_append]; omega) HB2'.out.size y2
              have Hy2' : Hid (ByRow u2 w.heap.size v2' _) := y2
              clear a1 HT1 Hx1 Hy1' HB1' y2 K2
              have a2 := Hx2.out.c2
              simp only at a2
              go_wp2_with fail
              refine HT2.out.mono ?_
              rintro e u3 ⟨v3', rfl, y3, K3⟩
              have Hx3 : Hid (BBox u3 cb _) := Hx2.out.kept Hy2'.out K3
              have HB3' : Hid (Below w.heap.size w u3) := HB2'.out.trans (K3.below Hy2'.out.own HB2'.out.size)
              have HT3 : Hid (Calls _ _ _ _ _) := refNum_any w.heap.size v3' _ x3 u3 (by omega) (by omega) (by rw [List.length_append, List.length_append, List.length_append]; omega) HB3'.out.size y3
              have Hy3' : Hid (ByRow u3 w.heap.size v3' _) := y3
              clear a2 HT2 Hx2 Hy2' HB2' y3 K3
              have a3 := Hx3.out.c3
              simp only at a3
              go_wp2_with fail
              refine HT3.out.mono ?_
              rintro e u5 ⟨v5', rfl, y5, K5, _⟩
              have BN : Below w.heap.size w u5 := HB3'.out.trans (K5.below Hy3'.out.own HB3'.out.size)
              have HY : Hid (ByRow u5 w.heap.size v5' (hd ++ blsB (l.take (0 + 1)))) := by
                unfold Hid
                rw [Hst.out]
                have : blB ⟨x0, x1, x2, x3⟩ = numB x0 ++ (textB x1 ++ (textB x2 ++ numB x3)) := by simp [blB]
                rw [this, ← List.append_assoc, ← List.append_assoc, ← List.append_assoc]
                exact y5
              clear a3 HT3 Hx3 Hy3' HB3' y5 K5
              go_wp2
              go_roundw
              case rel => exact ⟨0 + 1, by omega, by go_num, HNxt, HY, BN⟩
              case measure => simp [intOf]; omega
            · obtain ⟨hP, hok⟩ := Hprev.out m rfl
              have hP := hP.below HwV.out hgw
              have hAh := fun W => ahead_any (l.getD m bl0) ⟨x0, x1, x2, x3⟩ W
              generalize l.getD m bl0 = p at *
              obtain ⟨p0, p1, p2, p3⟩ := p
              obtain ⟨f0, f1, f2, f3⟩ := hP
              simp only [Bl.cells] at f0 f1 f2 f3 hAh
              have hgV : gb < V.heap.size := by omega
              have hcV : cb < V.heap.size := (Array.getElem?_eq_some_iff.1 HxL.out).1
              have HK : Hid (∀ Y, Below V.drew.heap.size V.drew Y → (Y.cell? ⟨gb, go + m * 4, none⟩ = some (.int .i64 p0) ∧ Y.cell? ⟨gb, go + m * 4 + 1, none⟩ = some (.string p1) ∧ Y.cell? ⟨gb, go + m * 4 + 2, none⟩ = some (.string p2) ∧ Y.cell? ⟨gb, go + m * 4 + 3, none⟩ = some (.int .i64 p3)) ∧ Y.cell? ⟨cb, 0, none⟩ = some (.int .i64 x0) ∧ Y.cell? ⟨cb, 1, none⟩ = some (.string x1) ∧ Y.cell? ⟨cb, 2, none⟩ = some (.string x2) ∧ Y.cell? ⟨cb, 3, none⟩ = some (.int .i64 x3)) := fun Y hY =>
                ⟨⟨(hY.cell (p := ⟨gb, go + m * 4, none⟩) hgV).trans f0, (hY.cell (p := ⟨gb, go + m * 4 + 1, none⟩) hgV).trans f1, (hY.cell (p := ⟨gb, go + m * 4 + 2, none⟩) hgV).trans f2, (hY.cell (p := ⟨gb, go + m * 4 + 3, none⟩) hgV).trans f3⟩, (hY.cell (p := ⟨cb, 0, none⟩) hcV).trans a0, (hY.cell (p := ⟨cb, 1, none⟩) hcV).trans a1, (hY.cell (p := ⟨cb, 2, none⟩) hcV).trans a2, (hY.cell (p := ⟨cb, 3, none⟩) hcV).trans a3⟩
              have i0 : (0 : Int) ≤ m := by omega
              have i1 : (m : Int) + 1 < l.length := by omega
              have i2 : (m : Int) < l.length := by omega
              have i3 : (l.length : Int) ≤ 200 := by omega
              have i4 : (0 : Int) < (m : Int) + 1 := by omega
              have i6 : (m : Int) + 1 - 1 = m := by omega
              have iw1 : IntKind.i64.wrap (m : Int) = m := by
                simp only [IntKind.wrap, IntKind.bits, IntKind.signed]
                simp
                omega
              have iw2 : IntKind.i64.wrap ((m : Int) + 1 - 1) = m := by rw [i6, iw1]
              have HdV : Below V.heap.size V V.drew := (Below.refl _ V).drew
              have HBd : Hid (Below w.heap.size w V.drew) := HbV.out.trans (HdV.mono HbV.out.size)
              have HRd : Hid (ByRow V.drew w.heap.size u4 bk) := HRV.out.below HdV
              have Hxd : Hid (BBox V.drew cb ⟨x0, x1, x2, x3⟩) := HxL.out.below HdV hcV
              clear HbV HRV HxL Hprev Hzero HwV HdV
              by_cases hc : cmpB ⟨p0, p1, p2, p3⟩ ⟨x0, x1, x2, x3⟩ < 0
              · rw [if_pos hc] at hok
                have HNxt : Hid (blsErr l (m + 1 + 1) = 0) := HNx.out hbe hok
                rw [decide_eq_true hc] at hAh
                have HAh : Hid (∀ W, Calls _ _ _ W _) := hAh
                clear hAh hc hok hbe HAt
                push_cast
                go_wp2_with fail
                go_region_held3 (fun u => (u.cell? ⟨gb, go + m * 4, none⟩ = some (.int .i64 p0) ∧ u.cell? ⟨gb, go + m * 4 + 1, none⟩ = some (.string p1) ∧ u.cell? ⟨gb, go + m * 4 + 2, none⟩ = some (.string p2) ∧ u.cell? ⟨gb, go + m * 4 + 3, none⟩ = some (.int .i64 p3)) ∧ u.cell? ⟨cb, 0, none⟩ = some (.int .i64 x0) ∧ u.cell? ⟨cb, 1, none⟩ = some (.string x1) ∧ u.cell? ⟨cb, 2, none⟩ = some (.string x2) ∧ u.cell? ⟨cb, 3, none⟩ = some (.int .i64 x3)) (go_keep) (first | (go_at_call 18; refine (HAh.out _).mono ?_; rintro e u0 ⟨rfl, bu0⟩; obtain ⟨⟨s0, s1, s2, s3⟩, s4, s5, s6, s7⟩ := HK.out _ bu0))
                have HBU : Hid (Below w.heap.size w u0) := HBd.out.trans (bu0.mono HBd.out.size)
                have HRU : Hid (ByRow u0 w.heap.size u4 bk) := HRd.out.below bu0
                have HxU : Hid (BBox u0 cb ⟨x0, x1, x2, x3⟩) := Hxd.out.below bu0 hcV
                clear bu0 s0 s1 s2 s3 s4 s5 s6 s7 HAh HK HBd HRd Hxd a0 a1 a2 a3 f0 f1 f2 f3
                obtain ⟨U, hU⟩ : ∃ U, U = u0 := ⟨_, rfl⟩
                subst hU
                have hT0 := refNum_any w.heap.size u4 bk x0 U (by omega) (by omega) (by omega) (by have := HBU.out.size; omega) HRU.out
                have HT0 : Hid (Calls _ _ _ _ _) := hT0
                have a0 := HxU.out.c0
                simp only at a0
                clear hT0
                go_wp2_with fail
                refine HT0.out.mono ?_
                rintro e u1 ⟨v1', rfl, y1, K1, _⟩
                have Hx1 : Hid (BBox u1 cb _) := HxU.out.kept HRU.out K1
                have HB1' : Hid (Below w.heap.size w u1) := HBU.out.trans (K1.below HRU.out.own HBU.out.size)
                have HT1 : Hid (Calls _ _ _ _ _) := refText_any w.heap.size v1' _ x1 u1 (by omega) (by rw [List.length_append]; omega) HB1'.out.size y1
                have Hy1' : Hid (ByRow u1 w.heap.size v1' _) := y1
                clear a0 HT0 HxU HRU HBU y1 K1
                have a1 := Hx1.out.c1
                simp only at a1
                go_wp2_with fail
                refine HT1.out.mono ?_
                rintro e u2 ⟨v2', rfl, y2, K2⟩
                have Hx2 : Hid (BBox u2 cb _) := Hx1.out.kept Hy1'.out K2
                have HB2' : Hid (Below w.heap.size w u2) := HB1'.out.trans (K2.below Hy1'.out.own HB1'.out.size)
                have HT2 : Hid (Calls _ _ _ _ _) := refText_any w.heap.size v2' _ x2 u2 (by omega) (by rw [List.length_append, List.length_append]; omega) HB2'.out.size y2
                have Hy2' : Hid (ByRow u2 w.heap.size v2' _) := y2
                clear a1 HT1 Hx1 Hy1' HB1' y2 K2
                have a2 := Hx2.out.c2
                simp only at a2
                go_wp2_with fail
                refine HT2.out.mono ?_
                rintro e u3 ⟨v3', rfl, y3, K3⟩
                have Hx3 : Hid (BBox u3 cb _) := Hx2.out.kept Hy2'.out K3
                have HB3' : Hid (Below w.heap.size w u3) := HB2'.out.trans (K3.below Hy2'.out.own HB2'.out.size)
                have HT3 : Hid (Calls _ _ _ _ _) := refNum_any w.heap.size v3' _ x3 u3 (by omega) (by omega) (by rw [List.length_append, List.length_append, List.length_append]; omega) HB3'.out.size y3
                have Hy3' : Hid (ByRow u3 w.heap.size v3' _) := y3
                clear a2 HT2 Hx2 Hy2' HB2' y3 K3
                have a3 := Hx3.out.c3
                simp only at a3
                go_wp2_with fail
                refine HT3.out.mono ?_
                rintro e u5 ⟨v5', rfl, y5, K5, _⟩
                have BN : Below w.heap.size w u5 := HB3'.out.trans (K5.below Hy3'.out.own HB3'.out.size)
                have HY : Hid (ByRow u5 w.heap.size v5' (hd ++ blsB (l.take (m + 1 + 1)))) := by
                  unfold Hid
                  rw [Hst.out]
                  have : blB ⟨x0, x1, x2, x3⟩ = numB x0 ++ (textB x1 ++ (textB x2 ++ numB x3)) := by simp [blB]
                  rw [this, ← List.append_assoc, ← List.append_assoc, ← List.append_assoc]
                  exact y5
                clear a3 HT3 Hx3 Hy3' HB3' y5 K5
                go_wp2
                go_roundw
                case rel => exact ⟨m + 1 + 1, by omega, by go_num, HNxt, HY, BN⟩
                case measure => simp [intOf]; omega
              · rw [if_neg hc] at hok
                have ec : balBad l = 5 := HAt.out 5 (by rw [hbe, hok]; rfl) (by decide)
                have Hec : Hid (balBad l = 5) := ec
                rw [decide_eq_false hc] at hAh
                have HAh : Hid (∀ W, Calls _ _ _ W _) := hAh
                clear hAh hc hok hbe HAt ec HRd Hxd
                push_cast
                go_wp2_with fail
                go_region_held3 (fun u => (u.cell? ⟨gb, go + m * 4, none⟩ = some (.int .i64 p0) ∧ u.cell? ⟨gb, go + m * 4 + 1, none⟩ = some (.string p1) ∧ u.cell? ⟨gb, go + m * 4 + 2, none⟩ = some (.string p2) ∧ u.cell? ⟨gb, go + m * 4 + 3, none⟩ = some (.int .i64 p3)) ∧ u.cell? ⟨cb, 0, none⟩ = some (.int .i64 x0) ∧ u.cell? ⟨cb, 1, none⟩ = some (.string x1) ∧ u.cell? ⟨cb, 2, none⟩ = some (.string x2) ∧ u.cell? ⟨cb, 3, none⟩ = some (.int .i64 x3)) (go_keep) (first | (go_at_call 18; refine (HAh.out _).mono ?_; rintro e u0 ⟨rfl, bu0⟩; obtain ⟨⟨s0, s1, s2, s3⟩, s4, s5, s6, s7⟩ := HK.out _ bu0))
                have HBU : Hid (Below w.heap.size w u0) := HBd.out.trans (bu0.mono HBd.out.size)
                clear bu0 s0 s1 s2 s3 s4 s5 s6 s7 HAh HK HBd a0 a1 a2 a3 f0 f1 f2 f3
                go_wp2
                go_ret2
                exact ⟨.inl ⟨by rw [Hec.out]; decide, by rw [Hec.out]; rfl⟩, HBU.out⟩
      · have o0 : outB 0 200 x0 = 1 := if_neg q0
        have ec : balBad l = 1 := by
          refine HAt.out 1 ?_ (by decide)
          unfold blErr
          simp only [o0]
          rfl
        have Hec : Hid (balBad l = 1) := ec
        have hq : x0 < 0 ∨ (¬ x0 < 0 ∧ 200 < x0) := by omega
        clear q0 o0 ec R hV HV
        rcases hq with q1 | ⟨q1, q2⟩
        all_goals
          go_wp2
          go_ret2
          exact ⟨.inl ⟨by rw [Hec.out]; decide, by rw [Hec.out]; rfl⟩, HbV.out⟩
    · have hk2 : k = l.length := by omega
      have R1 := R.out
      have H1 := H0.out
      rw [hk2] at R1 H1
      rw [List.take_length] at R1
      have hE : balBad l = 0 := by rw [Hbad.out, H1]
      rw [← HeW.out] at R1
      obtain ⟨a4, c4, e4, _⟩ := R1.isBy
      subst e4
      have HR : Hid (ByRow wr _ _ (balB l)) := R1
      have HE : Hid (balBad l = 0) := hE
      have hkI : ¬ ((k : Int) < l.length) := by omega
      generalize (balB l).length = m4 at *
      clear R R1 H0 H1 hE hk2
      go_wp2
      go_ret2
      exact ⟨.inr ⟨HE.out, _, rfl, HR.out⟩, BW⟩
end Go.Proofs.YtcmndenlnjefeaaDoor
