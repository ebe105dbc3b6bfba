/-
  The contract of dayref2.Entry.
-/
import Derived.Test.YtcmndenlnjefeaaDoorFr3
import Derived.Test.YtcmndenlnjefeaaDoorFrW1
namespace Go.Proofs.YtcmndenlnjefeaaDoor
set_option linter.unusedVariables false
set_option linter.unusedSimpArgs false
set_option maxRecDepth 100000
open Go.RowKit Go.Lib

/-- An amount. -/
def isAmt (n : Int) : Bool := decide (-mostA ≤ n) && decide (n ≤ mostA)
theorem refAmt_any (n : Int) (w : World) :
    Calls Tryd.prog 11 #[.int .i64 n] w fun e w' => e = .returned (.bool (isAmt n)) ∧ w' = w := by
  unfold isAmt mostA
  by_cases h : -1000000000000000 ≤ n
  · have : (decide (-(1000000000000000 : Int) ≤ n) && decide (n ≤ 1000000000000000)) = decide (n ≤ 1000000000000000) := by simp [h]
    rw [this]
    go_enter Tryd.func11, Tryd.ntmps11
    go_wp2
    go_ret
    exact ⟨rfl, rfl⟩
  · have : (decide (-(1000000000000000 : Int) ≤ n) && decide (n ≤ 1000000000000000)) = false := by simp [h]
    rw [this]
    go_enter Tryd.func11, Tryd.ntmps11
    go_wp2
    go_ret
    exact ⟨rfl, rfl⟩
theorem isAmt_iff {n : Int} : isAmt n = true ↔ -mostA ≤ n ∧ n ≤ mostA := by simp [isAmt]

theorem lnErr_ne {err : Int} {x : Ln} (h : err ≠ 0) : lnErr err x = err := by
  have f : ∀ b, fo err b = err := fun b => if_neg h
  simp only [lnErr, f]
theorem lnsErr_ne : ∀ (l : List Ln) {err : Int}, err ≠ 0 → lnsErr err l = err
  | [], err, h => rfl
  | x :: l, err, h => by
    simp only [lnsErr, List.foldl_cons]
    rw [lnErr_ne h]
    exact lnsErr_ne l h
theorem lnsErr_at (l : List Ln) (k : Nat) (hk : k < l.length) (c : Int) (h0 : lnsErr 0 (l.take k) = 0) (hc : lnErr 0 (l.getD k ln0) = c) (hn : c ≠ 0) : lnsErr 0 l = c := by
  have e : l = l.take k ++ (l.getD k ln0 :: l.drop (k + 1)) := by rw [← lns_drop l k hk, List.take_append_drop]
  rw [e]
  unfold lnsErr at h0 ⊢
  rw [List.foldl_append, h0, List.foldl_cons, hc]
  exact lnsErr_ne _ hn

theorem own_ne {W : World} {n : Nat} {v : Value} {l : List UInt8} (h : ByRow W n v l) {c : Nat} {cs : Array Value} {t : TypeId} {f : Nat × Nat} (hc : W.heap[c]? = some (.cells cs t f)) (ht : t ≠ 5) : v.ownBlock ≠ some c := by
  rcases h.2 with ⟨rfl, _⟩ | ⟨g, cp, cur, rfl, _, hg, _⟩
  · intro e; cases e
  · intro e
    cases e
    rw [hg] at hc
    cases hc
    exact ht rfl
/-- A line in a box. -/
def LBox (W : World) (b : Nat) (x0 x1 : ByteArray) (x2 : Int) : Prop := W.heap[b]? = some (.cells #[.string x0, .string x1, .int .i64 x2] 40 (0, 0))
theorem LBox.c0 {W : World} {b : Nat} {x0 x1 : ByteArray} {x2 : Int} (h : LBox W b x0 x1 x2) : W.cell? ⟨b, 0, none⟩ = some (.string x0) := by unfold LBox at h; simp [World.cell?, h]
theorem LBox.c1 {W : World} {b : Nat} {x0 x1 : ByteArray} {x2 : Int} (h : LBox W b x0 x1 x2) : W.cell? ⟨b, 1, none⟩ = some (.string x1) := by unfold LBox at h; simp [World.cell?, h]
theorem LBox.c2 {W : World} {b : Nat} {x0 x1 : ByteArray} {x2 : Int} (h : LBox W b x0 x1 x2) : W.cell? ⟨b, 2, none⟩ = some (.int .i64 x2) := by unfold LBox at h; simp [World.cell?, h]
theorem LBox.kept {W W' : World} {b n : Nat} {x0 x1 : ByteArray} {x2 : Int} {v : Value} {l : List UInt8} (h : LBox W b x0 x1 x2) (hr : ByRow W n v l) (hk : Kept W v W') : LBox W' b x0 x1 x2 :=
  (hk.block b (Array.getElem?_eq_some_iff.1 h).1 (own_ne hr h (by decide))).trans h
theorem linesB_snoc (l : List Ln) (x : Ln) : linesB (l ++ [x]) = linesB l ++ lineB x := by simp [linesB]
theorem linesB_length {l : List Ln} (h : lnsErr 0 l = 0) : (linesB l).length ≤ 78 * l.length := by
  have hf := ((lnsErr_zero l 0).1 h).2
  rw [← lnsW_fit l hf]
  exact lnsW_length l (fun x hx => by
    have := (hf x hx).2.2
    unfold mostA at this
    exact ⟨by omega, by omega⟩)

set_option maxHeartbeats 4000000 in
theorem refEntry_any (r : ByteArray) (en pe : Int) (a : Option Addr) (cap : Nat) (l : List Ln) (w : World) (hen : I64 en) (hpe : I64 pe) (h : IsLn w a l cap) :
    Calls Tryd.prog 4 #[.agg #[.string r, .int .i64 en, .int .i64 pe, .slice a l.length cap]] w fun e w' =>
      ((entBad ⟨r, en, pe, l⟩ ≠ 0 ∧ e = .returned (.tuple #[.slice none 0 0, .int .i64 (entBad ⟨r, en, pe, l⟩)])) ∨ (entBad ⟨r, en, pe, l⟩ = 0 ∧ ∃ v, e = .returned (.tuple #[v, .int .i64 0]) ∧ ByRow w' w.heap.size v (entB ⟨r, en, pe, l⟩))) ∧ Below w.heap.size w w' := by
  obtain ⟨W0, hW0⟩ : ∃ W0, w.alloc (.cells #[.string r, .int .i64 en, .int .i64 pe, .slice a l.length cap] 24) = W0 := ⟨_, rfl⟩
  have b0 : Below w.heap.size w W0 := by rw [← hW0]; exact (Below.refl _ w).alloc (Nat.le_refl _) _
  have x0 := Box4.new w r en pe (.slice a l.length cap)
  have hs0 : W0.heap.size = w.heap.size + 1 := by rw [← hW0]; simp
  rw [hW0] at x0
  have d0 := x0.c0
  have d1 := x0.c1
  have d2 := x0.c2
  have d3 := x0.c3
  by_cases h1 : 20 < l.length
  · have h1' : (20 : Int) < l.length := by omega
    have e1 : entBad ⟨r, en, pe, l⟩ = 4 := if_pos h1
    rw [e1]
    clear e1 h
    go_enter Tryd.func4, Tryd.ntmps4
    go_wp2
    go_ret2
    first | exact ⟨.inl ⟨by decide, rfl⟩, b0⟩ | exact ⟨rfl, b0⟩
  have h1' : ¬ (20 : Int) < l.length := by omega
  have hB0 : entBad ⟨r, en, pe, l⟩ = lnsErr (headErr ⟨r, en, pe, l⟩) l := if_neg h1
  by_cases h2 : 24 < r.size
  · have h2' : (24 : Int) < r.size := by omega
    have e1 : entBad ⟨r, en, pe, l⟩ = 4 := by
      rw [hB0]
      have : headErr ⟨r, en, pe, l⟩ = 4 := by
        unfold headErr
        have : longB r = 4 := if_pos h2
        simp only [this]
        rfl
      rw [this]
      exact lnsErr_ne l (by decide)
    rw [e1]
    clear e1 h hB0
    go_enter Tryd.func4, Tryd.ntmps4
    go_wp2
    go_ret2
    first | exact ⟨.inl ⟨by decide, rfl⟩, b0⟩ | exact ⟨rfl, b0⟩
  have h2' : ¬ (24 : Int) < r.size := by omega
  have hlr : longB r = 0 := if_neg h2
  by_cases h3 : (0 ≤ en ∧ en ≤ 200) ∧ (0 ≤ pe ∧ pe ≤ 200)
  · have hh : headErr ⟨r, en, pe, l⟩ = 0 := by
      unfold headErr outB
      simp only [hlr, if_pos h3.1, if_pos h3.2]
      rfl
    rw [hh] at hB0
    obtain ⟨⟨p1, p2⟩, p3, p4⟩ := h3
    have p1' : ¬ en < 0 := by omega
    have p2' : ¬ 200 < en := by omega
    have p3' : ¬ pe < 0 := by omega
    have p4' : ¬ 200 < pe := by omega
    have HB0 : Hid (entBad ⟨r, en, pe, l⟩ = lnsErr 0 l) := hB0
    have HA : Hid (IsLn w a l cap) := h
    have Hx0 : Hid (Box4 W0 _ _ _ _ _) := x0
    have HT : Hid (Calls _ _ _ _ _) := refText_any (w.heap.size + 1) (.slice none 0 0) [] r W0 (by omega) (by simp) (by omega) (ByRow.nil _ _)
    have hr34 := @textB_length r (by omega)
    have hn1 := numB_length hen.1 hen.2
    have hn2 := numB_length hpe.1 hpe.2
    have hn3 := @numB_length l.length (by omega) (by omega)
    clear h x0 hB0 hh hlr
    go_enter Tryd.func4, Tryd.ntmps4
    go_wp2_with fail
    refine HT.out.mono ?_
    rintro e w1 ⟨v1, rfl, y1, B1⟩
    have B1 : Below (w.heap.size + 1) W0 w1 := B1.below (fun j e => by cases e) (by omega)
    have y1 : ByRow w1 (w.heap.size + 1) v1 (textB r) := y1
    have z1 := Hx0.out.below B1 (Nat.lt_succ_self _)
    have HB1 : Hid (Below (w.heap.size + 1) W0 w1) := B1
    have Hoj : Hid (∀ j, v1.ownBlock = some j → w.heap.size + 1 ≤ j) := y1.own
    have HS : Hid (Calls _ _ _ _ _) := refNum_any (w.heap.size + 1) v1 (textB r) en w1 hen.1 hen.2 (by omega) (by have := B1.size; omega) y1
    have Hz1 : Hid (Box4 w1 _ _ _ _ _) := z1
    have d1' := z1.c1
    clear d0 d1 d2 d3 hW0 HT y1 B1 z1
    go_wp2_with fail
    refine HS.out.mono ?_
    rintro e w2 ⟨v2, rfl, y2, B2, _⟩
    have B2 : Below (w.heap.size + 1) w1 w2 := B2.below Hoj.out (by have := HB1.out.size; omega)
    have Hoj : Hid (∀ j, v2.ownBlock = some j → w.heap.size + 1 ≤ j) := y2.own
    have z2 := Hz1.out.below B2 (Nat.lt_succ_self _)
    have HB2 : Hid (Below (w.heap.size + 1) W0 w2) := HB1.out.trans B2
    have HS2 : Hid (Calls _ _ _ _ _) := refNum_any (w.heap.size + 1) v2 _ pe w2 hpe.1 hpe.2 (by rw [List.length_append]; omega) (by have := HB2.out.size; omega) y2
    have Hz2 : Hid (Box4 w2 _ _ _ _ _) := z2
    have d2' := z2.c2
    clear HS d1' HB1 Hz1 y2 B2 z2
    go_wp2_with fail
    refine HS2.out.mono ?_
    rintro e w3 ⟨v3, rfl, y3, B3, _⟩
    have B3 : Below (w.heap.size + 1) w2 w3 := B3.below Hoj.out (by have := HB2.out.size; omega)
    have Hoj : Hid (∀ j, v3.ownBlock = some j → w.heap.size + 1 ≤ j) := y3.own
    have z3 := Hz2.out.below B3 (Nat.lt_succ_self _)
    have HB3 : Hid (Below (w.heap.size + 1) W0 w3) := HB2.out.trans B3
    have HS3 : Hid (Calls _ _ _ _ _) := refNum_any (w.heap.size + 1) v3 _ l.length w3 (by omega) (by omega) (by rw [List.length_append, List.length_append]; omega) (by have := HB3.out.size; omega) y3
    have Hz3 : Hid (Box4 w3 _ _ _ _ _) := z3
    have d3' := z3.c3
    clear HS2 d2' HB2 Hz2 y3 B3 z3
    go_wp2_with fail
    refine HS3.out.mono ?_
    rintro e w4 ⟨v4, rfl, y4, B4, _⟩
    have B4 : Below (w.heap.size + 1) w3 w4 := B4.below Hoj.out (by have := HB3.out.size; omega)
    have z4 := Hz3.out.below B4 (Nat.lt_succ_self _)
    have HB4 : Hid (Below (w.heap.size + 1) W0 w4) := HB3.out.trans B4
    have hh : (textB r ++ numB en ++ numB pe ++ numB l.length).length ≤ 64 := by simp only [List.length_append]; omega
    have Hz4 : Hid (Box4 w4 _ _ _ _ _) := z4
    have Hy4 : Hid (ByRow w4 (w.heap.size + 1) v4 (textB r ++ numB en ++ numB pe ++ numB l.length)) := y4
    have HeW : Hid (entB ⟨r, en, pe, l⟩ = (textB r ++ numB en ++ numB pe ++ numB l.length) ++ linesB l) := rfl
    generalize textB r ++ numB en ++ numB pe ++ numB l.length = hd at *
    clear HS3 d3' HB3 Hz3 y4 B4 z4 hr34 hn1 hn2 hn3
    go_wp2
    go_loopw [4, 5, 6, 7] (fun v i _ _ wr => ∃ k : Nat, k ≤ l.length ∧ i = .int .i64 k ∧ Hid (lnsErr 0 (l.take k) = 0) ∧ Hid (ByRow wr (w.heap.size + 1) v (hd ++ linesB (l.take k))) ∧ Below (w.heap.size + 1) W0 wr) (fun _ i _ _ _ => l.length - (intOf i).toNat)
    case atStart => exact ⟨0, Nat.zero_le _, rfl, rfl, by unfold Hid; simpa [linesB] using Hy4.out, HB4.out⟩
    case round =>
      obtain ⟨k, hk, rfl, H0, R, BW⟩ := hrel
      have zk := Hx0.out.below BW (Nat.lt_succ_self _)
      have e3 := zk.c3
      have hsz := BW.size
      have Bw : Below w.heap.size w wr := b0.trans (BW.mono (Nat.le_succ _))
      by_cases hlt : k < l.length
      · rcases HA.out.lies with h0 | ⟨gb, go, rfl, hgb, hgc⟩
        · rw [h0] at hlt; simp at hlt
        have hn := (hgc k hlt).below Bw hgb
        have hst : hd ++ linesB (l.take (k + 1)) = hd ++ linesB (l.take k) ++ lineB (l.getD k ln0) := by rw [lns_take l k hlt, linesB_snoc, List.append_assoc]
        have hse : lnsErr 0 (l.take (k + 1)) = lnErr 0 (l.getD k ln0) := by rw [lns_take l k hlt, lnsErr_snoc, H0.out]
        have hAt := lnsErr_at l k hlt
        have hbl : (hd ++ linesB (l.take k)).length ≤ 1624 := by
          have := linesB_length H0.out
          rw [List.length_take] at this
          rw [List.length_append]
          omega
        generalize l.getD k ln0 = x at *
        generalize hd ++ linesB (l.take k) = bk at *
        have Hst : Hid (_ = _) := hst
        have Hse : Hid (_ = _) := hse
        have HAt : Hid (∀ (c : Int), lnsErr 0 (l.take k) = 0 → lnErr 0 x = c → c ≠ 0 → lnsErr 0 l = c) := hAt
        clear hst hse hgc hAt
        obtain ⟨x0, x1, x2⟩ := x
        obtain ⟨c0, c1, c2⟩ := hn
        simp only at c0 c1 c2
        have j0 : (0 : Int) ≤ k := by omega
        have j1 : (k : Int) < l.length := by omega
        obtain ⟨V, hV⟩ : ∃ V, wr.alloc (.cells #[.string x0, .string x1, .int .i64 x2] 40) = V := ⟨_, rfl⟩
        have HbV : Hid (Below w.heap.size w (wr.alloc (.cells #[.string x0, .string x1, .int .i64 x2] 40))) := Bw.alloc Bw.size _
        have HV : Hid (_ = V) := hV
        by_cases q1 : 24 < x0.size ∨ 24 < x1.size
        · have ec : entBad ⟨r, en, pe, l⟩ = 4 := by
            rw [HB0.out]
            refine HAt.out 4 H0.out ?_ (by decide)
            unfold lnErr longB
            simp only
            by_cases q : 24 < x0.size
            · rw [if_pos q]; rfl
            · rcases q1 with q1 | q1
              · exact absurd q1 q
              · rw [if_neg q, if_pos q1]; rfl
          have Hec : Hid (entBad ⟨r, en, pe, l⟩ = 4) := ec
          have hq : (24 : Int) < x0.size ∨ (¬ (24 : Int) < x0.size ∧ (24 : Int) < x1.size) := by omega
          clear q1 ec R hV HV
          rcases hq with q1 | ⟨q1, q2⟩
          all_goals
            go_wp2
            go_ret2
            exact ⟨.inl ⟨by rw [Hec.out]; decide, by rw [Hec.out]; rfl⟩, HbV.out⟩
        · have q1' : ¬ (24 : Int) < x0.size := by omega
          have q2' : ¬ (24 : Int) < x1.size := by omega
          have l0 : longB x0 = 0 := if_neg (by omega)
          have l1 : longB x1 = 0 := if_neg (by omega)
          cases q3 : isAmt x2
          · have ec : entBad ⟨r, en, pe, l⟩ = 1 := by
              rw [HB0.out]
              refine HAt.out 1 H0.out ?_ (by decide)
              unfold lnErr outB
              simp only [l0, l1]
              rw [if_neg (fun hh => by have := isAmt_iff.2 hh; rw [q3] at this; cases this)]
              rfl
            have Hec : Hid (entBad ⟨r, en, pe, l⟩ = 1) := ec
            have hAm := refAmt_any x2 V
            rw [q3] at hAm
            clear q1 ec R l0 l1 hV
            have HAm : Hid (Calls _ _ _ _ _) := hAm
            clear hAm
            rw [HV.out] at HbV
            go_wp2_with fail
            rw [HV.out]
            refine HAm.out.mono ?_
            rintro e w' ⟨rfl, rfl⟩
            clear HAm
            go_wp2
            go_ret2
            exact ⟨.inl ⟨by rw [Hec.out]; decide, by rw [Hec.out]; rfl⟩, HbV.out⟩
          · have hfit := isAmt_iff.1 q3
            unfold mostA at hfit
            have hNx : lnsErr 0 (l.take (k + 1)) = 0 := by
              rw [Hse.out]
              exact lnErr_zero.2 ⟨rfl, by show x0.size ≤ 24; omega, by show x1.size ≤ 24; omega, isAmt_iff.1 q3⟩
            have HNx : Hid (lnsErr 0 (l.take (k + 1)) = 0) := hNx
            have hAm := refAmt_any x2 V
            rw [q3] at hAm
            have HAm : Hid (Calls _ _ _ _ _) := hAm
            have xL : LBox V wr.heap.size x0 x1 x2 := by rw [← hV]; exact new_heap wr _
            have hRV0 := World.ownsRow.alloc R.out (.cells #[.string x0, .string x1, .int .i64 x2] 40)
            rw [hV] at hRV0
            have hRV : ByRow V (w.heap.size + 1) u4 bk := hRV0
            have BV : Below (w.heap.size + 1) W0 V := by rw [← hV]; exact BW.alloc (by omega) _
            have hsV := BV.size
            have t1 := @textB_length x0 (by omega)
            have t2 := @textB_length x1 (by omega)
            have HT1 : Hid (Calls _ _ _ _ _) := refText_any (w.heap.size + 1) _ bk x0 V (by omega) (by omega) (by omega) hRV
            have HRV : Hid (ByRow V (w.heap.size + 1) _ bk) := hRV
            have HxL : Hid (LBox V _ _ _ _) := xL
            have HBV : Hid (Below (w.heap.size + 1) W0 V) := BV
            have a0 := xL.c0
            have a1 := xL.c1
            have a2 := xL.c2
            obtain ⟨cb, hcb⟩ : ∃ cb, wr.heap.size = cb := ⟨_, rfl⟩
            rw [hcb] at a0 a1 a2 HxL
            clear hAm q1 q3 l0 l1 hNx xL hRV hRV0 BV R zk hV
            go_wp2_with fail
            rw [HV.out]
            refine HAm.out.mono ?_
            rintro e w' ⟨rfl, rfl⟩
            clear HAm HbV
            go_wp2_with fail
            refine HT1.out.mono ?_
            rintro e u1 ⟨v1', rfl, y1, K1⟩
            have y1L := HxL.out.kept HRV.out K1
            have B1 : Below (w.heap.size + 1) W0 u1 := HBV.out.trans (K1.below HRV.out.own (by omega))
            have s1 := B1.size
            have HT2 : Hid (Calls _ _ _ _ _) := refText_any (w.heap.size + 1) v1' _ x1 u1 (by omega) (by rw [List.length_append]; omega) (by omega) y1
            have Hy1 : Hid (ByRow u1 _ v1' _) := y1
            have HL1 : Hid (LBox u1 _ _ _ _) := y1L
            have HB1 : Hid (Below (w.heap.size + 1) W0 u1) := B1
            clear a0 a1 a2 HT1 HRV HxL HBV y1 K1 B1
            have a1 := y1L.c1
            clear y1L
            go_wp2_with fail
            refine HT2.out.mono ?_
            rintro e u2 ⟨v2', rfl, y2, K2⟩
            have y2L := HL1.out.kept Hy1.out K2
            have B2 : Below (w.heap.size + 1) W0 u2 := HB1.out.trans (K2.below Hy1.out.own (by omega))
            have s2 := B2.size
            have HT3 : Hid (Calls _ _ _ _ _) := refNum_any (w.heap.size + 1) v2' _ x2 u2 (by omega) (by omega) (by rw [List.length_append, List.length_append]; omega) (by omega) y2
            have Hy2 : Hid (ByRow u2 _ v2' _) := y2
            have HB2 : Hid (Below (w.heap.size + 1) W0 u2) := B2
            clear a1 HT2 Hy1 HL1 HB1 y2 K2 B2
            have a2 := y2L.c2
            clear y2L
            go_wp2_with fail
            refine HT3.out.mono ?_
            rintro e u3 ⟨v3', rfl, y3, K3, _⟩
            have BN : Below (w.heap.size + 1) W0 u3 := HB2.out.trans (K3.below Hy2.out.own (by omega))
            have HY : Hid (ByRow u3 (w.heap.size + 1) v3' (hd ++ linesB (l.take (k + 1)))) := by
              unfold Hid
              rw [Hst.out]
              have : lineB ⟨x0, x1, x2⟩ = textB x0 ++ (textB x1 ++ numB x2) := by simp [lineB]
              rw [this, ← List.append_assoc, ← List.append_assoc]
              exact y3
            clear a2 HT3 Hy2 HB2 y3 K3
            go_wp2
            go_roundw
            case rel => exact ⟨k + 1, by omega, by go_num, HNx, HY, BN⟩
            case measure => simp [intOf]; omega
      · have hk2 : k = l.length := by omega
        have R1 := R.out
        have H1 := H0.out
        rw [hk2, List.take_length] at R1 H1
        have hE : entBad ⟨r, en, pe, l⟩ = 0 := by rw [HB0.out, H1]
        rw [← HeW.out] at R1
        obtain ⟨a4, c4, e4, _⟩ := R1.isBy
        subst e4
        have HR : Hid (ByRow wr _ _ (entB ⟨r, en, pe, l⟩)) := R1
        have HE : Hid (entBad ⟨r, en, pe, l⟩ = 0) := hE
        have hkI : ¬ ((k : Int) < l.length) := by omega
        generalize (entB ⟨r, en, pe, l⟩).length = m4 at *
        clear R R1 H0 H1 hE hk2 zk
        go_wp2
        go_ret2
        exact ⟨.inr ⟨HE.out, _, rfl, ByRow.mono (n := w.heap.size + 1) (m := w.heap.size) HR.out (by omega)⟩, Bw⟩
  · have e1 : entBad ⟨r, en, pe, l⟩ = 1 := by
      rw [hB0]
      have : headErr ⟨r, en, pe, l⟩ = 1 := by
        unfold headErr outB
        simp only [hlr]
        by_cases h4 : 0 ≤ en ∧ en ≤ 200
        · have h5 : ¬ (0 ≤ pe ∧ pe ≤ 200) := fun h => h3 ⟨h4, h⟩
          rw [if_pos h4, if_neg h5]; rfl
        · rw [if_neg h4]; rfl
      rw [this]
      exact lnsErr_ne l (by decide)
    rw [e1]
    clear e1 h hB0 hlr
    have hc : en < 0 ∨ (¬ en < 0 ∧ 200 < en) ∨ (¬ en < 0 ∧ ¬ 200 < en ∧ pe < 0) ∨ (¬ en < 0 ∧ ¬ 200 < en ∧ ¬ pe < 0 ∧ 200 < pe) := by omega
    clear h3
    rcases hc with c1 | ⟨c1, c2⟩ | ⟨c1, c2, c3⟩ | ⟨c1, c2, c3, c4⟩
    all_goals
      go_enter Tryd.func4, Tryd.ntmps4
      go_wp2
      go_ret2
      first | exact ⟨.inl ⟨by decide, rfl⟩, b0⟩ | exact ⟨rfl, b0⟩
end Go.Proofs.YtcmndenlnjefeaaDoor
