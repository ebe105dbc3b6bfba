/-
  The contract of frame.Entry.
-/
import Derived.Test.YtcmndenlnjefeaaDoorFr2
namespace Go.Proofs.YtcmndenlnjefeaaDoor
set_option linter.unusedVariables false
set_option linter.unusedSimpArgs false
set_option maxRecDepth 100000
open Go.RowKit Go.Lib

def lnW (x : Ln) : List UInt8 := txtW x.acc ++ txtW x.cur ++ numB x.amt
def lnErr (err : Int) (x : Ln) : Int := fo (fo (fo err (longB x.acc)) (longB x.cur)) (outB (-mostA) mostA x.amt)
def lnsW (l : List Ln) : List UInt8 := l.flatMap lnW
def lnsErr (err : Int) (l : List Ln) : Int := l.foldl lnErr err
/-- A number of 64 bits. -/
def I64 (n : Int) : Prop := -9223372036854775808 ≤ n ∧ n ≤ 9223372036854775807
theorem lnW_length {x : Ln} (h : I64 x.amt) : (lnW x).length ≤ 78 := by
  have h1 := txtW_length x.acc
  have h2 := txtW_length x.cur
  have h3 := numB_length h.1 h.2
  simp only [lnW, List.length_append]
  omega
theorem lnsW_length : ∀ (l : List Ln), (∀ x ∈ l, I64 x.amt) → (lnsW l).length ≤ 78 * l.length
  | [], _ => by simp [lnsW]
  | x :: l, h => by
    have h1 := lnW_length (h x (List.mem_cons_self ..))
    have h2 := lnsW_length l (fun y hy => h y (List.mem_cons_of_mem _ hy))
    simp only [lnsW, List.flatMap_cons, List.length_append, List.length_cons] at h2 ⊢
    omega
theorem lnsW_snoc (l : List Ln) (x : Ln) : lnsW (l ++ [x]) = lnsW l ++ lnW x := by simp [lnsW]
theorem lnsErr_snoc (err : Int) (l : List Ln) (x : Ln) : lnsErr err (l ++ [x]) = lnErr (lnsErr err l) x := by simp [lnsErr]
/-- What is wrong with an entry that is to be written. -/
def headErr (e : En) : Int := fo (fo (longB e.ref) (outB 0 200 e.ent)) (outB 0 200 e.per)
def headW (e : En) : List UInt8 := txtW e.ref ++ numB e.ent ++ numB e.per ++ numB e.lns.length
def entBad (e : En) : Int := if 20 < e.lns.length then 4 else lnsErr (headErr e) e.lns
theorem lnErr_zero {err : Int} {x : Ln} : lnErr err x = 0 ↔ err = 0 ∧ LnFit x := by
  unfold lnErr LnFit
  rw [fo_eq_zero, fo_eq_zero, fo_eq_zero]
  unfold longB outB
  constructor
  · rintro ⟨⟨⟨h1, h2⟩, h3⟩, h4⟩
    refine ⟨h1, ?_, ?_, ?_⟩
    · split at h2 <;> omega
    · split at h3 <;> omega
    · split at h4
      · assumption
      · omega
  · rintro ⟨h1, h2, h3, h4⟩
    exact ⟨⟨⟨h1, if_neg (by omega)⟩, if_neg (by omega)⟩, if_pos h4⟩
theorem lnsErr_zero : ∀ (l : List Ln) (err : Int), lnsErr err l = 0 ↔ err = 0 ∧ ∀ x ∈ l, LnFit x
  | [], err => by simp [lnsErr]
  | x :: l, err => by
    have := lnsErr_zero l (lnErr err x)
    simp only [lnsErr, List.foldl_cons] at this ⊢
    rw [this, lnErr_zero]
    simp [and_assoc]
theorem entBad_zero {e : En} : entBad e = 0 ↔ EnFit e := by
  unfold entBad EnFit
  by_cases h : 20 < e.lns.length
  · rw [if_pos h]
    constructor
    · omega
    · intro ⟨_, _, _, h4, _⟩; omega
  · rw [if_neg h, lnsErr_zero]
    unfold headErr
    rw [fo_eq_zero, fo_eq_zero]
    unfold longB outB
    constructor
    · rintro ⟨⟨⟨h1, h2⟩, h3⟩, h4⟩
      refine ⟨?_, ?_, ?_, by omega, h4⟩
      · split at h1 <;> omega
      · split at h2
        · assumption
        · omega
      · split at h3
        · assumption
        · omega
    · rintro ⟨h1, h2, h3, _, h4⟩
      exact ⟨⟨⟨if_neg (by omega), if_pos h2⟩, if_pos h3⟩, h4⟩
theorem txtW_fit {s : ByteArray} (h : s.size ≤ 24) : txtW s = textB s := if_neg (by omega)
theorem lnsW_fit : ∀ (l : List Ln), (∀ x ∈ l, LnFit x) → lnsW l = linesB l
  | [], _ => rfl
  | x :: l, h => by
    have h1 := h x (List.mem_cons_self ..)
    have h2 := lnsW_fit l (fun y hy => h y (List.mem_cons_of_mem _ hy))
    simp only [lnsW, linesB, List.flatMap_cons] at h2 ⊢
    rw [h2]
    simp only [lnW, lineB, txtW_fit h1.1, txtW_fit h1.2.1]
theorem entW_fit {e : En} (h : EnFit e) : headW e ++ lnsW e.lns = entB e := by
  obtain ⟨h1, h2, h3, h4, h5⟩ := h
  rw [lnsW_fit _ h5]
  simp only [headW, entB, txtW_fit h1]

set_option maxHeartbeats 4000000 in
theorem fEntry_any (r : ByteArray) (en pe : Int) (a : Option Addr) (cap : Nat) (l : List Ln) (w : World) (hen : I64 en) (hpe : I64 pe) (hwf : ∀ x ∈ l, I64 x.amt) (h : IsLn w a l cap) :
    Calls Tryd.prog 5 #[.agg #[.string r, .int .i64 en, .int .i64 pe, .slice a l.length cap]] w fun e w' =>
      ((entBad ⟨r, en, pe, l⟩ ≠ 0 ∧ e = .returned (.tuple #[.slice none 0 0, enE (entBad ⟨r, en, pe, l⟩)])) ∨ (entBad ⟨r, en, pe, l⟩ = 0 ∧ ∃ v, e = .returned (.tuple #[v, .nilIface]) ∧ ByRow w' w.heap.size v (entB ⟨r, en, pe, l⟩))) ∧ Below w.heap.size w w' := by
  obtain ⟨W0, hW0⟩ : ∃ W0, w.alloc (.cells #[.string r, .int .i64 en, .int .i64 pe, .slice a l.length cap] 24) = W0 := ⟨_, rfl⟩
  have b0 : Below w.heap.size w W0 := by rw [← hW0]; exact (Below.refl _ w).alloc (Nat.le_refl _) _
  have x0 := Box4.new w r en pe (.slice a l.length cap)
  have hs0 : W0.heap.size = w.heap.size + 1 := by rw [← hW0]; simp
  rw [hW0] at x0
  by_cases h1 : 20 < l.length
  · have h1' : (20 : Int) < l.length := by omega
    have e1 : entBad ⟨r, en, pe, l⟩ = 4 := if_pos h1
    rw [e1]
    have c3 := x0.c3
    clear e1 h
    go_enter Tryd.func5, Tryd.ntmps5
    go_wp2
    go_ret2
    exact ⟨.inl ⟨by decide, rfl⟩, b0⟩
  have h1' : ¬ (20 : Int) < l.length := by omega
  have HA : Hid (IsLn w a l cap) := h
  have Hwf : Hid (∀ x ∈ l, I64 x.amt) := hwf
  obtain ⟨W1, hW1⟩ : ∃ W1, W0.alloc (.cells #[.slice none 0 0, .nilIface] 44) = W1 := ⟨_, rfl⟩
  have y0 : WrAt W1 (w.heap.size + 1) [] 0 := by rw [← hW1, ← hs0]; exact ⟨_, WBox.new _ _ _, ByRow.nil _ _⟩
  have B0 : Below (w.heap.size + 1) W0 W1 := by rw [← hW1, ← hs0]; exact (Below.refl _ _).alloc (Nat.le_refl _) _
  have z0 := x0.below B0 (Nat.lt_succ_self _)
  have d0 := z0.c0
  have hT := wtext_any (w.heap.size + 1) [] 0 r W1 (by simp) y0
  have c3 := x0.c3
  have hr34 := txtW_length r
  have hn1 := numB_length hen.1 hen.2
  have hn2 := numB_length hpe.1 hpe.2
  have hn3 := @numB_length l.length (by omega) (by omega)
  have HT : Hid (Calls _ _ _ _ _) := hT
  have HB0 : Hid (Below (w.heap.size + 1) W0 W1) := B0
  have Hz0 : Hid (Box4 W1 _ _ _ _ _) := z0
  clear h hwf hT B0 z0 y0 x0
  go_enter Tryd.func5, Tryd.ntmps5
  go_wp2_with fail
  refine HT.out.mono ?_
  rintro e w1 ⟨rfl, y1, B1⟩
  have y1 : WrAt w1 (w.heap.size + 1) (txtW r) (longB r) := y1
  have z1 := Hz0.out.below B1 (Nat.lt_succ_self _)
  have HB1 : Hid (Below (w.heap.size + 1) W0 w1) := HB0.out.trans B1
  have hS := wsmall_any (w.heap.size + 1) (txtW r) (longB r) en w1 hen.1 hen.2 (by omega) y1
  have HS : Hid (Calls _ _ _ _ _) := hS
  have Hz1 : Hid (Box4 w1 _ _ _ _ _) := z1
  clear d0 c3 hW0 hW1 HT HB0 Hz0 hS y1 B1
  have d1 := z1.c1
  clear z1
  go_wp2_with fail
  refine HS.out.mono ?_
  rintro e w2 ⟨rfl, y2, B2⟩
  have z2 := Hz1.out.below B2 (Nat.lt_succ_self _)
  have HB2 : Hid (Below (w.heap.size + 1) W0 w2) := HB1.out.trans B2
  have hS := wsmall_any (w.heap.size + 1) _ _ pe w2 hpe.1 hpe.2 (by rw [List.length_append]; omega) y2
  have HS : Hid (Calls _ _ _ _ _) := hS
  have Hz2 : Hid (Box4 w2 _ _ _ _ _) := z2
  clear d1 HB1 Hz1 hS y2 B2
  have d2 := z2.c2
  clear z2
  go_wp2_with fail
  refine HS.out.mono ?_
  rintro e w3 ⟨rfl, y3, B3⟩
  have z3 := Hz2.out.below B3 (Nat.lt_succ_self _)
  have HB3 : Hid (Below (w.heap.size + 1) W0 w3) := HB2.out.trans B3
  have hS := wnumber_any (w.heap.size + 1) _ _ l.length w3 (by omega) (by omega) (by rw [List.length_append, List.length_append]; omega) y3
  have HS : Hid (Calls _ _ _ _ _) := hS
  have Hz3 : Hid (Box4 w3 _ _ _ _ _) := z3
  clear d2 HB2 Hz2 hS y3 B3
  have d3 := z3.c3
  clear z3
  go_wp2_with fail
  refine HS.out.mono ?_
  rintro e w4 ⟨rfl, y4, B4⟩
  have y4 : WrAt w4 (w.heap.size + 1) (headW ⟨r, en, pe, l⟩) (headErr ⟨r, en, pe, l⟩) := y4
  have z4 := Hz3.out.below B4 (Nat.lt_succ_self _)
  have HB4 : Hid (Below (w.heap.size + 1) W0 w4) := HB3.out.trans B4
  have hh : (headW ⟨r, en, pe, l⟩).length ≤ 64 := by simp only [headW, List.length_append]; omega
  have Hz4 : Hid (Box4 w4 _ _ _ _ _) := z4
  have Hy4 : Hid (WrAt w4 _ _ _) := y4
  have Hen : Hid (entBad ⟨r, en, pe, l⟩ = lnsErr (headErr ⟨r, en, pe, l⟩) l) := if_neg h1
  have HeW : Hid (EnFit ⟨r, en, pe, l⟩ → headW ⟨r, en, pe, l⟩ ++ lnsW l = entB ⟨r, en, pe, l⟩) := fun hf => entW_fit hf
  generalize headW ⟨r, en, pe, l⟩ = hd at *
  generalize headErr ⟨r, en, pe, l⟩ = he at *
  clear d3 HB3 Hz3 y4 B4 hr34 hn1 hn2 hn3 HS
  have d3 := z4.c3
  clear z4
  go_wp2
  go_loopw [5, 27] (fun _ i wr => ∃ k : Nat, k ≤ l.length ∧ i = .int .i64 k ∧ Hid (WrAt wr (w.heap.size + 1) (hd ++ lnsW (l.take k)) (lnsErr he (l.take k))) ∧ Below (w.heap.size + 1) w4 wr) (fun _ i _ => l.length - (intOf i).toNat)
  case atStart => exact ⟨0, Nat.zero_le _, rfl, by unfold Hid; simpa [lnsW, lnsErr] using Hy4.out, Below.refl _ _⟩
  case round =>
    obtain ⟨k, hk, rfl, R, BW⟩ := hrel
    have zk := Hz4.out.below BW (Nat.lt_succ_self _)
    have e3 := zk.c3
    have Bw : Below w.heap.size w wr := (b0.trans (HB4.out.mono (Nat.le_succ _))).trans (BW.mono (Nat.le_succ _))
    by_cases hlt : k < l.length
    · rcases HA.out.lies with h0 | ⟨gb, go, rfl, hgb, hgc⟩
      · rw [h0] at hlt; simp at hlt
      have hn := (hgc k hlt).below Bw hgb
      have hst : hd ++ lnsW (l.take (k + 1)) = hd ++ lnsW (l.take k) ++ lnW (l.getD k ln0) := by rw [lns_take l k hlt, lnsW_snoc, List.append_assoc]
      have hse : lnsErr he (l.take (k + 1)) = lnErr (lnsErr he (l.take k)) (l.getD k ln0) := by rw [lns_take l k hlt, lnsErr_snoc]
      have hxw := Hwf.out _ (lns_mem l k hlt)
      have hbl : (hd ++ lnsW (l.take k)).length ≤ 1624 := by
        have := lnsW_length (l.take k) (fun y hy => Hwf.out y (List.mem_of_mem_take hy))
        rw [List.length_take] at this
        rw [List.length_append]
        omega
      generalize l.getD k ln0 = x at *
      generalize hd ++ lnsW (l.take k) = bk at *
      generalize lnsErr he (l.take k) = ek at *
      have Hst : Hid (_ = _) := hst
      have Hse : Hid (_ = _) := hse
      have Hn : Hid (LnAt wr gb (go + k * 3) x) := hn
      clear hst hse hgc
      obtain ⟨x0, x1, x2⟩ := x
      obtain ⟨c0, c1, c2⟩ := hn
      simp only at c0 c1 c2 hxw
      have j0 : (0 : Int) ≤ k := by omega
      have j1 : (k : Int) < l.length := by omega
      have t34a := txtW_length x0
      have t34b := txtW_length x1
      have HT1 : Hid (Calls _ _ _ _ _) := wtext_any (w.heap.size + 1) bk ek x0 wr (by omega) R.out
      have Hzk : Hid (Box4 wr _ _ _ _ _) := zk
      have hgb1 : gb < w.heap.size + 1 := by omega
      clear R zk c1 c2 d3
      go_wp2_with fail
      refine HT1.out.mono ?_
      rintro e u1 ⟨rfl, y1, B1⟩
      have z1 := Hzk.out.below B1 (Nat.lt_succ_self _)
      have n1 := Hn.out.below B1 hgb1
      have HT2 : Hid (Calls _ _ _ _ _) := wtext_any (w.heap.size + 1) _ _ x1 u1 (by rw [List.length_append]; omega) y1
      have Hz1 : Hid (Box4 u1 _ _ _ _ _) := z1
      have Hn1 : Hid (LnAt u1 _ _ _) := n1
      have HB1 : Hid (Below (w.heap.size + 1) wr u1) := B1
      clear c0 e3 HT1 Hzk Hn y1 B1
      have e3 := z1.c3
      have c1 := n1.c1
      simp only at c1
      clear z1 n1
      go_wp2_with fail
      refine HT2.out.mono ?_
      rintro e u2 ⟨rfl, y2, B2⟩
      have z2 := Hz1.out.below B2 (Nat.lt_succ_self _)
      have n2 := Hn1.out.below B2 hgb1
      have HT3 : Hid (Calls _ _ _ _ _) := wamount_any (w.heap.size + 1) _ _ x2 u2 hxw.1 hxw.2 (by rw [List.length_append, List.length_append]; omega) y2
      have HB2 : Hid (Below (w.heap.size + 1) wr u2) := HB1.out.trans B2
      clear c1 e3 HT2 Hz1 Hn1 y2 B2 HB1
      have e3 := z2.c3
      have c2 := n2.c2
      simp only at c2
      clear z2 n2
      go_wp2_with fail
      refine HT3.out.mono ?_
      rintro e u3 ⟨rfl, y3, B3⟩
      have HY : Hid (WrAt u3 (w.heap.size + 1) (hd ++ lnsW (l.take (k + 1))) (lnsErr he (l.take (k + 1)))) := by
        unfold Hid
        rw [Hst.out, Hse.out]
        have : lnW ⟨x0, x1, x2⟩ = txtW x0 ++ (txtW x1 ++ numB x2) := by simp [lnW]
        rw [this, ← List.append_assoc, ← List.append_assoc]
        exact y3
      have BN := BW.trans (HB2.out.trans B3)
      clear c2 e3 HT3 y3 B3 HB2 Hst Hse
      go_wp2
      go_roundw
      case rel => exact ⟨k + 1, by omega, by go_num, HY, BN⟩
      case measure => simp [intOf]; omega
    · have hk2 : k = l.length := by omega
      subst hk2
      have R1 := R.out
      rw [List.take_length] at R1
      obtain ⟨bad, hbad⟩ : ∃ bad, lnsErr he l = bad := ⟨_, rfl⟩
      rw [hbad] at R1 Hen
      have hb := Hen.out
      by_cases h0 : bad = 0
      · subst h0
        have HWA : Hid (Calls _ _ _ _ _) := wall_ok (w.heap.size + 1) _ wr R1
        have hW := HeW.out (entBad_zero.1 hb)
        rw [hW] at HWA
        clear R R1 hbad hb e3 zk hW
        go_wp2_with fail
        refine HWA.out.mono ?_
        rintro e u ⟨v, rfl, rr, bu⟩
        obtain ⟨a4, c4, rfl, _⟩ := rr.isBy
        have HR : Hid (ByRow u _ _ _) := rr
        generalize (entB ⟨r, en, pe, l⟩).length = m4 at *
        clear HWA rr
        go_wp2
        go_ret2
        exact ⟨.inr ⟨Hen.out, _, rfl, ByRow.mono (n := w.heap.size + 1 + 1) (m := w.heap.size) HR.out (by omega)⟩, Bw.trans (bu.mono Bw.size)⟩
      · have HWA : Hid (Calls _ _ _ _ _) := wall_bad (w.heap.size + 1) _ bad wr h0 R1
        rw [enE_ne h0] at HWA
        clear R R1 hbad hb e3 zk HeW
        go_wp2_with fail
        refine HWA.out.mono ?_
        rintro e u ⟨rfl, bu⟩
        clear HWA
        go_wp2
        go_ret2
        exact ⟨.inl ⟨by rw [Hen.out]; exact h0, by rw [Hen.out, enE_ne h0]; rfl⟩, Bw.trans (bu.mono Bw.size)⟩
end Go.Proofs.YtcmndenlnjefeaaDoor
