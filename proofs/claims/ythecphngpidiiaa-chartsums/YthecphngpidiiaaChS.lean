/-
  The walk of daylaw1.ChartSums.
-/
import Derived.Test.YthecphngpidiiaaChN
namespace Go.Proofs.Ythecphngpidiiaa
set_option linter.unusedVariables false
set_option linter.unusedSimpArgs false
set_option maxRecDepth 100000
open Go.RowKit Go.Lib Math

/-- Two accounts, the second one under the first. -/
def exA : Ac := ⟨⟨#[49]⟩, ⟨#[97]⟩, 1, ByteArray.empty, false⟩
def exB : Ac := ⟨⟨#[50]⟩, ⟨#[98]⟩, 1, ⟨#[49]⟩, false⟩

theorem ex_bad : rollBad [exA, exB] [3, 4] = 0 := by decide +kernel
theorem ex_row : (List.range [exA, exB].length).map (rollI [exA, exB] [3, 4]) = [7, 4] := by decide +kernel

theorem IntRow.below {w w' : World} {n : Nat} {v : Value} {xs : List Int} (h : IntRow w n v xs) (hb : Below w.heap.size w w') : IntRow w' n v xs := by
  rcases h.2 with ⟨hv, hn⟩ | ⟨g1, c1, cur, hv, hb1, hh, r⟩
  · exact ⟨h.1, .inl ⟨hv, hn⟩⟩
  · exact ⟨h.1, .inr ⟨g1, c1, cur, hv, hb1, (hb.block g1 (Array.getElem?_eq_some_iff.1 hh).1).trans hh, r⟩⟩

theorem row_own {w : World} {n : Nat} {v : Value} {xs : List Int} (h : IntRow w n v xs) : ∀ j, v.ownBlock = some j → n ≤ j := fun j ej => by
  rcases h.2 with ⟨rfl, _⟩ | ⟨g1, c1, cur, rfl, hg1, _⟩
  · cases ej
  · cases ej; exact hg1

theorem row_drewN {w : World} {n : Nat} {v : Value} {xs : List Int} (h : IntRow w n v xs) (m : Nat) : IntRow (w.drewN m) n v xs := IntRow.below h (ch_drewN (Below.refl _ _) _)

theorem memB_step (c : ByteArray) (vs : List ByteArray) (j : Nat) (h : j < vs.length) : memB c (vs.take (j + 1)) = (memB c (vs.take j) || decide (vs.getD j ByteArray.empty = c)) := by
  rw [List.take_succ_eq_append_getElem h, memB, List.any_append]
  rw [List.getD_eq_getElem?_getD, List.getElem?_eq_getElem h]
  simp [memB]

theorem ex_sl (w : World) : IsSl ((w.alloc (.cells #[.string ⟨#[49]⟩, .string ⟨#[97]⟩, .int .i64 1, .string ⟨#[]⟩, .bool false, .string ⟨#[50]⟩, .string ⟨#[98]⟩, .int .i64 1, .string ⟨#[49]⟩, .bool false] 29)).alloc (.cells #[.int .i64 3, .int .i64 4] 3)) (some ⟨w.heap.size, 0, none⟩) [exA, exB] 2 := by
  refine ⟨by simp, .inr ⟨w.heap.size, 0, rfl, by simp; omega, fun k hk => ?_⟩⟩
  have hk' : k = 0 ∨ k = 1 := by simp at hk; omega
  rcases hk' with rfl | rfl
  · exact ⟨by simp [exA], by simp [exA], by simp [exA], by simp [exA]; rfl, by simp [exA]⟩
  · exact ⟨by simp [exB], by simp [exB], by simp [exB], by simp [exB], by simp [exB]⟩

theorem ex_ints (w : World) (o : Obj) : IsInts ((w.alloc o).alloc (.cells #[.int .i64 3, .int .i64 4] 3)) (some ⟨w.heap.size + 1, 0, none⟩) [3, 4] 2 := by
  refine ⟨by simp, ?_, .inr ⟨w.heap.size + 1, 0, rfl, by simp, fun k hk => ?_⟩⟩
  · intro k hk
    have hk' : k = 0 ∨ k = 1 := by simp at hk; omega
    rcases hk' with rfl | rfl <;> simp [I64]
  · have hk' : k = 0 ∨ k = 1 := by simp at hk; omega
    rcases hk' with rfl | rfl <;> simp

set_option maxHeartbeats 8000000 in
theorem sums_walk (a : Option Addr) (cap : Nat) (l : List Ac) (a2 : Option Addr) (am : List Int) (cap2 : Nat) (w : World) (h : IsSl w a l cap) (hin : IsInts w a2 am cap2) :
    Calls Try.prog 3 #[.slice a l.length cap, .slice a2 am.length cap2] w fun e w' => e = .returned (.bool true) ∧ Below w.heap.size w w' := by
  have C0 := roll_any (some ⟨w.heap.size, 0, none⟩) 2 [exA, exB] (some ⟨w.heap.size + 1, 0, none⟩) [3, 4] 2 _ (ex_sl w) (ex_ints w _)
  have C1 : Hid (∀ W, Below w.heap.size w W → Calls Try.prog 5 #[.slice a l.length cap, .slice a2 am.length cap2] W (RollEnd l am W)) := fun W hW => roll_any a cap l a2 am cap2 W (h.below hW) (hin.below hW)
  have HH : Hid (IsSl w a l cap) := h
  have Hin : Hid (IsInts w a2 am cap2) := hin
  clear h hin
  have b0 : Below w.heap.size w ((w.alloc (.cells #[.string ⟨#[49]⟩, .string ⟨#[97]⟩, .int .i64 1, .string ⟨#[]⟩, .bool false, .string ⟨#[50]⟩, .string ⟨#[98]⟩, .int .i64 1, .string ⟨#[49]⟩, .bool false] 29)).alloc (.cells #[.int .i64 3, .int .i64 4] 3)) := ((Below.refl _ w).alloc (Nat.le_refl _) _).alloc (by simp) _
  have HC0 : Hid (Calls _ _ _ _ _) := C0
  clear C0
  go_enter Try.func3, Try.ntmps3
  go_wp2_with fail
  refine HC0.out.mono ?_
  rintro e w1 ⟨hb1, _, hok⟩
  obtain ⟨g1, rfl, _, hr1⟩ := hok ex_bad
  rw [ex_row] at hr1
  have c0 := irow_cell hr1 (i := 0) (by simp)
  have c1 := irow_cell hr1 (i := 1) (by simp)
  simp only [List.getD_cons_zero, List.getD_cons_succ] at c0 c1
  have B1 := b0.trans (hb1.mono (by simp; omega))
  clear hb1 hok hr1 HC0 b0
  go_wp2_with fail
  refine (C1.out w1 B1).mono ?_
  rintro e w2 ⟨hb2, hbad, hok⟩
  have B2 := B1.trans (hb2.mono B1.size)
  clear hb2 c0 c1 C1
  by_cases hr : rollBad l am = 0
  case neg =>
    obtain rfl := hbad hr
    rw [chE_ne hr]
    clear hbad hok
    generalize rollBad l am = bad at *
    go_wp2
    go_ret
    exact ⟨rfl, B2⟩
  obtain ⟨g, rfl, hg, hrow⟩ := hok hr
  obtain ⟨h0, hal, hrk⟩ := rollBad_zero hr
  have hlen := chBad_len h0
  have Hlen : (l.length : Int) ≤ 60 := by omega
  have hgl := irow_lt hrow
  clear hbad hok hr
  have C4 : Hid (∀ W, Below w.heap.size w W → Calls Try.prog 6 #[.slice a2 l.length cap2] W fun e w' => e = .returned (.tuple #[.int .i64 (sumV am.sum), sumE am.sum]) ∧ w' = W) := fun W hW => by
    rcases (Hin.out.below hW).lies with h | ⟨b, off, e, _, hc⟩
    · have : l.length = 0 := by rw [← hal, h]; rfl
      rw [this, h]
      exact sum_zero a2 cap2 W
    · rw [e]
      exact sum_run b off cap2 l.length am W hal (by omega) Hin.out.fits (fun i hi => hc i hi)
  have Hc : Hid (∀ W, Below w.heap.size w W → ∀ k, k < l.length → ∃ b off b2 off2, a = some ⟨b, off, none⟩ ∧ a2 = some ⟨b2, off2, none⟩ ∧ AcAt W b (off + k * 5) (l.getD k ac0) ∧ W.cell? ⟨b2, off2 + k, none⟩ = some (.int .i64 (am.getD k 0))) := fun W hW k hk => by
    rcases (HH.out.below hW).lies with h | ⟨b, off, e, _, hc⟩
    · rw [h] at hk; simp at hk
    rcases (Hin.out.below hW).lies with h | ⟨b2, off2, e2, _, hc2⟩
    · rw [h] at hal; simp at hal; omega
    exact ⟨b, off, b2, off2, e, e2, hc k hk, hc2 k (by omega)⟩
  have C2 : Hid (∀ W, Below w.heap.size w W → ∀ k, k < l.length → Calls Try.prog 7 #[.slice a l.length cap, .string (l.getD k ac0).code] W fun e w' => ∃ v, e = .returned (.tuple #[v, .nilIface]) ∧ TxtRow w' W.heap.size v ((undL l k).map fun j => (l.getD j ac0).code) ∧ Below W.heap.size W w') := fun W hW k hk => by
    rw [← undC_eq h0 hk]
    exact chUnder_ok a cap l _ W (HH.out.below hW) (place_code h0 hk)
  rw [hal]
  have Hrow : Hid (IRow _ _ _) := hrow
  have HT : Hid ((topsL l am l.length).sum = am.sum ∧ ∀ i, i < (topsL l am l.length).length → I64 ((topsL l am l.length).getD i 0)) := ⟨tops_sum h0 hal, topsL_fit hrk⟩
  have H0 : Hid (chBad l = 0) := h0
  clear hal hrk h0 hrow HH Hin
  obtain ⟨i0, hi, hz0, hz1, hz2⟩ := info_parts int_info
  go_wp2_with fail
  refine (C4.out w2 B2).mono ?_
  rintro e w3 ⟨rfl, hw⟩
  rw [hw]; clear hw w3 C4
  generalize hS : am.sum = S at *
  clear hS
  generalize hsv : sumV S = SV at *
  generalize hse : sumE S = SE at *
  have HSV : Hid (sumV S = SV) := hsv
  have HSE : Hid (sumE S = SE) := hse
  clear hsv hse
  go_wp2
  go_loopw [11, 12] (fun s11 s12 wr => ∃ k : Nat, k ≤ l.length ∧ s12 = .int .i64 k ∧ Hid (IntRow wr w2.heap.size s11 (topsL l am k) ∧ IRow wr g ((List.range l.length).map (rollI l am)) ∧ Below w.heap.size w wr ∧ w2.heap.size ≤ wr.heap.size)) (fun _ s12 _ => l.length - (intOf s12).toNat)
  case atStart => exact ⟨0, Nat.zero_le _, rfl, World.ownsRow_nil _ _ _ _, Hrow.out, B2, Nat.le_refl _⟩
  case round =>
    obtain ⟨k, hk, rfl, H⟩ := hrel
    by_cases hlt : k < l.length
    · obtain ⟨T, R, BW, hsw⟩ := H.out
      clear H
      obtain ⟨b, off, b2, off2, rfl, rfl, _, _⟩ := Hc.out wr BW k hlt
      have Hx : Hid (∀ W, Below w.heap.size w W → AcAt W b (off + k * 5) (l.getD k ac0) ∧ W.cell? ⟨b2, off2 + k, none⟩ = some (.int .i64 (am.getD k 0))) := fun W hW => by
        obtain ⟨b', off', b2', off2', e1, e2, q1, q2⟩ := Hc.out W hW k hlt
        cases e1; cases e2
        exact ⟨q1, q2⟩
      have HU : Hid (∀ W, Below w.heap.size w W → Calls Try.prog 7 #[.slice (some ⟨b, off, none⟩) l.length cap, .string (l.getD k ac0).code] W fun e w' => ∃ gu cu, e = .returned (.tuple #[.slice (some ⟨gu, 0, none⟩) (undL l k).length cu, .nilIface]) ∧ w'.cell? ⟨gu, 0, none⟩ = some (.string (l.getD k ac0).code) ∧ Below W.heap.size W w') := fun W hW => by
        refine (C2.out W hW k hlt).mono ?_
        rintro e w' ⟨v, rfl, row, hb⟩
        obtain ⟨r, hr⟩ := undL_head H0.out hlt
        rcases row.form with ⟨_, h1⟩ | ⟨gu, cu, rfl, _, _, _, hc⟩
        · rw [hr] at h1; simp at h1
        · rw [List.length_map] at hc ⊢
          have := hc 0 (by rw [hr]; simp)
          rw [hr] at this
          exact ⟨gu, cu, rfl, by rw [this]; rfl, hb⟩
      have hm1 : 1 ≤ (undL l k).length := by obtain ⟨r, hr⟩ := undL_head H0.out hlt; rw [hr]; simp
      have hm2 : (undL l k).length ≤ 60 := by
        have := List.length_filter_le (isU l k) (List.range l.length)
        simp only [List.length_range] at this
        unfold undL
        omega
      have HL : Hid ((undL l k).length = 1 → rollI l am k = am.getD k 0) := fun h1 => rollI_leaf H0.out am hlt h1
      have hts := topsL_succ l am k
      have hrc : ((List.range l.length).map (rollI l am)).getD k 0 = rollI l am k := by simp [List.getD, hlt]
      have htl := topsL_len l am k
      have j0 : (0 : Int) ≤ k := by omega
      have j1 : (k : Int) < l.length := by omega
      have HR : Hid (∀ W, IRow W g ((List.range l.length).map (rollI l am)) → W.cell? ⟨g, k, none⟩ = some (.int .i64 (rollI l am k))) := fun W hW => by
        have := irow_cell hW (i := k) (by simpa using hlt)
        rw [hrc] at this
        exact this
      obtain ⟨m, hm⟩ : ∃ m, (undL l k).length = m := ⟨_, rfl⟩
      have Hm : Hid ((undL l k).length = m) := hm
      rw [hm] at HU hm1 hm2 HL
      clear hm hrc
      by_cases htop : isTop l k = true
      · rw [if_pos htop] at hts
        have e0 : (l.getD k ac0).par.toList = [] := ch_empty (by simpa [isTop] using htop)
        have e0' : (l.getD k ac0).par.toList.isEmpty = true := by rw [e0]; rfl
        clear htop
        generalize rollI l am k = s at *
        generalize am.getD k 0 = av at *
        generalize l.getD k ac0 = x at *
        obtain ⟨x0, x1, x2, x3, x4⟩ := x
        obtain ⟨⟨c0, c1, c2, c3, c4⟩, d0⟩ := Hx.out wr BW
        have rc := HR.out wr R
        simp only at c0 c1 c2 c3 c4 e0 e0' HU Hx
        have Hts : Hid (_ = _) := hts
        have HTr : Hid (IntRow wr w2.heap.size _ (topsL l am k)) := T
        have HRr : Hid (IRow wr g _) := R
        clear hts T R
        go_wp2_with (at_builtin; refine wpList_append_own _ rfl _ _ 23 rfl w2.heap.size 3 i0 (.int .i64 0) 1 8 Try.underlying23 hi hz0 hz1 hz2 rfl (by decide) _ _ _ rfl (World.ownsRow.alloc HTr.out _) ⟨wr.heap.size, 0, none⟩ 1 1 [.int .i64 s] rfl rfl (cell_one_new _ _ _) ?c2 ?c3 ?c4 ?c5 ?_)
        case c2 => intro u hu; simp at hu; subst hu; rfl
        case c3 => unfold maxLen; omega
        case c4 => omega
        case c5 => simp; omega
        intro v' w4 hown' hgrow _
        have hob := row_own HTr.out
        have B4 : Below w.heap.size w w4 := (BW.alloc BW.size (.cells #[.int .i64 s] 3)).grown hgrow (by have := BW.size; simp; omega) (fun j ej => by have := hob j ej; have := B2.size; omega)
        have T4 : Hid (IntRow w4 w2.heap.size v' (topsL l am (k + 1))) := by
          unfold Hid
          rw [Hts.out]
          unfold IntRow
          simpa using hown'
        have R4 : Hid (IRow w4 g ((List.range l.length).map (rollI l am))) := by
          have h1 : (wr.alloc (.cells #[.int .i64 s] 3)).heap[g]? = wr.heap[g]? := heap_alloc_lt wr _ g (by omega)
          unfold Hid IRow
          rw [hgrow.block g (by simp; omega) (fun e => by have := hob g e.symm; omega), h1]
          exact HRr.out
        have hs4 : w2.heap.size ≤ w4.heap.size := by have := hgrow.size; simp at this; omega
        clear hown' hgrow hob HTr HRr c0 c1 c2 c3 c4 d0 rc BW hsw
        obtain ⟨⟨c0, c1, c2, c3, c4⟩, d0⟩ := Hx.out w4 B4
        simp only at c0 c1 c2 c3 c4
        go_wp2_with fail
        refine (HU.out w4 B4).mono ?_
        rintro e w5 ⟨gu, cu, rfl, cu0, hb5⟩
        have B5 := B4.trans (hb5.mono B4.size)
        have T5 : Hid (IntRow w5 w2.heap.size _ _) := IntRow.below T4.out hb5
        have hs5 : w2.heap.size ≤ w5.heap.size := by have := hb5.size; omega
        have R5 : Hid (IRow w5 g ((List.range l.length).map (rollI l am))) := irow_below R4.out hb5 (by omega)
        clear c0 c1 c2 c3 c4 d0 hb5 T4 R4
        obtain ⟨⟨c0, c1, c2, c3, c4⟩, d0⟩ := Hx.out w5 B5
        have rc := HR.out w5 R5.out
        simp only at c0 c1 c2 c3 c4
        have mne : ((m : Int) == 0) = false := by simp; omega
        have mle : (m : Int) ≤ 60 := by omega
        have mpos : (0 : Int) < m := by omega
        by_cases hone : m = 1
        · have es : s = av := HL.out hone
          subst es
          subst hone
          go_wp2_with fail
          go_quiet (fail)
          go_wp2_with fail
          go_quiet (fail)
          go_wp2
          go_roundw
          case rel => exact ⟨k + 1, by omega, by go_num, T5.out, R5.out, ch_drewN B5 _, hs5⟩
          case measure => simp [intOf]; omega
        · have hone' : ((m : Int) == 1) = false := by simp; omega
          go_wp2_with fail
          go_quiet (fail)
          go_wp2_with fail
          go_quiet (fail)
          go_wp2
          go_roundw
          case rel => exact ⟨k + 1, by omega, by go_num, T5.out, R5.out, ch_drewN B5 _, hs5⟩
          case measure => simp [intOf]; omega
      · rw [if_neg htop, List.append_nil] at hts
        have hp0 : (l.getD k ac0).par.size ≠ 0 := by simpa [isTop] using htop
        have e0 : ¬ (l.getD k ac0).par.toList = [] := ch_some hp0
        have e0' : (l.getD k ac0).par.toList.isEmpty = false := by simpa using e0
        obtain ⟨q, hq⟩ : ∃ q, parOf l k = some q := by
          cases hpo : parOf l k with
          | none => exact absurd (parOf_none.1 hpo) hp0
          | some q => exact ⟨q, rfl⟩
        obtain ⟨hq1, hq2, _⟩ := parOf_some H0.out hlt hq
        have hql := undL_lt H0.out hlt hq
        have hq3 : (undL l q).length ≤ 60 := by
          have := List.length_filter_le (isU l q) (List.range l.length)
          simp only [List.length_range] at this
          unfold undL
          omega
        have HP : Hid (∀ W, Below w.heap.size w W → Calls Try.prog 7 #[.slice (some ⟨b, off, none⟩) l.length cap, .string (l.getD k ac0).par] W fun e w' => ∃ gv cv, e = .returned (.tuple #[.slice (some ⟨gv, 0, none⟩) (undL l q).length cv, .nilIface]) ∧ (∀ j, j < ((undL l q).map fun j => (l.getD j ac0).code).length → w'.cell? ⟨gv, j, none⟩ = some (.string (((undL l q).map fun j => (l.getD j ac0).code).getD j ByteArray.empty))) ∧ Below W.heap.size W w') := fun W hW => by
          rw [← hq2]
          refine (C2.out W hW q (by omega)).mono ?_
          rintro e w' ⟨v, rfl, row, hb⟩
          rcases row.form with ⟨_, h1⟩ | ⟨gv, cv, rfl, _, _, _, hc⟩
          · have : (undL l q).length = 0 := by simpa using congrArg List.length h1
            omega
          · rw [List.length_map] at hc ⊢
            exact ⟨gv, cv, rfl, hc, hb⟩
        have HM : Hid (memB (l.getD k ac0).code ((undL l q).map fun j => (l.getD j ac0).code) = true) := by
          unfold Hid
          rw [memB_iff, List.mem_map]
          refine ⟨k, ?_, rfl⟩
          unfold undL
          rw [List.mem_filter, List.mem_range]
          refine ⟨hlt, ?_⟩
          rw [isU_step H0.out hlt, hq]
          simp [isU_self H0.out (show q < l.length by omega)]
        have hvl : ((undL l q).map fun j => (l.getD j ac0).code).length = (undL l q).length := by simp
        generalize ((undL l q).map fun j => (l.getD j ac0).code) = vs at *
        rw [Hm.out] at hql
        rw [hvl] at HP
        generalize (undL l q).length = n2 at *
        clear htop hp0 hq hq1 hq2
        generalize rollI l am k = s at *
        generalize am.getD k 0 = av at *
        generalize l.getD k ac0 = x at *
        obtain ⟨x0, x1, x2, x3, x4⟩ := x
        obtain ⟨⟨c0, c1, c2, c3, c4⟩, d0⟩ := Hx.out wr BW
        simp only at c0 c1 c2 c3 c4 e0 e0' HU Hx HP HM
        rw [← hts] at T
        have HTr : Hid (IntRow wr w2.heap.size _ (topsL l am (k + 1))) := T
        have HRr : Hid (IRow wr g _) := R
        clear hts T R
        have Hvl : Hid (vs.length = n2) := hvl
        have hnle : ¬ ((n2 : Int) ≤ m) := by omega
        clear hvl
        go_wp2_with fail
        refine (HU.out wr BW).mono ?_
        rintro e w5 ⟨gu, cu, rfl, cu0, hb5⟩
        have B5 := BW.trans (hb5.mono BW.size)
        have T5 : Hid (IntRow w5 w2.heap.size _ _) := IntRow.below HTr.out hb5
        have hs5 : w2.heap.size ≤ w5.heap.size := by have := hb5.size; omega
        have R5 : Hid (IRow w5 g ((List.range l.length).map (rollI l am))) := irow_below HRr.out hb5 (by omega)
        clear c0 c1 c2 c3 c4 d0 hb5 HTr HRr
        obtain ⟨⟨c0, c1, c2, c3, c4⟩, d0⟩ := Hx.out w5 B5
        have rc := HR.out w5 R5.out
        simp only at c0 c1 c2 c3 c4
        have mne : ((m : Int) == 0) = false := by simp; omega
        have mle : (m : Int) ≤ 60 := by omega
        have mpos : (0 : Int) < m := by omega
        by_cases hone : m = 1
        · have es : s = av := HL.out hone
          subst es
          subst hone
          go_wp2_with fail
          go_quiet (fail)
          go_wp2_with fail
          go_quiet (fail)
          go_wp2_with fail
          refine (HP.out _ (ch_drewN B5 _)).mono ?_
          rintro e w6 ⟨gv, cv, rfl, hcv, hb6⟩
          have B6 := (ch_drewN B5 _).trans (hb6.mono (ch_drewN B5 _).size)
          have T6 : Hid (IntRow w6 w2.heap.size _ _) := IntRow.below (row_drewN T5.out _) hb6
          have hs6 : w2.heap.size ≤ w6.heap.size := by have := hb6.size; have h5 : ∀ n, (w5.drewN n).heap.size = w5.heap.size := fun n => rfl; rw [h5] at this; omega
          have R6 : Hid (IRow w6 g ((List.range l.length).map (rollI l am))) := irow_below (irow_below R5.out (ch_drewN (Below.refl w5.heap.size w5) _) (by omega)) hb6 (by have h5 : ∀ n, (w5.drewN n).heap.size = w5.heap.size := fun n => rfl; rw [h5]; omega)
          have Hcv : Hid (∀ j, j < n2 → w6.cell? ⟨gv, j, none⟩ = some (.string (vs.getD j ByteArray.empty))) := fun j hj => hcv j hj
          clear c0 c1 c2 c3 c4 d0 rc hb6 hcv T5 R5 B5
          obtain ⟨⟨c0, c1, c2, c3, c4⟩, d0⟩ := Hx.out w6 B6
          simp only at c0 c1 c2 c3 c4
          have n2le : (n2 : Int) ≤ 60 := by omega
          go_wp2
          go_loopw [17, 18] (fun s17 s18 wx => ∃ (j : Nat) (bb : Bool), j ≤ n2 ∧ s18 = .int .i64 j ∧ s17 = .bool bb ∧ Hid (bb = memB x0 (vs.take j)) ∧ ∃ n, wx = w6.drewN n) (fun _ s18 _ => n2 - (intOf s18).toNat)
          case atStart => exact ⟨0, false, Nat.zero_le _, rfl, rfl, rfl, 0, rfl⟩
          case round =>
            obtain ⟨j, bb, hj, rfl, rfl, hbb, nd, rfl⟩ := hrel
            by_cases hjl : j < n2
            · have cj := Hcv.out j hjl
              have hst := memB_step x0 vs j (by rw [Hvl.out]; exact hjl)
              generalize vs.getD j ByteArray.empty = y at *
              have i0 : (0 : Int) ≤ j := by omega
              have i1 : (j : Int) < n2 := by omega
              cases bb
              · rw [← hbb.out, Bool.false_or] at hst
                by_cases hy : y = x0
                · subst hy
                  have HN : Hid (true = memB y (vs.take (j + 1))) := by unfold Hid; rw [hst]; simp
                  go_wp2_with fail
                  go_quiet (fail)
                  go_wp2
                  go_roundw
                  case rel => exact ⟨j + 1, true, by omega, by go_num, rfl, HN, _, rfl⟩
                  case measure => simp [intOf]; omega
                · have hy' := ch_ne hy
                  have HN : Hid (false = memB x0 (vs.take (j + 1))) := by unfold Hid; rw [hst]; simp [hy]
                  go_wp2_with fail
                  go_quiet (fail)
                  go_wp2
                  go_roundw
                  case rel => exact ⟨j + 1, false, by omega, by go_num, rfl, HN, _, rfl⟩
                  case measure => simp [intOf]; omega
              · rw [← hbb.out, Bool.true_or] at hst
                have HN : Hid (true = memB x0 (vs.take (j + 1))) := hst.symm
                go_wp2_with fail
                go_quiet (fail)
                go_wp2
                go_roundw
                case rel => exact ⟨j + 1, true, by omega, by go_num, rfl, HN, _, rfl⟩
                case measure => simp [intOf]; omega
            · have hj2 : j = n2 := by omega
              subst hj2
              have eb : bb = true := by
                have := hbb.out
                rw [← Hvl.out, List.take_length, HM.out] at this
                exact this
              subst eb
              go_wp2
              go_roundw
              case rel => exact ⟨k + 1, by omega, by go_num, T6.out, R6.out, ch_drewN B6 _, hs6⟩
              case measure => simp [intOf]; omega
        · have hone' : ((m : Int) == 1) = false := by simp; omega
          go_wp2_with fail
          go_quiet (fail)
          go_wp2_with fail
          go_quiet (fail)
          go_wp2_with fail
          refine (HP.out _ (ch_drewN B5 _)).mono ?_
          rintro e w6 ⟨gv, cv, rfl, hcv, hb6⟩
          have B6 := (ch_drewN B5 _).trans (hb6.mono (ch_drewN B5 _).size)
          have T6 : Hid (IntRow w6 w2.heap.size _ _) := IntRow.below (row_drewN T5.out _) hb6
          have hs6 : w2.heap.size ≤ w6.heap.size := by have := hb6.size; have h5 : ∀ n, (w5.drewN n).heap.size = w5.heap.size := fun n => rfl; rw [h5] at this; omega
          have R6 : Hid (IRow w6 g ((List.range l.length).map (rollI l am))) := irow_below (irow_below R5.out (ch_drewN (Below.refl w5.heap.size w5) _) (by omega)) hb6 (by have h5 : ∀ n, (w5.drewN n).heap.size = w5.heap.size := fun n => rfl; rw [h5]; omega)
          have Hcv : Hid (∀ j, j < n2 → w6.cell? ⟨gv, j, none⟩ = some (.string (vs.getD j ByteArray.empty))) := fun j hj => hcv j hj
          clear c0 c1 c2 c3 c4 d0 rc hb6 hcv T5 R5 B5
          obtain ⟨⟨c0, c1, c2, c3, c4⟩, d0⟩ := Hx.out w6 B6
          simp only at c0 c1 c2 c3 c4
          have n2le : (n2 : Int) ≤ 60 := by omega
          go_wp2
          go_loopw [17, 18] (fun s17 s18 wx => ∃ (j : Nat) (bb : Bool), j ≤ n2 ∧ s18 = .int .i64 j ∧ s17 = .bool bb ∧ Hid (bb = memB x0 (vs.take j)) ∧ ∃ n, wx = w6.drewN n) (fun _ s18 _ => n2 - (intOf s18).toNat)
          case atStart => exact ⟨0, false, Nat.zero_le _, rfl, rfl, rfl, 0, rfl⟩
          case round =>
            obtain ⟨j, bb, hj, rfl, rfl, hbb, nd, rfl⟩ := hrel
            by_cases hjl : j < n2
            · have cj := Hcv.out j hjl
              have hst := memB_step x0 vs j (by rw [Hvl.out]; exact hjl)
              generalize vs.getD j ByteArray.empty = y at *
              have i0 : (0 : Int) ≤ j := by omega
              have i1 : (j : Int) < n2 := by omega
              cases bb
              · rw [← hbb.out, Bool.false_or] at hst
                by_cases hy : y = x0
                · subst hy
                  have HN : Hid (true = memB y (vs.take (j + 1))) := by unfold Hid; rw [hst]; simp
                  go_wp2_with fail
                  go_quiet (fail)
                  go_wp2
                  go_roundw
                  case rel => exact ⟨j + 1, true, by omega, by go_num, rfl, HN, _, rfl⟩
                  case measure => simp [intOf]; omega
                · have hy' := ch_ne hy
                  have HN : Hid (false = memB x0 (vs.take (j + 1))) := by unfold Hid; rw [hst]; simp [hy]
                  go_wp2_with fail
                  go_quiet (fail)
                  go_wp2
                  go_roundw
                  case rel => exact ⟨j + 1, false, by omega, by go_num, rfl, HN, _, rfl⟩
                  case measure => simp [intOf]; omega
              · rw [← hbb.out, Bool.true_or] at hst
                have HN : Hid (true = memB x0 (vs.take (j + 1))) := hst.symm
                go_wp2_with fail
                go_quiet (fail)
                go_wp2
                go_roundw
                case rel => exact ⟨j + 1, true, by omega, by go_num, rfl, HN, _, rfl⟩
                case measure => simp [intOf]; omega
            · have hj2 : j = n2 := by omega
              subst hj2
              have eb : bb = true := by
                have := hbb.out
                rw [← Hvl.out, List.take_length, HM.out] at this
                exact this
              subst eb
              go_wp2
              go_roundw
              case rel => exact ⟨k + 1, by omega, by go_num, T6.out, R6.out, ch_drewN B6 _, hs6⟩
              case measure => simp [intOf]; omega
    · have hk2 : k = l.length := by omega
      subst hk2
      obtain ⟨T, R, BW, _⟩ := H.out
      obtain ⟨t1, t2⟩ := HT.out
      have hs := sum_own w2.heap.size (topsL l am l.length).length 3 _ (topsL l am l.length) wr (by have := topsL_len l am l.length; omega) t2 T
      rw [t1, HSV.out, HSE.out] at hs
      have HS : Hid (Calls _ _ _ _ _) := hs
      clear hs t1 t2 T R H HT
      go_wp2_with fail
      refine HS.out.mono ?_
      rintro e w3 ⟨rfl, hw⟩
      rw [hw]; clear hw w3 HS
      by_cases hf : -9223372036854775808 ≤ S ∧ S ≤ 9223372036854775807
      · obtain ⟨e1, e2⟩ := sum_fit S hf
        have e3 : SE = .nilIface := by rw [← HSE.out]; exact e2
        subst e3
        clear e1 e2 hf HSV HSE
        go_wp2_with fail
        go_quiet (fail)
        go_wp2
        go_ret
        exact ⟨by simp, ch_drewN BW _⟩
      · obtain ⟨e1, e2⟩ := sum_nofit S hf
        have e3 : SE = .iface 42 (.int .i64 10) := by rw [← HSE.out]; exact e2
        subst e3
        clear e1 e2 hf HSV HSE
        go_wp2_with fail
        go_quiet (fail)
        go_wp2
        go_ret
        exact ⟨by simp, ch_drewN BW _⟩
end Go.Proofs.Ythecphngpidiiaa
