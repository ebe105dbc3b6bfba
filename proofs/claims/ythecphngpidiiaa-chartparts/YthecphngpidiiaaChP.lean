/-
  The walk of daylaw5.ChartParts.
-/
import Derived.Test.YthecphngpidiiaaChP0
namespace Go.Proofs.Ythecphngpidiiaa
set_option linter.unusedVariables false
set_option linter.unusedSimpArgs false
set_option maxRecDepth 100000
open Go.RowKit Go.Lib Math

/-- Two accounts, the second one under the first. -/
def exC : Ac := ⟨⟨#[49]⟩, ⟨#[97]⟩, 1, ByteArray.empty, false⟩
def exD : Ac := ⟨⟨#[50]⟩, ⟨#[98]⟩, 1, ⟨#[49]⟩, false⟩
theorem exCD_bad : chBad [exC, exD] = 0 := by decide +kernel
theorem exCD_lvs : lvs [exC, exD] = [⟨#[50]⟩] := by decide +kernel

theorem exCD_sl (w : World) : IsSl (w.alloc (.cells #[.string ⟨#[49]⟩, .string ⟨#[97]⟩, .int .i64 1, .string ⟨#[]⟩, .bool false, .string ⟨#[50]⟩, .string ⟨#[98]⟩, .int .i64 1, .string ⟨#[49]⟩, .bool false] 29)) (some ⟨w.heap.size, 0, none⟩) [exC, exD] 2 := by
  refine ⟨by simp, .inr ⟨w.heap.size, 0, rfl, by simp, fun k hk => ?_⟩⟩
  have hk' : k = 0 ∨ k = 1 := by simp at hk; omega
  rcases hk' with rfl | rfl
  · exact ⟨by simp [exC], by simp [exC], by simp [exC], by simp [exC]; rfl, by simp [exC]⟩
  · exact ⟨by simp [exD], by simp [exD], by simp [exD], by simp [exD], by simp [exD]⟩

/-- All old blocks but one are as they were. -/
structure KeepBut (G : Nat) (W W' : World) : Prop where
  size : W.heap.size ≤ W'.heap.size
  block : ∀ b, b < W.heap.size → b ≠ G → W'.heap[b]? = W.heap[b]?

theorem KeepBut.refl (G : Nat) (W : World) : KeepBut G W W := ⟨Nat.le_refl _, fun _ _ _ => rfl⟩
theorem KeepBut.below {G : Nat} {W W' W'' : World} (h : KeepBut G W W') (hb : Below W'.heap.size W' W'') : KeepBut G W W'' :=
  ⟨Nat.le_trans h.size hb.size, fun b hlt hne => (hb.block b (by have := h.size; omega)).trans (h.block b hlt hne)⟩
theorem KeepBut.set {G : Nat} {W W' : World} (h : KeepBut G W W') (i : Nat) (v : Value) : KeepBut G W (W'.setCell ⟨G, i, none⟩ v) :=
  ⟨by have := h.size; simpa using this, fun b hlt hne => by rw [Below.heap_setCell _ _ _ b (fun e => hne e)]; exact h.block b hlt hne⟩
theorem KeepBut.cell {G : Nat} {W W' : World} (h : KeepBut G W W') {b o : Nat} {v : Value} (hc : W.cell? ⟨b, o, none⟩ = some v) (hne : b ≠ G) : W'.cell? ⟨b, o, none⟩ = some v :=
  (World.cell?_of_block (w := W) (a := ⟨b, o, none⟩) (h.block b (World.block_lt_of_cell? _ _ hc) hne)).trans hc

set_option maxHeartbeats 8000000 in
theorem parts_walk (a : Option Addr) (cap : Nat) (l : List Ac) (w : World) (h : IsSl w a l cap) :
    Calls Try.prog 4 #[.slice a l.length cap] w fun e w' => e = .returned (.bool true) ∧ Below w.heap.size w w' := by
  have C0 := leaves_ok (some ⟨w.heap.size, 0, none⟩) 2 [exC, exD] _ (exCD_sl w) exCD_bad
  rw [exCD_lvs] at C0
  have b0 : Below w.heap.size w (w.alloc (.cells #[.string ⟨#[49]⟩, .string ⟨#[97]⟩, .int .i64 1, .string ⟨#[]⟩, .bool false, .string ⟨#[50]⟩, .string ⟨#[98]⟩, .int .i64 1, .string ⟨#[49]⟩, .bool false] 29)) := (Below.refl _ w).alloc (Nat.le_refl _) _
  have HC0 : Hid (Calls _ _ _ _ _) := C0
  have HH : Hid (IsSl w a l cap) := h
  clear C0 h
  go_enter Try.func4, Try.ntmps4
  go_wp2_with fail
  refine HC0.out.mono ?_
  rintro e w1 ⟨v, rfl, row, hb1⟩
  have B1 := b0.trans (hb1.mono (by simp))
  obtain ⟨_, hnil⟩ | ⟨g1, cp1, rfl, _, _, _, hc1⟩ := row.form
  · cases hnil
  have c0 := hc1 0 (by simp)
  simp only [List.getD_cons_zero] at c0
  clear hc1 row hb1 HC0 b0
  by_cases h0 : chBad l = 0
  case neg =>
    have HL := leaves_bad a cap l w1 (HH.out.below B1) h0
    rw [chE_ne h0] at HL
    generalize chBad l = bad at *
    have HHL : Hid (Calls _ _ _ _ _) := HL
    clear HL HH
    go_wp2_with fail
    refine HHL.out.mono ?_
    rintro e w2 ⟨rfl, hb2⟩
    go_wp2
    go_ret
    exact ⟨rfl, B1.trans (hb2.mono B1.size)⟩
  have HL : Hid (Calls _ _ _ _ _) := leaves_ok a cap l w1 (HH.out.below B1) h0
  have hlen := chBad_len h0
  have Hlen : (l.length : Int) ≤ 60 := by omega
  have hmk := fun w => run_make_row' (P := Try.prog) 23 3 (.int .i64 0) 8 Try.underlying23 int_info rfl .i64 .i64 l.length (by omega) (by omega) w
  go_wp2_with fail
  refine HL.out.mono ?_
  rintro e w2 ⟨v5, rfl, row5, hb2⟩
  have B2 := B1.trans (hb2.mono B1.size)
  have hrow := irow_made w2 l.length
  have hz0 : List.replicate l.length (0 : Int) = rowJ l 0 0 := by
    rw [rowJ_zero]
    apply List.ext_getElem
    · simp
    · intro i h1 h2
      simp [cntI]
  rw [hz0] at hrow
  have B3 : Below w2.heap.size w2 (w2.alloc (.cells (madeCells #[.int .i64 0] l.length) 3)) := (Below.refl _ _).alloc (Nat.le_refl _) _
  have hlv : (lvs l).length ≤ 60 := by rw [← lfs_all]; have := lfs_le l l.length; omega
  have HV : Hid (∀ k, k < (lvs l).length → ∃ g5 c5, v5 = .slice (some ⟨g5, 0, none⟩) (lvs l).length c5 ∧ g5 < w2.heap.size ∧ w2.cell? ⟨g5, k, none⟩ = some (.string ((lvs l).getD k ByteArray.empty))) := fun k hk => by
    rcases row5.form with ⟨_, h1⟩ | ⟨g5, c5, rfl, _, hl5, _, hc⟩
    · rw [h1] at hk; simp at hk
    · exact ⟨g5, c5, rfl, hl5, hc k hk⟩
  have HV2 : ∃ a5 c5, v5 = .slice a5 (lvs l).length c5 := by
    rcases row5.form with ⟨e, h1⟩ | ⟨g5, c5, e, _⟩
    · exact ⟨none, 0, by rw [e, h1]; rfl⟩
    · exact ⟨_, c5, e⟩
  obtain ⟨a5, cap5, rfl⟩ := HV2
  have Hc : Hid (∀ W, Below w2.heap.size w2 W → ∀ k, k < l.length → ∃ b off, a = some ⟨b, off, none⟩ ∧ b < w2.heap.size ∧ AcAt W b (off + k * 5) (l.getD k ac0)) := fun W hW k hk => by
    rcases HH.out.lies with h | ⟨b, off, e, hlt, hc⟩
    · rw [h] at hk; simp at hk
    exact ⟨b, off, e, by have := B2.size; omega, (hc k hk).below (B2.trans (hW.mono B2.size)) hlt⟩
  have HS : Hid (∀ W, Below w2.heap.size w2 W → IsSl W a l cap) := fun W hW => HH.out.below (B2.trans (hW.mono B2.size))
  have H0 : Hid (chBad l = 0) := h0
  have Hlv : Hid ((lvs l).length = lfs l l.length) := (lfs_all l).symm
  clear HL HH hb2 row5 h0 c0 hz0
  go_wp2
  clear hmk
  go_loopw [8, 9] (fun s8 s9 wr => ∃ i : Nat, i ≤ l.length ∧ s9 = .int .i64 i ∧ s8 = .int .i64 (lfs l i : Nat) ∧ Hid (IRow wr w2.heap.size (rowJ l i 0) ∧ Below w2.heap.size w2 wr)) (fun _ s9 _ => l.length - (intOf s9).toNat)
  case atStart => exact ⟨0, Nat.zero_le _, rfl, rfl, hrow, B3⟩
  case round =>
    obtain ⟨i, hi, rfl, rfl, H⟩ := hrel
    obtain ⟨R, BW⟩ := H.out
    clear H
    by_cases hlt : i < l.length
    · obtain ⟨b, off, rfl, hbl, _⟩ := Hc.out wr BW i hlt
      have hG := irow_lt R
      have Hx : Hid (∀ W, Below w2.heap.size w2 W → AcAt W b (off + i * 5) (l.getD i ac0)) := fun W hW => by
        obtain ⟨b', off', e1, _, q1⟩ := Hc.out W hW i hlt
        cases e1
        exact q1
      have HU : Hid (Calls Try.prog 7 #[.slice (some ⟨b, off, none⟩) l.length cap, .string (l.getD i ac0).code] wr fun e w' => ∃ gu cu, e = .returned (.tuple #[.slice (some ⟨gu, 0, none⟩) (undL l i).length cu, .nilIface]) ∧ wr.heap.size ≤ gu ∧ (∀ j, j < (undL l i).length → w'.cell? ⟨gu, j, none⟩ = some (.string (l.getD ((undL l i).getD j 0) ac0).code)) ∧ Below wr.heap.size wr w') := by
        unfold Hid
        refine (chUnder_ok _ cap l _ wr (HS.out wr BW) (place_code H0.out hlt)).mono ?_
        rintro e w' ⟨v, rfl, row, hb⟩
        rw [undC_eq H0.out hlt] at row
        rcases row.form with ⟨_, h1⟩ | ⟨gu, cu, rfl, hgu, _, _, hc⟩
        · obtain ⟨r, hr⟩ := undL_head H0.out hlt
          rw [hr] at h1; simp at h1
        · rw [List.length_map] at hc ⊢
          refine ⟨gu, cu, rfl, hgu, fun j hj => ?_, hb⟩
          have e1 : (undL l i).getD j 0 = (undL l i)[j] := by rw [List.getD_eq_getElem?_getD, List.getElem?_eq_getElem hj]; rfl
          rw [hc j hj, e1, List.getD_eq_getElem?_getD, List.getElem?_map, List.getElem?_eq_getElem hj]
          rfl
      have HF : Hid (∀ W, Below w2.heap.size w2 W → ∀ t, t < l.length → Calls Try.prog 9 #[.slice (some ⟨b, off, none⟩) l.length cap, .string (l.getD t ac0).code] W fun e w' => e = .returned (.tuple #[.agg (l.getD t ac0).cells, .nilIface]) ∧ Below W.heap.size W w') := fun W hW t ht => by
        refine (chFind_any _ cap l _ W (HS.out W hW)).mono ?_
        rintro e w' ⟨rfl, hb⟩
        have e1 := place_code H0.out ht
        have e2 : findA l (l.getD t ac0).code = l.getD t ac0 := by unfold findA; rw [if_pos e1, idx_code H0.out ht]; rfl
        rw [e1, e2]
        exact ⟨rfl, hb⟩
      have HA : Hid (∀ W, Below w2.heap.size w2 W → ∀ t, t < l.length → Calls Try.prog 10 #[.slice (some ⟨b, off, none⟩) l.length cap, .string (l.getD t ac0).code] W fun e w' => e = .returned (.int .i64 (t : Nat)) ∧ w' = W) := fun W hW t ht => by
        refine (refAt_any _ cap l _ W (by omega) (HS.out W hW)).mono ?_
        rintro e w' ⟨rfl, rfl⟩
        rw [idx_code H0.out ht]
        exact ⟨rfl, rfl⟩
      have hm1 : 1 ≤ (undL l i).length := by obtain ⟨r, hr⟩ := undL_head H0.out hlt; rw [hr]; simp
      have hm2 : (undL l i).length ≤ 60 := by
        have := List.length_filter_le (isU l i) (List.range l.length)
        simp only [List.length_range] at this
        unfold undL
        omega
      have hleaf := leaf_iff H0.out hlt
      have hlfs := lfs_succ l i hlt
      have Hat : Hid (leafB l (l.getD i ac0) = true → lfs l i < (lvs l).length ∧ (lvs l).getD (lfs l i) ByteArray.empty = (l.getD i ac0).code) := fun h => lvs_at hlt h
      have HK : Hid (∀ j, j < (undL l i).length → (undL l i).getD j 0 < l.length ∧ (l.getD ((undL l i).getD j 0) ac0).kind = (l.getD i ac0).kind) := fun j hj => by
        obtain ⟨q1, q2⟩ := undL_get hj
        exact ⟨q1, isU_kind H0.out _ _ (Nat.lt_succ_self _) q1 q2⟩
      have hend := rowJ_end l i
      have HE : Hid (∀ j, j < (undL l i).length → isTop l i = true → (rowJ l i j).getD ((undL l i).getD j 0) 0 = cntI l i ((undL l i).getD j 0) ∧ (rowJ l i j).set ((undL l i).getD j 0) (cntI l i ((undL l i).getD j 0) + 1) = rowJ l i (j + 1)) := fun j hj ht => rowJ_step ht hj
      have htop : isTop l i = decide ((l.getD i ac0).par.size = 0) := rfl
      have Hend : Hid (rowJ l i (undL l i).length = rowJ l (i + 1) 0) := hend
      clear hend
      have HG : Hid (∀ j, (undL l i).getD j 0 = (undL l i).getD j 0) := fun j => rfl
      generalize hT : (fun j => (undL l i).getD j 0) = T at *
      have HT : ∀ j, (undL l i).getD j 0 = T j := fun j => by rw [← hT]
      simp only [HT] at HU HK HE
      clear HG hT HT
      generalize (undL l i).length = m at *
      have j0 : (0 : Int) ≤ i := by omega
      have j1 : (i : Int) < l.length := by omega
      have lf1 := lfs_le l i
      have HRr : Hid (IRow wr w2.heap.size (rowJ l i 0)) := R
      clear R
      generalize l.getD i ac0 = x at *
      obtain ⟨x0, x1, x2, x3, x4⟩ := x
      obtain ⟨c0, c1, c2, c3, c4⟩ := Hx.out wr BW
      simp only at c0 c1 c2 c3 c4 HU Hat HK htop
      have Htop : Hid (isTop l i = decide (x3.size = 0)) := htop
      have Hlfs : Hid (_ = _) := hlfs
      have Hleaf : Hid (_ ↔ _) := hleaf
      clear htop hlfs hleaf
      have mle : (m : Int) ≤ 60 := by omega
      have mne : ((m : Int) == 0) = false := by simp; omega
      go_wp2_with fail
      refine HU.out.mono ?_
      rintro e w5 ⟨gu, cu, rfl, hgu, hcu, hb5⟩
      have hgu2 : gu ≠ w2.heap.size := by omega
      have B5 := BW.trans (hb5.mono BW.size)
      have R5 : Hid (IRow w5 w2.heap.size (rowJ l i 0)) := irow_below HRr.out hb5 hG
      have Hcu : Hid (∀ j, j < m → w5.cell? ⟨gu, j, none⟩ = some (.string (l.getD (T j) ac0).code)) := hcu
      clear c0 c1 c2 c3 c4 hb5 hcu HRr HU
      obtain ⟨c0, c1, c2, c3, c4⟩ := Hx.out w5 B5
      simp only at c0 c1 c2 c3 c4
      cases hlf : leafB l ⟨x0, x1, x2, x3, x4⟩
      · have hone : ((m : Int) == 1) = false := by
          have := Hleaf.out
          rw [hlf] at this
          simp at this
          simp
          omega
        have hl2 : lfs l (i + 1) = lfs l i := by rw [Hlfs.out, hlf]; simp
        have Hl2 : Hid (lfs l (i + 1) = lfs l i) := hl2
        clear Hat Hleaf Hlfs hl2
        go_wp2
        go_loopw [12] (fun s12 wx => ∃ j : Nat, j ≤ m ∧ s12 = .int .i64 j ∧ Hid (IRow wx w2.heap.size (rowJ l i j) ∧ Below w2.heap.size w2 wx ∧ KeepBut w2.heap.size w5 wx)) (fun s12 _ => m - (intOf s12).toNat)
        case atStart => exact ⟨0, Nat.zero_le _, rfl, R5.out, B5, KeepBut.refl _ _⟩
        case round =>
          obtain ⟨j, hj, rfl, H⟩ := hrel
          obtain ⟨RX, BX, KX⟩ := H.out
          clear H
          by_cases hjm : j < m
          · have cj := KX.cell (Hcu.out j hjm) hgu2
            obtain ⟨ht, hkk⟩ := HK.out j hjm
            have hE := HE.out j hjm
            generalize T j = t at *
            have hF := HF.out wr BX t ht
            have hA := fun W hW => HA.out W hW t ht
            have hcb := cntI_bd l t i
            generalize cntI l i t = z at *
            generalize l.getD t ac0 = y at *
            obtain ⟨y0, y1, y2, y3, y4⟩ := y
            obtain rfl : y2 = x2 := hkk
            simp only [Ac.cells] at hF hA cj
            have HHF : Hid (Calls _ _ _ _ _) := hF
            have HHA : Hid (∀ W, _) := hA
            have HHE : Hid (isTop l i = true → _) := hE
            have HRX : Hid (IRow _ _ _) := RX
            have HKX : Hid (KeepBut _ _ _) := KX
            clear hF hA hE RX KX c0 c1 c2 c3 c4
            have t0 : (0 : Int) ≤ t := by omega
            have t1 : (t : Int) < l.length := by omega
            have k0 : (0 : Int) ≤ j := by omega
            have k1 : (j : Int) < m := by omega
            go_wp2_with fail
            refine HHF.out.mono ?_
            rintro e w6 ⟨rfl, hb6⟩
            have B6 := BX.trans (hb6.mono BX.size)
            have R6 := irow_below HRX.out hb6 (irow_lt HRX.out)
            have K6 := HKX.out.below hb6
            have B7 := B6.alloc B6.size (.cells #[.string y0, .string y1, .int .i64 y2, .string y3, .bool y4] 29)
            have R7 := irow_below R6 ((Below.refl w6.heap.size w6).alloc (Nat.le_refl _) (.cells #[.string y0, .string y1, .int .i64 y2, .string y3, .bool y4] 29)) (irow_lt R6)
            have K7 := K6.below ((Below.refl w6.heap.size w6).alloc (Nat.le_refl _) (.cells #[.string y0, .string y1, .int .i64 y2, .string y3, .bool y4] 29))
            obtain ⟨c0, c1, c2, c3, c4⟩ := Hx.out _ B7
            have cj7 : (w6.alloc (.cells #[.string y0, .string y1, .int .i64 y2, .string y3, .bool y4] 29)).cell? ⟨gu, j, none⟩ = some (.string y0) := (((Below.refl w6.heap.size w6).alloc (Nat.le_refl _) _).cell (p := ⟨gu, j, none⟩) (by have := World.block_lt_of_cell? _ _ cj; have := hb6.size; simp only at *; omega)).trans ((hb6.cell (p := ⟨gu, j, none⟩) (World.block_lt_of_cell? _ _ cj)).trans cj)
            simp only at c0 c1 c2 c3 c4
            have HR7 : Hid (IRow _ _ _) := R7
            have HK7 : Hid (KeepBut _ _ _) := K7
            have HB7 : Hid (Below _ _ _) := B7
            clear hb6 B6 R6 K6 HRX HKX HHF cj K7
            by_cases hp : x3.size = 0
            · have e0 := ch_empty hp
              have e0' : x3.toList.isEmpty = true := by rw [e0]; rfl
              have htt : isTop l i = true := by rw [Htop.out]; simp [hp]
              obtain ⟨r1, r2⟩ := HHE.out htt
              have rc := irow_cell R7 (i := t) (by rw [rowJ_len]; exact ht)
              have rf := irow_frozen R7 t
              rw [r1] at rc
              have Hset : Hid (∀ n, IRow (((w6.alloc (.cells #[.string y0, .string y1, .int .i64 y2, .string y3, .bool y4] 29)).drewN n).setCell ⟨w2.heap.size, t, none⟩ (.int .i64 (z + 1))) w2.heap.size (rowJ l i (j + 1))) := fun n => by
                have := irow_set (irow_below R7 (ch_drewN (Below.refl _ _) n) (irow_lt R7)) t (z + 1)
                rw [r2] at this
                exact this
              have hz0 : (0 : Int) ≤ z := hcb.1
              have hz1 : z ≤ 60 := by omega
              clear R7 HHE hcb r1 r2
              go_wp2_with fail
              go_quiet (fail)
              go_wp2_with fail
              refine (HHA.out _ (ch_drewN HB7.out _)).mono ?_
              rintro e w8 ⟨rfl, hw⟩
              rw [hw]; clear hw w8
              go_wp2
              go_roundw
              case rel => exact ⟨j + 1, by omega, by go_num, Hset.out _, (ch_drewN HB7.out _).setCell (p := ⟨w2.heap.size, t, none⟩) (Nat.le_refl _) _, (HK7.out.below (ch_drewN (Below.refl _ _) _)).set t _⟩
              case measure => simp [intOf]; omega
            · have e0 := ch_some hp
              have e0' : x3.toList.isEmpty = false := by simpa using e0
              have htt : isTop l i ≠ true := by rw [Htop.out]; simp [hp]
              have hsame := rowJ_same htt j (j + 1)
              have Hsame : Hid (_ = _) := hsame
              clear hsame R7 HHE hcb HHA
              go_wp2_with fail
              go_quiet (fail)
              go_wp2
              go_roundw
              case rel => exact ⟨j + 1, by omega, by go_num, by have := HR7.out; rw [Hsame.out] at this; exact this, ch_drewN HB7.out _, HK7.out.below (ch_drewN (Below.refl _ _) _)⟩
              case measure => simp [intOf]; omega
          · have hj2 : j = m := by omega
            subst hj2
            have HRX : Hid (IRow wr w2.heap.size (rowJ l (i + 1) 0)) := by
              unfold Hid
              rw [← Hend.out]
              exact RX
            clear RX
            go_wp2
            go_roundw
            case rel => exact ⟨i + 1, by omega, by go_num, by rw [Hl2.out], HRX.out, BX⟩
            case measure => simp [intOf]; omega
      · obtain ⟨q1, q2⟩ := Hat.out hlf
        obtain ⟨g5, c5, e5, hl5, q3⟩ := HV.out _ q1
        cases e5
        rw [q2] at q3
        have d5 : w5.cell? ⟨g5, lfs l i, none⟩ = some (.string x0) := (B5.cell (p := ⟨g5, lfs l i, none⟩) hl5).trans q3
        have hone : m = 1 := Hleaf.out.1 hlf
        have hl2 : lfs l (i + 1) = lfs l i + 1 := by rw [Hlfs.out, hlf]; simp
        have Hl2 : Hid (lfs l (i + 1) = lfs l i + 1) := hl2
        have q1' : (lfs l i : Int) < (lvs l).length := by omega
        have q0' : (0 : Int) ≤ (lfs l i : Int) := by omega
        have q4' : (lfs l i : Int) ≤ 60 := by omega
        have qge : decide ((lvs l).length ≤ lfs l i) = false := by simp; omega
        have hone' : ((m : Int) == 1) = true := by simp; omega
        clear Hat Hleaf Hlfs hl2 q2 q3 hone
        generalize lfs l i = cl at *
        go_wp2_with fail
        go_quiet (fail)
        go_wp2
        clear qge q1' q0' q4' d5 hone'
        go_loopw [12] (fun s12 wx => ∃ j : Nat, j ≤ m ∧ s12 = .int .i64 j ∧ Hid (IRow wx w2.heap.size (rowJ l i j) ∧ Below w2.heap.size w2 wx ∧ KeepBut w2.heap.size w5 wx)) (fun s12 _ => m - (intOf s12).toNat)
        case atStart => exact ⟨0, Nat.zero_le _, rfl, R5.out, ch_drewN B5 _, (KeepBut.refl _ _).below (ch_drewN (Below.refl _ _) _)⟩
        case round =>
          obtain ⟨j, hj, rfl, H⟩ := hrel
          obtain ⟨RX, BX, KX⟩ := H.out
          clear H
          by_cases hjm : j < m
          · have cj := KX.cell (Hcu.out j hjm) hgu2
            obtain ⟨ht, hkk⟩ := HK.out j hjm
            have hE := HE.out j hjm
            generalize T j = t at *
            have hF := HF.out wr BX t ht
            have hA := fun W hW => HA.out W hW t ht
            have hcb := cntI_bd l t i
            generalize cntI l i t = z at *
            generalize l.getD t ac0 = y at *
            obtain ⟨y0, y1, y2, y3, y4⟩ := y
            obtain rfl : y2 = x2 := hkk
            simp only [Ac.cells] at hF hA cj
            have HHF : Hid (Calls _ _ _ _ _) := hF
            have HHA : Hid (∀ W, _) := hA
            have HHE : Hid (isTop l i = true → _) := hE
            have HRX : Hid (IRow _ _ _) := RX
            have HKX : Hid (KeepBut _ _ _) := KX
            clear hF hA hE RX KX c0 c1 c2 c3 c4
            have t0 : (0 : Int) ≤ t := by omega
            have t1 : (t : Int) < l.length := by omega
            have k0 : (0 : Int) ≤ j := by omega
            have k1 : (j : Int) < m := by omega
            go_wp2_with fail
            refine HHF.out.mono ?_
            rintro e w6 ⟨rfl, hb6⟩
            have B6 := BX.trans (hb6.mono BX.size)
            have R6 := irow_below HRX.out hb6 (irow_lt HRX.out)
            have K6 := HKX.out.below hb6
            have B7 := B6.alloc B6.size (.cells #[.string y0, .string y1, .int .i64 y2, .string y3, .bool y4] 29)
            have R7 := irow_below R6 ((Below.refl w6.heap.size w6).alloc (Nat.le_refl _) (.cells #[.string y0, .string y1, .int .i64 y2, .string y3, .bool y4] 29)) (irow_lt R6)
            have K7 := K6.below ((Below.refl w6.heap.size w6).alloc (Nat.le_refl _) (.cells #[.string y0, .string y1, .int .i64 y2, .string y3, .bool y4] 29))
            obtain ⟨c0, c1, c2, c3, c4⟩ := Hx.out _ B7
            have cj7 : (w6.alloc (.cells #[.string y0, .string y1, .int .i64 y2, .string y3, .bool y4] 29)).cell? ⟨gu, j, none⟩ = some (.string y0) := (((Below.refl w6.heap.size w6).alloc (Nat.le_refl _) _).cell (p := ⟨gu, j, none⟩) (by have := World.block_lt_of_cell? _ _ cj; have := hb6.size; simp only at *; omega)).trans ((hb6.cell (p := ⟨gu, j, none⟩) (World.block_lt_of_cell? _ _ cj)).trans cj)
            simp only at c0 c1 c2 c3 c4
            have HR7 : Hid (IRow _ _ _) := R7
            have HK7 : Hid (KeepBut _ _ _) := K7
            have HB7 : Hid (Below _ _ _) := B7
            clear hb6 B6 R6 K6 HRX HKX HHF cj K7
            by_cases hp : x3.size = 0
            · have e0 := ch_empty hp
              have e0' : x3.toList.isEmpty = true := by rw [e0]; rfl
              have htt : isTop l i = true := by rw [Htop.out]; simp [hp]
              obtain ⟨r1, r2⟩ := HHE.out htt
              have rc := irow_cell R7 (i := t) (by rw [rowJ_len]; exact ht)
              have rf := irow_frozen R7 t
              rw [r1] at rc
              have Hset : Hid (∀ n, IRow (((w6.alloc (.cells #[.string y0, .string y1, .int .i64 y2, .string y3, .bool y4] 29)).drewN n).setCell ⟨w2.heap.size, t, none⟩ (.int .i64 (z + 1))) w2.heap.size (rowJ l i (j + 1))) := fun n => by
                have := irow_set (irow_below R7 (ch_drewN (Below.refl _ _) n) (irow_lt R7)) t (z + 1)
                rw [r2] at this
                exact this
              have hz0 : (0 : Int) ≤ z := hcb.1
              have hz1 : z ≤ 60 := by omega
              clear R7 HHE hcb r1 r2
              go_wp2_with fail
              go_quiet (fail)
              go_wp2_with fail
              refine (HHA.out _ (ch_drewN HB7.out _)).mono ?_
              rintro e w8 ⟨rfl, hw⟩
              rw [hw]; clear hw w8
              go_wp2
              go_roundw
              case rel => exact ⟨j + 1, by omega, by go_num, Hset.out _, (ch_drewN HB7.out _).setCell (p := ⟨w2.heap.size, t, none⟩) (Nat.le_refl _) _, (HK7.out.below (ch_drewN (Below.refl _ _) _)).set t _⟩
              case measure => simp [intOf]; omega
            · have e0 := ch_some hp
              have e0' : x3.toList.isEmpty = false := by simpa using e0
              have htt : isTop l i ≠ true := by rw [Htop.out]; simp [hp]
              have hsame := rowJ_same htt j (j + 1)
              have Hsame : Hid (_ = _) := hsame
              clear hsame R7 HHE hcb HHA
              go_wp2_with fail
              go_quiet (fail)
              go_wp2
              go_roundw
              case rel => exact ⟨j + 1, by omega, by go_num, by have := HR7.out; rw [Hsame.out] at this; exact this, ch_drewN HB7.out _, HK7.out.below (ch_drewN (Below.refl _ _) _)⟩
              case measure => simp [intOf]; omega
          · have hj2 : j = m := by omega
            subst hj2
            have HRX : Hid (IRow wr w2.heap.size (rowJ l (i + 1) 0)) := by
              unfold Hid
              rw [← Hend.out]
              exact RX
            clear RX
            go_wp2
            go_roundw
            case rel => exact ⟨i + 1, by omega, by go_num, by rw [Hl2.out]; go_num, HRX.out, BX⟩
            case measure => simp [intOf]; omega
    · have hk2 : i = l.length := by omega
      subst hk2
      have HR : Hid (IRow wr w2.heap.size (rowJ l l.length 0)) := R
      clear R hrow
      rw [← Hlv.out]
      go_wp2
      go_loop [15] (fun s15 => ∃ k : Nat, k ≤ l.length ∧ s15 = .int .i64 k) (fun s15 => l.length - (intOf s15).toNat)
      case atStart => exact ⟨0, Nat.zero_le _, rfl⟩
      case round =>
        obtain ⟨k, hk, rfl⟩ := hrel
        by_cases hkl : k < l.length
        · have rc := irow_cell HR.out (i := k) (by rw [rowJ_len]; exact hkl)
          have e1 : (rowJ l l.length 0).getD k 0 = 1 := by
            rw [rowJ_zero, List.getD_eq_getElem?_getD, List.getElem?_map, List.getElem?_range hkl]
            exact cntI_one H0.out hkl
          rw [e1] at rc
          have j0 : (0 : Int) ≤ k := by omega
          have j1 : (k : Int) < l.length := by omega
          go_wp2
          go_round
          case rel => exact ⟨k + 1, by omega, by go_num⟩
          case measure => simp [intOf]; omega
        · have hk3 : k = l.length := by omega
          subst hk3
          go_wp2
          go_ret
          exact ⟨by simp, B2.trans (BW.mono B2.size)⟩
end Go.Proofs.Ythecphngpidiiaa
