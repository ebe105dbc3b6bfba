/-
  The walk of daylaw1.ChartChecks where nothing is wrong with the chart.
-/
import Derived.Test.YtoipnafljmhceaaDoorChC3
namespace Go.Proofs.YtoipnafljmhceaaDoor
set_option linter.unusedVariables false
set_option linter.unusedSimpArgs false
set_option maxRecDepth 100000
open Go.RowKit

set_option maxHeartbeats 16000000 in
theorem checks_found (w : World) (a : Option Addr) (cap : Nat) (l : List Ac) (c : ByteArray) (Ee Fe : Value) (h : IsSl w a l cap) (h0 : chBad l = 0) (j : Nat) (hj : j < l.length) (K : CkC w a cap l c (txt (chTxt l l.length)) (lvs l) ((undL l j).map fun k => (l.getD k ac0).code) (l.getD j ac0) 0 0 Ee Fe) (C4 : ∀ W, Below w.heap.size w W → Calls Tryd.prog 8 #[.slice a l.length cap, .string c] W fun r w' => r = .returned (.int .i64 (j : Nat)) ∧ w' = W)
    (C1 : Calls Tryd.prog 4 #[.slice a l.length cap] w fun r w' => r = .returned (.int .i64 0) ∧ Below w.heap.size w w') (C2 : ∀ W, Below w.heap.size w W → Calls Tryd.prog 6 #[.slice a l.length cap] W fun r w' => r = .returned Ee ∧ Below W.heap.size W w') :
    Calls Tryd.prog 3 #[.slice a l.length cap, .string c] w fun e w' => e = .returned (.bool true) ∧ Below w.heap.size w w' := by
  have hlen := chBad_len h0
  have Hlen : (l.length : Int) ≤ 60 := by omega
  have C3 : Hid (∀ W, Below w.heap.size w W → Calls Tryd.prog 7 #[.slice a l.length cap] W fun r w' => r = .returned (.string (txt (chTxt l l.length))) ∧ Below W.heap.size W w') := fun W hW => refPrint_any a cap l W (h.below hW) h0
  have HLf : Hid (∀ W, Below w.heap.size w W → ∀ i, i < l.length → Calls Tryd.prog 9 #[.slice a l.length cap, .string (l.getD i ac0).code] W fun e w' => e = .returned (.int .i64 (if leafB l (l.getD i ac0) = true then 0 else 12)) ∧ w' = W) := fun W hW i hi => refLeaf_any a cap l i W (h.below hW) h0 hi
  have Hc : Hid (∀ W, Below w.heap.size w W → ∀ k, k < l.length → ∃ b off, a = some ⟨b, off, none⟩ ∧ AcAt W b (off + k * 5) (l.getD k ac0)) := fun W hW k hk => by
    rcases (h.below hW).lies with h | ⟨b, off, e, _, hc⟩
    · rw [h] at hk; simp at hk
    · exact ⟨b, off, e, hc k hk⟩
  have HIn : Hid (∀ W, Below w.heap.size w W → ∀ i, i < l.length → Calls Tryd.prog 10 #[.slice a l.length cap, .int .i64 (i : Nat), .int .i64 (j : Nat)] W fun e w' => e = .returned (.bool (isU l j i)) ∧ w' = W) := fun W hW i hi => refIn_any a cap l i j W (h.below hW) h0 hi
  have KH : Hid (CkC _ _ _ _ _ _ _ _ _ _ _ _ _) := K
  have HC1 : Hid (Calls _ _ _ _ _) := C1
  have HC2 : Hid (∀ W, _) := C2
  have HC4 : Hid (∀ W, _) := C4
  clear K C1 C2 C4 h h0
  generalize txt (chTxt l l.length) = T at *
  obtain ⟨i0, hi0, hz0, hz1, hz2⟩ := info_parts str_info
  go_enter Tryd.func3, Tryd.ntmps3
  go_wp2_with fail
  refine HC1.out.mono ?_
  rintro e w1 ⟨rfl, B1⟩
  go_wp2_with fail
  refine (HC2.out w1 B1).mono ?_
  rintro e w2 ⟨rfl, hb⟩
  have B2 := B1.trans (hb.mono B1.size)
  clear hb
  go_wp2_with fail
  refine (KH.out.err _ _ w2 KH.out.isE B2).mono ?_
  rintro e w3 ⟨rfl, hb⟩
  have B3 := B2.trans (hb.mono B2.size)
  have hs3 := B3.size
  clear hb
  have B4 := B3.alloc B3.size (.cells #[.string ⟨#[]⟩, .string ⟨#[]⟩, .int .i64 0, .string ⟨#[]⟩, .bool false] 30)
  have Y0 : Hid (AcAt (w3.alloc (.cells #[.string ⟨#[]⟩, .string ⟨#[]⟩, .int .i64 0, .string ⟨#[]⟩, .bool false] 30)) w3.heap.size 0 ⟨⟨#[]⟩, ⟨#[]⟩, 0, ⟨#[]⟩, false⟩) := AcAt.new w3 ⟨⟨#[]⟩, ⟨#[]⟩, 0, ⟨#[]⟩, false⟩ 30
  go_wp2_with fail
  refine (C3.out _ B4).mono ?_
  rintro e w5 ⟨rfl, hb⟩
  have B5 := B4.trans (hb.mono B4.size)
  have hs5 : w3.heap.size < w5.heap.size := by have := hb.size; simp at this; omega
  have Y5 : Hid (AcAt w5 w3.heap.size 0 ⟨⟨#[]⟩, ⟨#[]⟩, 0, ⟨#[]⟩, false⟩) := Y0.out.below hb (by simp)
  have hblk : w5.heap[w3.heap.size]? = some (.cells #[.string ⟨#[]⟩, .string ⟨#[]⟩, .int .i64 0, .string ⟨#[]⟩, .bool false] 30) := (hb.block w3.heap.size (by simp)).trans (World.alloc_heap_new w3 _)
  obtain ⟨b, off, rfl, hxj⟩ := Hc.out w5 B5 j hj
  have fz : ∀ i, w5.frozen? ⟨w3.heap.size, i, none⟩ = false := fun i => by simp [World.frozen?, hblk]
  have z0 := fz 0
  have z1 := fz 1
  have z2 := fz 2
  have z3 := fz 3
  have z4 := fz 4
  clear hb hblk fz Y0
  generalize hyy : l.getD j ac0 = yy at *
  clear hyy
  obtain ⟨y0, y1, y2, y3, y4⟩ := yy
  obtain ⟨x0, x1, x2, x3, x4⟩ := hxj
  obtain ⟨d0, d1, d2, d3, d4⟩ := Y5.out
  simp only [Nat.zero_add] at x0 x1 x2 x3 x4 d0 d1 d2 d3 d4
  have j0 : (0 : Int) ≤ j := by omega
  have j1 : (j : Int) < l.length := by omega
  have YY : Hid (AcAt (((((w5.setCell ⟨w3.heap.size, 0, none⟩ (.string y0)).setCell ⟨w3.heap.size, 1, none⟩ (.string y1)).setCell ⟨w3.heap.size, 2, none⟩ (.int .i64 y2)).setCell ⟨w3.heap.size, 3, none⟩ (.string y3)).setCell ⟨w3.heap.size, 4, none⟩ (.bool y4)) w3.heap.size 0 ⟨y0, y1, y2, y3, y4⟩) := ⟨by simp [go_sem, d0, d1, d2, d3, d4], by simp [go_sem, d0, d1, d2, d3, d4], by simp [go_sem, d0, d1, d2, d3, d4], by simp [go_sem, d0, d1, d2, d3, d4], by simp [go_sem, d0, d1, d2, d3, d4]⟩
  have B6 : Below w.heap.size w (((((w5.setCell ⟨w3.heap.size, 0, none⟩ (.string y0)).setCell ⟨w3.heap.size, 1, none⟩ (.string y1)).setCell ⟨w3.heap.size, 2, none⟩ (.int .i64 y2)).setCell ⟨w3.heap.size, 3, none⟩ (.string y3)).setCell ⟨w3.heap.size, 4, none⟩ (.bool y4)) := ((((B5.setCell (p := ⟨w3.heap.size, 0, none⟩) hs3 _).setCell (p := ⟨w3.heap.size, 1, none⟩) hs3 _).setCell (p := ⟨w3.heap.size, 2, none⟩) hs3 _).setCell (p := ⟨w3.heap.size, 3, none⟩) hs3 _).setCell (p := ⟨w3.heap.size, 4, none⟩) hs3 _
  go_wp2_with fail
  refine (HC4.out w5 B5).mono ?_
  rintro e w6 ⟨rfl, hw⟩
  rw [hw]; clear hw w6
  go_wp2
  generalize (((((w5.setCell ⟨w3.heap.size, 0, none⟩ (.string y0)).setCell ⟨w3.heap.size, 1, none⟩ (.string y1)).setCell ⟨w3.heap.size, 2, none⟩ (.int .i64 y2)).setCell ⟨w3.heap.size, 3, none⟩ (.string y3)).setCell ⟨w3.heap.size, 4, none⟩ (.bool y4)) = W0 at *
  clear x0 x1 x2 x3 x4 d0 d1 d2 d3 d4 z0 z1 z2 z3 z4
  go_loopw [8, 9, 13] (fun s8 s9 s13 wr => ∃ i : Nat, i ≤ l.length ∧ s13 = .int .i64 i ∧ Hid (Two W0.heap.size wr s8 s9 (((l.take i).filter (leafB l)).map Ac.code) (((List.range i).filter (isU l j)).map fun k => (l.getD k ac0).code) ∧ Below W0.heap.size W0 wr)) (fun _ _ s13 _ => l.length - (intOf s13).toNat)
  case atStart => exact ⟨0, Nat.zero_le _, rfl, ⟨World.ownsRow_nil _ _ _ _, World.ownsRow_nil _ _ _ _, fun b hb => by cases hb⟩, Below.refl _ _⟩
  case round =>
    obtain ⟨i, hi, rfl, H⟩ := hrel
    obtain ⟨TW, BX⟩ := H.out
    clear H
    have BW := B6.trans (BX.mono B6.size)
    have hsx := BX.size
    by_cases hlt : i < l.length
    · obtain ⟨b', off', hbo, hx⟩ := Hc.out wr BW i hlt
      cases hbo
      have hL := HLf.out wr BW i hlt
      have hst := lvs_step l i hlt
      have l8 : (((l.take i).filter (leafB l)).map Ac.code).length ≤ 60 := by
        rw [List.length_map]
        have := List.length_filter_le (leafB l) (l.take i)
        simp only [List.length_take] at this
        omega
      have Hx2 : Hid (∀ W, Below w.heap.size w W → AcAt W b (off + i * 5) (l.getD i ac0)) := fun W hW => by
        obtain ⟨b2, off2, e2, q⟩ := Hc.out W hW i hlt
        cases e2
        exact q
      have hIn := fun W hW => HIn.out W hW i hlt
      have hun : ((List.range (i + 1)).filter (isU l j)).map (fun k => (l.getD k ac0).code) = ((List.range i).filter (isU l j)).map (fun k => (l.getD k ac0).code) ++ if isU l j i = true then [(l.getD i ac0).code] else [] := by
        rw [List.range_succ, List.filter_append, List.map_append]
        congr 1
        by_cases hh : isU l j i = true
        · rw [if_pos hh, List.filter_cons_of_pos hh]; rfl
        · rw [if_neg hh, List.filter_cons_of_neg hh]; rfl
      have l9 : (((List.range i).filter (isU l j)).map (fun k => (l.getD k ac0).code)).length ≤ 60 := by
        rw [List.length_map]
        have := List.length_filter_le (isU l j) (List.range i)
        simp only [List.length_range] at this
        omega
      have Hun : Hid (_ = _) := hun
      have HIn2 : Hid (∀ W, _) := hIn
      clear hun hIn
      have Hst : Hid (_ = _) := hst
      have HLf2 : Hid (Calls _ _ _ _ _) := hL
      have HTW : Hid (Two _ _ _ _ _ _) := TW
      clear hst hL TW
      generalize ((l.take i).filter (leafB l)).map Ac.code = L8 at *
      generalize ((List.range i).filter (isU l j)).map (fun k => (l.getD k ac0).code) = U9 at *
      generalize l.getD i ac0 = q at *
      obtain ⟨q0, q1, q2, q3, q4⟩ := q
      obtain ⟨r0, r1, r2, r3, r4⟩ := hx
      simp only at r0 r1 r2 r3 r4 HLf2 Hst Hun
      have k0 : (0 : Int) ≤ i := by omega
      have k1 : (i : Int) < l.length := by omega
      cases hlf : leafB l ⟨q0, q1, q2, q3, q4⟩
      · have Hst2 : Hid (((l.take (i + 1)).filter (leafB l)).map Ac.code = L8) := by
          unfold Hid
          rw [Hst.out, hlf]
          simp
        rw [hlf] at HLf2
        simp only [Bool.false_eq_true, if_false] at HLf2
        go_wp2_with fail
        refine HLf2.out.mono ?_
        rintro e w' ⟨rfl, hw⟩
        rw [hw]; clear hw w' HLf2
        cases hu : isU l j i
        · rw [hu] at HIn2
          have eU : Hid (((List.range (i + 1)).filter (isU l j)).map (fun k => (l.getD k ac0).code) = U9) := by
            unfold Hid
            rw [Hun.out, hu]
            simp
          go_wp2_with fail
          refine (HIn2.out _ BW).mono ?_
          rintro e w' ⟨rfl, hw⟩
          rw [hw]; clear hw w' HIn2
          go_wp2
          go_roundw
          case rel => exact ⟨i + 1, by omega, by go_num, by rw [Hst2.out, eU.out]; exact HTW.out, BX⟩
          case measure => simp [intOf]; omega
        · rw [hu] at HIn2
          have eU : Hid (((List.range (i + 1)).filter (isU l j)).map (fun k => (l.getD k ac0).code) = U9 ++ [q0]) := by
            unfold Hid
            rw [Hun.out, hu]
            simp
          have HSw : Hid (Two _ _ _ _ _ _) := HTW.out.swap
          go_wp2_with fail
          refine (HIn2.out _ BW).mono ?_
          rintro e w' ⟨rfl, hw⟩
          rw [hw]; clear hw w' HIn2
          go_wp2_with (at_builtin; refine wpList_append_lies _ rfl _ _ 28 rfl W0.heap.size 9 i0 (.string ByteArray.empty) 1 16 Tryd.underlying28 hi0 hz0 hz1 hz2 rfl (by decide) _ _ _ rfl (HSw.out.alloc (.cells #[.string q0] 9)).r8 ⟨wr.heap.size, 0, none⟩ 1 1 [.string q0] rfl rfl (cell_one_new _ _ _) ?c2 (by decide) ?c3 ?c4 ?c5 (wr.heap.size + 1) ?c6 ?_)
          case c2 => intro u hu; simp at hu; subst hu; rfl
          case c3 => unfold maxLen; omega
          case c4 => omega
          case c5 => simp; omega
          case c6 => simp
          intro g' cap' w8 hown hgrow hat hlt2
          have hob := TxtRow.own HSw.out.r8
          have Bw8 : Below W0.heap.size W0 w8 := (BX.alloc hsx (.cells #[.string q0] 9)).grown hgrow (by simp; omega) (fun j ej => hob j ej)
          have TZ : Hid (Two W0.heap.size w8 _ _ _ _) := ((HSw.out.alloc (.cells #[.string q0] 9)).app (L' := U9 ++ [q0]) (g' := g') (c' := cap') (by unfold TxtRow; simpa using hown) hgrow (by simpa using hat)).swap
          clear hown hgrow hat hob HSw
          go_wp2
          go_roundw
          case rel => exact ⟨i + 1, by omega, by go_num, by rw [Hst2.out, eU.out]; simpa using TZ.out, Bw8⟩
          case measure => simp [intOf]; omega
      · have Hst2 : Hid (((l.take (i + 1)).filter (leafB l)).map Ac.code = L8 ++ [q0]) := by
          unfold Hid
          rw [Hst.out, hlf]
          simp
        rw [hlf] at HLf2
        simp only [if_true] at HLf2
        go_wp2_with fail
        refine HLf2.out.mono ?_
        rintro e w' ⟨rfl, hw⟩
        rw [hw]; clear hw w' HLf2
        go_wp2_with (at_builtin; refine wpList_append_lies _ rfl _ _ 28 rfl W0.heap.size 9 i0 (.string ByteArray.empty) 1 16 Tryd.underlying28 hi0 hz0 hz1 hz2 rfl (by decide) _ _ _ rfl (HTW.out.alloc (.cells #[.string q0] 9)).r8 ⟨wr.heap.size, 0, none⟩ 1 1 [.string q0] rfl rfl (cell_one_new _ _ _) ?c2 (by decide) ?c3 ?c4 ?c5 (wr.heap.size + 1) ?c6 ?_)
        case c2 => intro u hu; simp at hu; subst hu; rfl
        case c3 => unfold maxLen; omega
        case c4 => omega
        case c5 => simp; omega
        case c6 => simp
        intro g' cap' w7 hown hgrow hat hlt2
        have hob := TxtRow.own HTW.out.r8
        have Bw7 : Below W0.heap.size W0 w7 := (BX.alloc hsx (.cells #[.string q0] 9)).grown hgrow (by simp; omega) (fun j ej => hob j ej)
        have TY : Hid (Two W0.heap.size w7 _ _ _ _) := (HTW.out.alloc (.cells #[.string q0] 9)).app (L' := L8 ++ [q0]) (g' := g') (c' := cap') (by unfold TxtRow; simpa using hown) hgrow (by simpa using hat)
        have hs7 := Bw7.size
        have BW7 := B6.trans (Bw7.mono B6.size)
        clear hown hgrow hat hob HTW r0 r1 r2 r3 r4
        obtain ⟨r0, r1, r2, r3, r4⟩ := Hx2.out w7 BW7
        simp only at r0 r1 r2 r3 r4
        rw [show (L8 ++ [q0]).length = L8.length + 1 by simp] at TY
        cases hu : isU l j i
        · rw [hu] at HIn2
          have eU : Hid (((List.range (i + 1)).filter (isU l j)).map (fun k => (l.getD k ac0).code) = U9) := by
            unfold Hid
            rw [Hun.out, hu]
            simp
          go_wp2_with fail
          refine (HIn2.out _ BW7).mono ?_
          rintro e w' ⟨rfl, hw⟩
          rw [hw]; clear hw w' HIn2
          go_wp2
          go_roundw
          case rel => exact ⟨i + 1, by omega, by go_num, by rw [Hst2.out, eU.out]; exact TY.out, Bw7⟩
          case measure => simp [intOf]; omega
        · rw [hu] at HIn2
          have eU : Hid (((List.range (i + 1)).filter (isU l j)).map (fun k => (l.getD k ac0).code) = U9 ++ [q0]) := by
            unfold Hid
            rw [Hun.out, hu]
            simp
          have HSw : Hid (Two _ _ _ _ _ _) := TY.out.swap
          go_wp2_with fail
          refine (HIn2.out _ BW7).mono ?_
          rintro e w' ⟨rfl, hw⟩
          rw [hw]; clear hw w' HIn2
          go_wp2_with (at_builtin; refine wpList_append_lies _ rfl _ _ 28 rfl W0.heap.size 9 i0 (.string ByteArray.empty) 1 16 Tryd.underlying28 hi0 hz0 hz1 hz2 rfl (by decide) _ _ _ rfl (HSw.out.alloc (.cells #[.string q0] 9)).r8 ⟨w7.heap.size, 0, none⟩ 1 1 [.string q0] rfl rfl (cell_one_new _ _ _) ?c2 (by decide) ?c3 ?c4 ?c5 (w7.heap.size + 1) ?c6 ?_)
          case c2 => intro u hu; simp at hu; subst hu; rfl
          case c3 => unfold maxLen; omega
          case c4 => omega
          case c5 => simp; omega
          case c6 => simp
          intro g' cap' w8 hown hgrow hat hlt2
          have hob := TxtRow.own HSw.out.r8
          have Bw8 : Below W0.heap.size W0 w8 := (Bw7.alloc hs7 (.cells #[.string q0] 9)).grown hgrow (by simp; omega) (fun j ej => hob j ej)
          have TZ : Hid (Two W0.heap.size w8 _ _ _ _) := ((HSw.out.alloc (.cells #[.string q0] 9)).app (L' := U9 ++ [q0]) (g' := g') (c' := cap') (by unfold TxtRow; simpa using hown) hgrow (by simpa using hat)).swap
          clear hown hgrow hat hob HSw
          go_wp2
          go_roundw
          case rel => exact ⟨i + 1, by omega, by go_num, by rw [Hst2.out, eU.out]; simpa using TZ.out, Bw8⟩
          case measure => simp [intOf]; omega
    · have hk2 : i = l.length := by omega
      subst hk2
      have t8 := TW.r8
      rw [List.take_length] at t8
      have T8 : Hid (TxtRow wr W0.heap.size _ (lvs l)) := t8
      clear t8
      have T9 : Hid (TxtRow wr W0.heap.size _ _) := TW.r9
      have Y : Hid (AcAt wr w3.heap.size 0 _) := YY.out.below BX (World.block_lt_of_cell? _ _ YY.out.c0)
      clear TW BX YY B6 B5
      have T9 : Hid (TxtRow wr W0.heap.size _ ((undL l j).map fun k => (l.getD k ac0).code)) := T9
      go_wp2_with fail
      refine (KH.out.print _ BW).mono ?_
      rintro e w20 ⟨rfl, hb⟩
      have B20 := BW.trans (hb.mono BW.size)
      have T8 : Hid (TxtRow w20 _ _ _) := TxtRow.below T8.out hb
      have T9 : Hid (TxtRow w20 _ _ _) := TxtRow.below T9.out hb
      have Y : Hid (AcAt w20 _ 0 _) := Y.out.below hb (World.block_lt_of_cell? _ _ Y.out.c0)
      clear hb
      go_wp2_with fail
      refine (KH.out.err _ _ w20 KH.out.isE B20).mono ?_
      rintro e w21 ⟨rfl, hb⟩
      have B21 := B20.trans (hb.mono B20.size)
      have T8 : Hid (TxtRow w21 _ _ _) := TxtRow.below T8.out hb
      have T9 : Hid (TxtRow w21 _ _ _) := TxtRow.below T9.out hb
      have Y : Hid (AcAt w21 _ 0 _) := Y.out.below hb (World.block_lt_of_cell? _ _ Y.out.c0)
      clear hb
      go_wp2_with fail
      refine (KH.out.leaves w21 B21).mono ?_
      rintro e w22 ⟨vL, rfl, rL, hb⟩
      have B22 := B21.trans (hb.mono B21.size)
      have T8 : Hid (TxtRow w22 _ _ _) := TxtRow.below T8.out hb
      have T9 : Hid (TxtRow w22 _ _ _) := TxtRow.below T9.out hb
      have Y : Hid (AcAt w22 _ 0 _) := Y.out.below hb (World.block_lt_of_cell? _ _ Y.out.c0)
      have RL : Hid (TxtRow w22 _ _ _) := rL
      clear hb rL
      go_wp2_with fail
      refine (KH.out.err _ _ w22 KH.out.isE B22).mono ?_
      rintro e w23 ⟨rfl, hb⟩
      have B23 := B22.trans (hb.mono B22.size)
      have T8 : Hid (TxtRow w23 _ _ _) := TxtRow.below T8.out hb
      have T9 : Hid (TxtRow w23 _ _ _) := TxtRow.below T9.out hb
      have RL : Hid (TxtRow w23 _ _ _) := TxtRow.below RL.out hb
      have Y : Hid (AcAt w23 _ 0 _) := Y.out.below hb (World.block_lt_of_cell? _ _ Y.out.c0)
      clear hb
      have HF := KH.out.find w23 B23
      simp only [Ac.cells] at HF
      go_wp2_with fail
      refine (HF).mono ?_
      rintro e w24 ⟨rfl, hb⟩
      have B24 := B23.trans (hb.mono B23.size)
      have T8 : Hid (TxtRow w24 _ _ _) := TxtRow.below T8.out hb
      have T9 : Hid (TxtRow w24 _ _ _) := TxtRow.below T9.out hb
      have RL : Hid (TxtRow w24 _ _ _) := TxtRow.below RL.out hb
      have Y : Hid (AcAt w24 _ 0 _) := Y.out.below hb (World.block_lt_of_cell? _ _ Y.out.c0)
      clear hb
      have hb := (Below.refl w24.heap.size w24).alloc (Nat.le_refl _) (.cells #[.string y0, .string y1, .int .i64 y2, .string y3, .bool y4] 30)
      have B25 := B24.trans (hb.mono B24.size)
      have X : Hid (AcAt (w24.alloc (.cells #[.string y0, .string y1, .int .i64 y2, .string y3, .bool y4] 30)) w24.heap.size 0 ⟨y0, y1, y2, y3, y4⟩) := AcAt.new w24 ⟨y0, y1, y2, y3, y4⟩ 30
      have T8 : Hid (TxtRow _ _ _ _) := TxtRow.below T8.out hb
      have T9 : Hid (TxtRow _ _ _ _) := TxtRow.below T9.out hb
      have RL : Hid (TxtRow _ _ _ _) := TxtRow.below RL.out hb
      have Y : Hid (AcAt _ _ 0 _) := Y.out.below hb (World.block_lt_of_cell? _ _ Y.out.c0)
      clear hb
      go_wp2_with fail
      refine (KH.out.err _ _ _ KH.out.isF B25).mono ?_
      rintro e w26 ⟨rfl, hb⟩
      have B26 := B25.trans (hb.mono B25.size)
      have T8 : Hid (TxtRow w26 _ _ _) := TxtRow.below T8.out hb
      have T9 : Hid (TxtRow w26 _ _ _) := TxtRow.below T9.out hb
      have RL : Hid (TxtRow w26 _ _ _) := TxtRow.below RL.out hb
      have Y : Hid (AcAt w26 _ 0 _) := Y.out.below hb (World.block_lt_of_cell? _ _ Y.out.c0)
      have X : Hid (AcAt w26 w24.heap.size 0 _) := X.out.below hb (World.block_lt_of_cell? _ _ X.out.c0)
      clear hb
      go_wp2_with fail
      refine (KH.out.under w26 B26).mono ?_
      rintro e w27 ⟨vU, rfl, rU, hb⟩
      have B27 := B26.trans (hb.mono B26.size)
      have T8 : Hid (TxtRow w27 _ _ _) := TxtRow.below T8.out hb
      have T9 : Hid (TxtRow w27 _ _ _) := TxtRow.below T9.out hb
      have RL : Hid (TxtRow w27 _ _ _) := TxtRow.below RL.out hb
      have Y : Hid (AcAt w27 _ 0 _) := Y.out.below hb (World.block_lt_of_cell? _ _ Y.out.c0)
      have X : Hid (AcAt w27 w24.heap.size 0 _) := X.out.below hb (World.block_lt_of_cell? _ _ X.out.c0)
      have RU : Hid (TxtRow w27 _ _ _) := rU
      clear hb rU
      go_wp2_with fail
      refine (KH.out.err _ _ w27 KH.out.isF B27).mono ?_
      rintro e w28 ⟨rfl, hb⟩
      have B28 := B27.trans (hb.mono B27.size)
      have T8 : Hid (TxtRow w28 _ _ _) := TxtRow.below T8.out hb
      have T9 : Hid (TxtRow w28 _ _ _) := TxtRow.below T9.out hb
      have RL : Hid (TxtRow w28 _ _ _) := TxtRow.below RL.out hb
      have RU : Hid (TxtRow w28 _ _ _) := TxtRow.below RU.out hb
      have Y : Hid (AcAt w28 _ 0 _) := Y.out.below hb (World.block_lt_of_cell? _ _ Y.out.c0)
      have X : Hid (AcAt w28 w24.heap.size 0 _) := X.out.below hb (World.block_lt_of_cell? _ _ X.out.c0)
      clear hb
      go_wp2_with fail
      refine (sameTexts_any _ _ _ _ _ w28 (by have := KH.out.lenL; omega) RL.out T8.out).mono ?_
      rintro e w29 ⟨rfl, hb⟩
      have B29 := B28.trans (hb.mono B28.size)
      have T8 : Hid (TxtRow w29 _ _ _) := TxtRow.below T8.out hb
      have T9 : Hid (TxtRow w29 _ _ _) := TxtRow.below T9.out hb
      have RL : Hid (TxtRow w29 _ _ _) := TxtRow.below RL.out hb
      have RU : Hid (TxtRow w29 _ _ _) := TxtRow.below RU.out hb
      have Y : Hid (AcAt w29 _ 0 _) := Y.out.below hb (World.block_lt_of_cell? _ _ Y.out.c0)
      have X : Hid (AcAt w29 w24.heap.size 0 _) := X.out.below hb (World.block_lt_of_cell? _ _ X.out.c0)
      clear hb
      go_wp2_with fail
      refine (sameTexts_any _ _ _ _ _ w29 (by have := KH.out.lenU; omega) RU.out T9.out).mono ?_
      rintro e w30 ⟨rfl, hb⟩
      have B30 := B29.trans (hb.mono B29.size)
      have Y : Hid (AcAt w30 _ 0 _) := Y.out.below hb (World.block_lt_of_cell? _ _ Y.out.c0)
      have X : Hid (AcAt w30 w24.heap.size 0 _) := X.out.below hb (World.block_lt_of_cell? _ _ X.out.c0)
      clear hb
      obtain ⟨g0, g1, g2, g3, g4⟩ := X.out
      obtain ⟨f0, f1, f2, f3, f4⟩ := Y.out
      simp only [Nat.zero_add] at g0 g1 g2 g3 g4 f0 f1 f2 f3 f4
      clear KH T8 T9 RL RU X Y
      have q1 := acct_same y0 y1 y2 y3 y4
      have q3 := acct_guard
      go_wp2
      go_ret
      exact ⟨by simp, B30⟩
end Go.Proofs.YtoipnafljmhceaaDoor
