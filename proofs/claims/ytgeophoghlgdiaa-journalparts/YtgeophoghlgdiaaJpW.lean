/-
  daylaw5.JournalParts, walked.
-/
import Derived.Test.YtgeophoghlgdiaaJpN
import Derived.Deep.QuietTactic
import Derived.BigQuiet
import Derived.Deep.CutBlock
namespace Go.Proofs.Ytgeophoghlgdiaa
set_option linter.unusedVariables false
set_option linter.unusedSimpArgs false
set_option maxRecDepth 100000
open Go.RowKit Go.Lib

theorem jcalls {c : List Ac} {n0 bj bm : Nat} {es : List Je} {W : World} (h : JSt c n0 bj bm es W) (hlen : es.length ≤ 200) :
    (∀ en pe, Calls Try.prog 8 #[.pointer (some ⟨bj, 0, none⟩), .int .i64 en, .int .i64 pe] W fun e w' => ∃ u, e = .returned u ∧ NsRow w' W.heap.size u (ofL es en pe es.length) ∧ Below W.heap.size W w') ∧
    (Calls Try.prog 9 #[.pointer (some ⟨bj, 0, none⟩)] W fun e w' => e = .returned (.int .i64 (es.length : Int)) ∧ w' = W) ∧
    (∀ k : Nat, k < es.length → Calls Try.prog 10 #[.pointer (some ⟨bj, 0, none⟩), .int .i64 (k : Int)] W fun e w' => ∃ a' cap', e = .returned (.tuple #[.agg #[.string (es.getD k je0).ref, .int .i64 (es.getD k je0).ent, .int .i64 (es.getD k je0).per, .slice a' (es.getD k je0).lns.length cap'], .nilIface]) ∧ LnRow w' W.heap.size (.slice a' (es.getD k je0).lns.length cap') (es.getD k je0).lns ∧ Below W.heap.size W w') := by
  obtain ⟨⟨v, j⟩, g⟩ := h
  exact ⟨fun en pe => jof_any j hlen en pe, jlen_any j, fun k hk => jat_ok j hlen k hk (g.lns (jes_mem es k hk)).1 (g.lns (jes_mem es k hk)).2⟩

set_option maxHeartbeats 8000000 in
theorem jparts_any (ca : Option Addr) (cc : Nat) (c : List Ac) (a : Option Addr) (cap : Nat) (L : List Je) (w : World) (hlen : L.length ≤ maxLen) (hc : IsSl w ca c cc) (h : IsJs w a L cap) :
    Calls Try.prog 3 #[.slice ca c.length cc, .slice a L.length cap] w fun e w' => e = .returned (.bool true) ∧ Below w.heap.size w w' := by
  have HN : Hid (∀ W, Calls Try.prog 4 #[] W fun e w' => e = .returned (.pointer (some ⟨W.heap.size + 1, 0, none⟩)) ∧ JAt w' W.heap.size (W.heap.size + 1) W.heap.size (.slice none 0 0) [] ∧ Below W.heap.size W w' ∧ w'.heap.size = W.heap.size + 2) := jnew_any
  have hL' : (L.length : Int) ≤ 9223372036854775807 := by unfold maxLen at hlen; omega
  have HL : Hid (IsJs w a L cap) := h
  have Hc : Hid (IsSl w ca c cc) := hc
  clear h hc hlen
  go_enter Try.func3, Try.ntmps3
  go_wp2_with fail
  refine (HN.out w).mono ?_
  rintro e w1 ⟨rfl, j1, b1, -⟩
  have HA : Hid (Calls _ _ _ w1 _) := accounts_any w1
  have Hj1 : Hid (JAt w1 _ _ _ _ _) := j1
  have Hb1 : Hid (Below w.heap.size w w1) := b1
  clear j1 b1
  go_wp2_with fail
  refine HA.out.mono ?_
  rintro e w2 ⟨rfl, k2, b2⟩
  have HT : Hid (Calls _ _ _ w2 _) := jtwo_any ⟨#[97]⟩ 1 1 ⟨#[49, 48]⟩ ⟨#[50, 48]⟩ 5 w2 (by decide)
  have Hk2 : Hid (IsSl w2 _ _ _) := k2
  have Hb2 : Hid (Below w1.heap.size w1 w2) := b2
  clear HA k2 b2
  go_wp2_with fail
  refine HT.out.mono ?_
  rintro e w3 ⟨a3, c3, rfl, l3, b3⟩
  have J3 := (Hj1.out.below Hb2.out).below b3
  have HP : Hid (Calls Try.prog 5 #[.pointer (some ⟨w.heap.size + 1, 0, none⟩), .slice (some ⟨w1.heap.size, 0, none⟩) 5 5, .agg #[.string ⟨#[97]⟩, .int .i64 1, .int .i64 1, .slice a3 2 c3]] w3 fun e w' => e = .returned (.tuple #[.int .i64 0, .nilIface]) ∧ ∃ x : Value × Option Addr × Nat, JAt w' w.heap.size (w.heap.size + 1) w.heap.size x.1 [⟨⟨#[97]⟩, 1, 1, x.2.1, x.2.2, [⟨⟨#[49, 48]⟩, ⟨#[69, 85, 82]⟩, 5⟩, ⟨⟨#[50, 48]⟩, ⟨#[69, 85, 82]⟩, -5⟩]⟩] ∧ Below w.heap.size w3 w') := by
    refine (post_ok J3 _ 5 jC ⟨#[97]⟩ 1 1 a3 c3 _ (Hk2.out.below b3) l3 (pBad_zero.2 ⟨jfact_ok, rfl, by decide⟩)).mono ?_
    rintro e w4 ⟨rfl, g4, cp4, a4, cap4, j4, k4, _⟩
    exact ⟨rfl, ⟨_, a4, cap4⟩, j4, k4.below J3⟩
  have Hb3 : Hid (Below w.heap.size w w3) := (Hb1.out.trans (Hb2.out.mono Hb1.out.size)).trans (b3.mono (by have := Hb1.out.size; have := Hb2.out.size; omega))
  clear HT l3 b3 J3 Hk2 Hb2 Hb1 Hj1
  go_wp2_with fail
  refine HP.out.mono ?_
  rintro e w4 ⟨rfl, ⟨v4, a4, cap4⟩, j4, hb4⟩
  have Hb4 : Hid (Below w.heap.size w w4) := Hb3.out.trans hb4
  have HO : Hid (Calls _ _ _ w4 _) := jof_any j4 (by simp) 1 1
  clear HP j4 hb4 Hb3
  go_wp2_with fail
  refine HO.out.mono ?_
  rintro e w5 ⟨u5, rfl, r5, b5⟩
  obtain ⟨a5, c5, hu5⟩ := r5.shape
  have hl5 : (ofL [Je.mk ⟨#[97]⟩ 1 1 a4 cap4 [⟨⟨#[49, 48]⟩, ⟨#[69, 85, 82]⟩, 5⟩, ⟨⟨#[50, 48]⟩, ⟨#[69, 85, 82]⟩, -5⟩]] 1 1 1).length = 1 := rfl
  have hu5' : u5 = .slice a5 1 c5 := hu5
  subst hu5'
  have Hb5 : Hid (Below w.heap.size w w5) := Hb4.out.trans (b5.mono Hb4.out.size)
  clear HO r5 b5 Hb4 hu5 hl5
  go_wp2_with fail
  refine (HN.out w5).mono ?_
  rintro e w6 ⟨rfl, j6, b6, -⟩
  have Hb6 : Hid (Below w.heap.size w w6) := Hb5.out.trans (b6.mono Hb5.out.size)
  have hn6 : w.heap.size ≤ w5.heap.size := Hb5.out.size
  have HS6 : Hid (JSt c w5.heap.size (w5.heap.size + 1) w5.heap.size [] w6) := ⟨⟨_, j6⟩, JGood.nil c⟩
  clear HN j6 b6 Hb5
  generalize w5.heap.size = n5 at *
  go_upto_block 0 with fail
  go_cut [9] from 20 (fun _ wx => Hid (∃ es, es.length ≤ 60 ∧ JSt c n5 (n5 + 1) n5 es wx) ∧ Hid (Below w.heap.size w wx))
  case first =>
    go_wp2_with fail
    go_loopw [9] (fun i wr => ∃ k : Nat, k ≤ L.length ∧ k ≤ 60 ∧ i = .int .i64 k ∧ Hid (∃ es, es.length ≤ k ∧ JSt c n5 (n5 + 1) n5 es wr) ∧ Hid (Below w.heap.size w wr)) (fun i _ => 60 - (intOf i).toNat)
    case atStart => exact ⟨0, Nat.zero_le _, Nat.zero_le _, rfl, ⟨[], Nat.le_refl _, HS6.out⟩, Hb6.out⟩
    case round =>
      obtain ⟨k, hk1, hk60, rfl, HE, HB⟩ := hrel
      have HE60 : Hid (∃ es, es.length ≤ 60 ∧ JSt c n5 (n5 + 1) n5 es wr) := by
        obtain ⟨es, h1, h2⟩ := HE.out
        exact ⟨es, by omega, h2⟩
      by_cases hlt : k < L.length
      · by_cases h60 : k < 60
        · obtain ⟨es, hes, hst⟩ := HE.out
          rcases HL.out.lies with h0 | ⟨gb, go, rfl, hgb, hgc⟩
          · rw [h0] at hlt; simp at hlt
          obtain ⟨d0, d1, d2, d3⟩ := (hgc k hlt).below HB.out hgb
          have hln := (HL.out.lns _ (jes_mem L k hlt)).below HB.out
          have HP : Hid (Calls _ _ _ wr _) := jpost_step hst (by omega) ca cc (L.getD k je0) (Hc.out.below HB.out) hln
          generalize L.getD k je0 = x at *
          obtain ⟨xr, xe, xp, xa, xc, xl⟩ := x
          simp only at d0 d1 d2 d3 HP
          have q0 : (0 : Int) ≤ k := by omega
          have q1 : (k : Int) < L.length := by omega
          have q2 : (k : Int) < 60 := by omega
          clear hgc hln hst HE60
          go_wp2_with fail
          refine HP.out.mono ?_
          rintro e w7 ⟨n7, es', rfl, st7, hl7, b7⟩
          have HE7 : Hid (∃ es, es.length ≤ k + 1 ∧ JSt c n5 (n5 + 1) n5 es w7) := ⟨es', by omega, st7⟩
          have HB7 : Hid (Below w.heap.size w w7) := HB.out.trans (b7.mono hn6)
          clear HP st7 b7 HE HB d0 d1 d2 d3
          go_wp2
          go_roundw
          case rel => exact ⟨k + 1, by omega, by omega, by go_num, HE7, HB7⟩
          case measure => simp [intOf]; omega
        · have q1 : (k : Int) < L.length := by omega
          have q2 : ¬ (k : Int) < 60 := by omega
          clear HE
          go_wp2
          go_meet
          case rel => exact ⟨HE60, HB⟩
      · have q1 : ¬ (k : Int) < L.length := by omega
        clear HE
        go_wp2
        go_meet
        case rel => exact ⟨HE60, HB⟩
  case rest =>
    obtain ⟨HE, HB⟩ := hcut
    obtain ⟨es, hes, hst⟩ := HE.out
    have Hst : Hid (JSt c n5 (n5 + 1) n5 es wc) := hst
    have HO : Hid (Calls _ _ _ wc _) := (jcalls hst (by omega)).1 0 0
    have hes' : (es.length : Int) ≤ 60 := by omega
    clear hst HE HS6 Hb6 HL Hc
    go_wp2_with fail
    refine HO.out.mono ?_
    rintro e w8 ⟨u8, rfl, r8, b8⟩
    obtain ⟨a8, c8, rfl⟩ := r8.shape
    have Hst8 : Hid (JSt c n5 (n5 + 1) n5 es w8) := Hst.out.below b8
    have HB8 : Hid (Below w.heap.size w w8) := HB.out.trans (b8.mono HB.out.size)
    have HLn : Hid (Calls _ _ _ w8 _) := (jcalls Hst8.out (by omega)).2.1
    rw [ofL_all]
    clear HO r8 b8 Hst HB
    go_wp2_with fail
    refine HLn.out.mono ?_
    rintro e w9 ⟨rfl, hw⟩
    rw [hw]; clear hw w9 HLn
    go_wp2
    go_loopw [11, 12] (fun cv ev wr => ∃ m : Nat, m ≤ 12 ∧ cv = .int .i64 ((cntE es m es.length : Nat) : Int) ∧ ev = .int .i64 ((m : Int) + 1) ∧ Below w8.heap.size w8 wr) (fun _ ev _ => 13 - (intOf ev).toNat)
    case atStart => exact ⟨0, Nat.zero_le _, rfl, rfl, Below.refl _ _⟩
    case round =>
      obtain ⟨m, hm, rfl, rfl, BW⟩ := hrel
      have Bw := HB8.out.trans (BW.mono HB8.out.size)
      have hce : ((cntE es m es.length : Nat) : Int) ≤ 60 := by have := cntE_le es m es.length; omega
      by_cases hm12 : m < 12
      · have hCn := cntE_succ es m es.length
        have Hst9 : Hid (JSt c n5 (n5 + 1) n5 es wr) := Hst8.out.below BW
        have HO : Hid (Calls _ _ _ wr _) := (jcalls Hst9.out (by omega)).1 ((m : Int) + 1) 0
        have q0 : (m : Int) + 1 ≤ 12 := by omega
        have HCn : Hid (cntE es (m + 1) es.length = cntE es m es.length + (ofL es ((m : Int) + 1) 0 es.length).length) := hCn
        clear hCn
        generalize cntE es m es.length = cn at *
        go_wp2_with fail
        refine HO.out.mono ?_
        rintro e w9 ⟨u9, rfl, r9, b9⟩
        obtain ⟨a9, c9, rfl⟩ := r9.shape
        have hx60 : ((ofL es ((m : Int) + 1) 0 es.length).length : Int) ≤ 60 := by have := ofL_len es ((m : Int) + 1) 0 es.length; omega
        have HX : Hid (NsRow w9 wr.heap.size (.slice a9 (ofL es ((m : Int) + 1) 0 es.length).length c9) (ofL es ((m : Int) + 1) 0 es.length)) := r9
        have Hone : Hid (∀ i, i < (ofL es ((m : Int) + 1) 0 es.length).length → _) := fun i hi => ofL_one (es := es) (e := (m : Int) + 1) (by omega) hi
        have Hnext : Hid (∀ i, i + 1 < (ofL es ((m : Int) + 1) 0 es.length).length → _) := fun i hi => ofL_next (es := es) (en := (m : Int) + 1) (pe := 0) (k := es.length) hi
        have B9 := BW.trans (b9.mono BW.size)
        have HSt9 : Hid (JSt c n5 (n5 + 1) n5 es w9) := Hst9.out.below b9
        clear HO r9 b9 Hst9
        generalize ofL es ((m : Int) + 1) 0 es.length = xs at *
        go_wp2
        go_loopw [14] (fun iv wr2 => ∃ k : Nat, k ≤ xs.length ∧ iv = .int .i64 k ∧ Below w9.heap.size w9 wr2) (fun iv _ => xs.length - (intOf iv).toNat)
        case atStart => exact ⟨0, Nat.zero_le _, rfl, Below.refl _ _⟩
        case round =>
          obtain ⟨k, hk, rfl, B2⟩ := hrel
          by_cases hlt : k < xs.length
          · obtain ⟨hq1, hq2, hq3⟩ := Hone.out k hlt
            obtain ⟨gx, cx, ex, _, hgx, hcx⟩ := HX.out.cell k hlt
            cases ex
            have dk := (B2.cell (p := ⟨gx, k, none⟩) hgx).trans (hcx k hlt)
            have Hcx : Hid (∀ k, k < xs.length → w9.cell? ⟨gx, k, none⟩ = some (.int .i64 ((xs.getD k 0 : Nat) : Int))) := hcx
            have Hst10 := HSt9.out.below B2
            have HA : Hid (Calls _ _ _ wr _) := (jcalls Hst10 (by omega)).2.2 (xs.getD k 0) hq1
            obtain ⟨q, hq⟩ : ∃ q, xs.getD k 0 = q := ⟨_, rfl⟩
            rw [hq] at dk HA hq1 hq2 hq3
            have Hq : Hid (xs.getD k 0 = q) := hq
            have Hq3 : Hid (q ∈ ofL es ((m : Int) + 1) (es.getD q je0).per es.length) := hq3
            have HS10 : Hid (JSt c n5 (n5 + 1) n5 es wr) := Hst10
            have q1 : (0 : Int) ≤ k := by omega
            have q2 : (k : Int) < xs.length := by omega
            clear hcx hq hq3 Hst10
            generalize es.getD q je0 = x at *
            obtain ⟨xr, xe, xp, xa, xc, xl⟩ := x
            simp only at HA hq2 Hq3
            subst hq2
            go_wp2_with fail
            refine HA.out.mono ?_
            rintro e w10 ⟨a10, c10, rfl, _, b10⟩
            obtain ⟨W11, hW11⟩ : ∃ W11, w10.alloc (.cells #[.string xr, .int .i64 ((m : Int) + 1), .int .i64 xp, .slice a10 xl.length c10] 33) = W11 := ⟨_, rfl⟩
            have bx : Box4 W11 w10.heap.size xr ((m : Int) + 1) xp (.slice a10 xl.length c10) := by rw [← hW11]; exact Box4.new _ _ _ _ _
            have b11 : Below w10.heap.size w10 W11 := by rw [← hW11]; exact (Below.refl _ _).alloc (Nat.le_refl _) _
            have B11 := (B2.trans (b10.mono B2.size)).trans (b11.mono (by have := b10.size; have := B2.size; omega))
            have HO2 : Hid (Calls _ _ _ W11 _) := (jcalls (HSt9.out.below B11) (by omega)).1 ((m : Int) + 1) xp
            have e2 := bx.c2
            have Hbx : Hid (Box4 W11 w10.heap.size xr ((m : Int) + 1) xp (.slice a10 xl.length c10)) := bx
            have hb10 := (Array.getElem?_eq_some_iff.1 bx).1
            have HW11 : Hid (_ = W11) := hW11
            clear HA b10 b11 hW11 bx dk HS10
            go_wp2_with fail
            rw [HW11.out]
            refine HO2.out.mono ?_
            rintro e w12 ⟨u12, rfl, r12, b12⟩
            obtain ⟨a12, c12, rfl⟩ := r12.shape
            have hy60 : ((ofL es ((m : Int) + 1) xp es.length).length : Int) ≤ 60 := by have := ofL_len es ((m : Int) + 1) xp es.length; omega
            have B12 := B11.trans (b12.mono B11.size)
            have hbx12 := Hbx.out.below b12 hb10
            generalize ofL es ((m : Int) + 1) xp es.length = ys at *
            have hy0 : 0 < ys.length := List.length_pos_of_mem Hq3.out
            obtain ⟨gy, cy, ey, _, hgy, hcy⟩ := r12.cell 0 hy0
            cases ey
            have Hcy : Hid (∀ k, k < ys.length → w12.cell? ⟨gy, k, none⟩ = some (.int .i64 ((ys.getD k 0 : Nat) : Int))) := hcy
            have dk := (B12.cell (p := ⟨gx, k, none⟩) hgx).trans (Hcx.out k hlt)
            rw [Hq.out] at dk
            have Hdk : Hid (w12.cell? ⟨gx, k, none⟩ = some (.int .i64 (q : Int))) := dk
            have Hb12 : Hid (Box4 w12 w10.heap.size xr ((m : Int) + 1) xp (.slice a10 xl.length c10)) := hbx12
            have hgx12 : gx < w12.heap.size := by have := B12.size; omega
            have hbb : w10.heap.size < w12.heap.size := by have := b12.size; omega
            clear HO2 r12 b12 hcy dk e2 Hbx hbx12 HW11 hb10 B11
            go_wp2
            go_loopw [18, 19] (fun nv iv wr3 => ∃ j : Nat, j ≤ ys.length ∧ nv = .bool (inB ys q j) ∧ iv = .int .i64 j ∧ Below w12.heap.size w12 wr3) (fun _ iv _ => ys.length - (intOf iv).toNat)
            case atStart => exact ⟨0, Nat.zero_le _, by rw [inB_zero], rfl, Below.refl _ _⟩
            case round =>
              obtain ⟨j, hj, rfl, rfl, B3⟩ := hrel
              by_cases hlj : j < ys.length
              · have dy := (B3.cell (p := ⟨gy, j, none⟩) hgy).trans (Hcy.out j hlj)
                have dx := (B3.cell (p := ⟨gx, k, none⟩) hgx12).trans Hdk.out
                have hn := inB_succ ys q j hlj
                have r1 : (0 : Int) ≤ j := by omega
                have r2 : (j : Int) < ys.length := by omega
                generalize ys.getD j 0 = yj at *
                by_cases hin : inB ys q j = true
                · rw [hin] at hn ⊢
                  have HNx : Hid (inB ys q (j + 1) = true) := by unfold Hid; rw [hn]; rfl
                  clear hn hin
                  go_wp2
                  go_quiet (fail)
                  go_wp2
                  go_roundw
                  case rel => exact ⟨j + 1, by omega, by rw [HNx.out], by go_num, en_drewN B3 _⟩
                  case measure => simp [intOf]; omega
                · have hin' : inB ys q j = false := by simpa using hin
                  rw [hin'] at hn ⊢
                  clear hin hin'
                  by_cases hyq : yj = q
                  · have HNx : Hid (inB ys q (j + 1) = true) := by unfold Hid; rw [hn]; simp [hyq]
                    subst hyq
                    clear hn
                    go_wp2
                    go_quiet (fail)
                    go_wp2
                    go_roundw
                    case rel => exact ⟨j + 1, by omega, by rw [HNx.out], by go_num, en_drewN B3 _⟩
                    case measure => simp [intOf]; omega
                  · have HNx : Hid (inB ys q (j + 1) = false) := by unfold Hid; rw [hn]; simp [hyq]
                    have hyq' : ¬ (yj : Int) = q := by omega
                    clear hn hyq
                    go_wp2
                    go_quiet (fail)
                    go_wp2
                    go_roundw
                    case rel => exact ⟨j + 1, by omega, by rw [HNx.out, beq_eq_false_iff_ne.2 hyq'], by go_num, en_drewN B3 _⟩
                    case measure => simp [intOf]; omega
              · have hje : j = ys.length := by omega
                subst hje
                rw [inB_all Hq3.out]
                have X3 := Hb12.out.below B3 hbb
                have e1 := X3.c1
                have dx := (B3.cell (p := ⟨gx, k, none⟩) hgx12).trans Hdk.out
                have B9x := B12.trans (B3.mono B12.size)
                by_cases hk0 : k = 0
                · subst hk0
                  go_wp2
                  go_quiet (fail)
                  go_wp2
                  go_roundw
                  case rel => exact ⟨0 + 1, by omega, by go_num, en_drewN B9x _⟩
                  case measure => simp [intOf]; omega
                · obtain ⟨k', rfl⟩ : ∃ k', k = k' + 1 := ⟨k - 1, by omega⟩
                  have hlow := Hnext.out k' hlt
                  rw [Hq.out] at hlow
                  have dz := (B9x.cell (p := ⟨gx, k', none⟩) hgx).trans (Hcx.out k' (by omega))
                  generalize xs.getD k' 0 = z at *
                  have hz : ¬ (q : Int) ≤ z := by omega
                  have r3 : (0 : Int) ≤ k' := by omega
                  have r4 : (k' : Int) < xs.length := by omega
                  go_wp2
                  go_quiet (fail)
                  go_wp2
                  go_roundw
                  case rel => exact ⟨k' + 1 + 1, by omega, by go_num, en_drewN B9x _⟩
                  case measure => simp [intOf]; omega
          · have hke : k = xs.length := by omega
            subst hke
            have B10 := B9.trans (B2.mono B9.size)
            go_wp2
            go_roundw
            case rel => exact ⟨m + 1, by omega, by rw [HCn.out]; go_num, by go_num, B10⟩
            case measure => simp [intOf]; omega
      · have hme : m = 12 := by omega
        subst hme
        have hall : cntE es 12 es.length = es.length := cntE_all (fun x hx => by have := Hst8.out.2.ent hx; exact ⟨this.1, this.2.1⟩) _ (Nat.le_refl _)
        rw [hall]
        have HLn : Hid (Calls _ _ _ wr _) := (jcalls (Hst8.out.below BW) (by omega)).2.1
        clear hall hce
        go_wp2_with fail
        refine HLn.out.mono ?_
        rintro e w9 ⟨rfl, hw⟩
        rw [hw]; clear hw w9 HLn
        go_wp2
        go_ret
        exact ⟨by simp, Bw⟩
end Go.Proofs.Ytgeophoghlgdiaa
