/-
  The walk of daylaw2.LogKeeps.
-/
import Derived.Test.YtamilceeffocpaaZk13
namespace Go.Proofs.Ytamilceeffocpaa
set_option linter.unusedVariables false
set_option linter.unusedSimpArgs false
set_option maxRecDepth 100000
open Go.RowKit Go.Lib
set_option maxHeartbeats 16000000 in
theorem lkeeps_walk (a : Option Addr) (rs : List Rw) (cap : Nat) (w : World) (hrs : IsRs w a rs cap) (hrl : rs.length ≤ 9223372036854775807) :
    Calls Try.prog 3 #[.slice a rs.length cap] w fun e w' => e = .returned (.bool true) ∧ Below w.heap.size w w' := by
  have HNew : Hid (Calls _ _ _ w _) := tn_new 40 w (by omega) (by omega)
  have HF1 : Hid (∀ W p nb sb cv, Tn w W p nb sb cv 40 (dk0 40) → Calls Try.prog 6 #[.pointer (some ⟨p, 0, none⟩), .int .i64 0, .int .i64 40] W fun e w' => e = .returned .nilIface ∧ ∃ cv', Hid (Tn w w' p nb sb cv' 40 fk)) := fun W p nb sb cv hW => by
    refine (formatL_fresh hW 0 40 (by decide) (by omega) (by omega) (by omega) ⟨by decide, by decide⟩ (fun i _ => ?_)).mono ?_
    · show (List.replicate 40 bk0).getD _ bk0 = bk0
      rw [List.getD_eq_getElem?_getD, List.getElem?_replicate]
      split <;> rfl
    · rintro e w' ⟨rfl, cv', h1, _⟩
      exact ⟨rfl, cv', h1⟩
  have HRS : Hid (IsRs w a rs cap) := hrs
  have hrl' : (rs.length : Int) ≤ 9223372036854775807 := by omega
  clear hrs
  go_enter Try.func3, Try.ntmps3
  go_wp2_with fail
  refine HNew.out.mono ?_
  rintro e w1 ⟨p, nb, sb, rfl, ht1⟩
  have HC1 : Hid (Calls _ _ _ w1 _) := HF1.out w1 p nb sb _ ht1.out
  clear HNew HF1 ht1
  go_wp2_with fail
  refine HC1.out.mono ?_
  rintro e w2 ⟨rfl, cv2, ht2⟩
  have HC2 : Hid (Calls _ _ _ w2 _) := (fk_ky ht2.out).open_
  clear HC1 ht2
  go_wp2_with fail
  refine HC2.out.mono ?_
  rintro e w3 ⟨lb, rfl, h3⟩
  obtain ⟨cv3, D3, tv3, wv3, s3, wh3, rs3, K3, hp3, -, hf3, -, -⟩ := h3.out
  obtain rfl : rs3 = [] := List.prefix_nil.1 hp3
  have hAp := (K3.below ((Below.refl _ w3).alloc (Nat.le_refl _) (.cells (byC [9]).toArray 5))).append (by omega) [9] ⟨by simp, by simp⟩ w3.heap.size (new_heap w3 _) (fun e => by
    have := (ownsRow_in K3.A.tx e).2.1
    omega) (Nat.zero_le _)
  have HAp : Hid (Calls Try.prog 8 #[.pointer (some ⟨lb, 0, none⟩), .slice (some ⟨w3.heap.size, 0, none⟩) 1 1] (w3.alloc (.cells #[.int .u8 9] 5)) fun e w' => e = .returned (.tuple #[.int .i64 0, .nilIface]) ∧ Hid (∃ cv' D' tv' wv' s' wh', Kg w w' p nb sb cv' D' lb tv' wv' s' wh' [[9]] [] 309 2 ∧ D'.fail < 0)) := by
    refine Calls.mono hAp ?_
    rintro e w' (⟨rfl, h⟩ | ⟨c, _, h, _⟩)
    · obtain ⟨cv', D', tv', wv', s', wh', k, hf, _⟩ := h.out
      exact ⟨rfl, cv', D', tv', wv', s', wh', k, by rw [hf]; exact hf3⟩
    · rcases h with h | h
      · omega
      · simp [enc] at h
  clear HC2 h3 hp3 K3 hAp hf3
  go_wp2_with fail
  refine HAp.out.mono ?_
  rintro e w4 ⟨rfl, h4⟩
  obtain ⟨cv4, D4, tv4, wv4, s4, wh4, K4, hf4⟩ := h4.out
  have HSy : Hid (Calls Try.prog 9 #[.pointer (some ⟨lb, 0, none⟩)] w4 fun e w' => e = .returned .nilIface ∧ Hid (∃ cv' D' s', Kg w w' p nb sb cv' D' lb tv4 wv4 s' wh4 [[9]] [[9]] 608 2 ∧ D'.fail < 0)) := by
    refine Calls.mono (K4.sync (sf := 0) (by omega) (Nat.zero_le _)) ?_
    rintro e w' (⟨rfl, h⟩ | ⟨_, h, _⟩)
    · obtain ⟨cv', D', s', k, hf, _⟩ := h.out
      exact ⟨rfl, cv', D', s', k, by rw [hf]; exact hf4⟩
    · omega
  clear HAp h4 K4 hf4
  go_wp2_with fail
  refine HSy.out.mono ?_
  rintro e w5 ⟨rfl, h5⟩
  obtain ⟨cv5, D5, s5, K5, hf5⟩ := h5.out
  have hcn5 : s5.cnt = 1 := by
    obtain ⟨_, _, _, hI⟩ := K5.I
    exact hI.cnt
  have HAl : Hid (Calls _ _ _ w5 _) := all_any K5.A (fun r hr => by rw [List.mem_singleton.1 hr]; exact ⟨by simp, by simp⟩) (by simp [enc, enc1]) (by rw [hcn5]; omega)
  have HK5 : Hid (Kg w w5 p nb sb cv5 D5 lb tv4 wv4 s5 wh4 [[9]] [[9]] 608 2 ∧ D5.fail < 0) := ⟨K5, hf5⟩
  clear HSy h5 K5 hf5 hcn5
  go_wp2_with fail
  refine HAl.out.mono ?_
  rintro e w6 ⟨a6, c6, rfl, h6, hb6⟩
  obtain ⟨g6, cp6, xa6, xc6, e6, hc6, hx6⟩ := h6.out.cell 0 (by simp)
  cases e6
  obtain ⟨bx, ox, rfl, hcx⟩ : ∃ b off, xa6 = some ⟨b, off, none⟩ ∧ w6.cell? ⟨b, off, none⟩ = some (.int .u8 9) := by
    rcases hx6.lies with h | ⟨b, off, e, _, hc⟩
    · cases h
    · exact ⟨b, off, e, hc 0 (by simp)⟩
  have hc6' : w6.cell? ⟨g6, 0, none⟩ = some (.slice (some ⟨bx, ox, none⟩) 1 xc6) := hc6
  have HK6 : Hid (Kl w ((w6.alloc (.cells #[.int .u8 9] 5)).alloc (.cells #[.slice (some ⟨w6.heap.size, 0, none⟩) 1 1] 34)) p nb sb lb (.slice (some ⟨w6.heap.size + 1, 0, none⟩) 1 1) 1 1 0) := by
    have k6 := HK5.out.1.below hb6.out
    have hbb : Below w6.heap.size w6 ((w6.alloc (.cells #[.int .u8 9] 5)).alloc (.cells #[.slice (some ⟨w6.heap.size, 0, none⟩) 1 1] 34)) := ((Below.refl _ w6).alloc (Nat.le_refl _) _).alloc (by simp) _
    have k7 := k6.below hbb
    exact ⟨_, _, _, _, _, _, _, _, ⟨k7.A, k7.I, k7.lo, k7.lim.mono (by omega), k7.hd, k7.sit⟩, rcs_first k6.A, rfl, Nat.le_refl 1, HK5.out.2⟩
  clear HAl h6 hb6 HK5 hc6 hx6
  rw [show ([[9]] : List (List UInt8)).length = 1 from rfl]
  go_wp2_with fail
  go_loopw [6, 11, 12, 13] (fun lv av fv iv wr => ∃ (lb m sf i ac : Nat) (aa : Option Addr), i ≤ 40 ∧ m ≤ i + 1 ∧ 1 ≤ sf ∧ sf ≤ m ∧ lv = .pointer (some ⟨lb, 0, none⟩) ∧ av = .slice aa m ac ∧ fv = .int .i64 sf ∧ iv = .int .i64 i ∧ Hid (Kl w wr p nb sb lb (.slice aa m ac) m sf i)) (fun _ _ _ i _ => 40 - (RowKit.intOf i).toNat)
  case atStart =>
    refine ⟨lb, 1, 1, 0, 1, some ⟨w6.heap.size + 1, 0, none⟩, by omega, by omega, by omega, by omega, rfl, ?_, rfl, rfl, HK6⟩
    first | rfl | simp
  case round =>
    clear HK6 hc6' hcx
    obtain ⟨lb, m, sf, i, ac, aa, hi, hm, hsf1, hsfm, rfl, rfl, rfl, rfl, H⟩ := hrel
    by_cases hlt : i < rs.length ∧ i < 40
    · obtain ⟨hlt1, hlt2⟩ := hlt
      have m0 : (0 : Int) ≤ i := by omega
      have m1 : (i : Int) < rs.length := by omega
      have m2 : (i : Int) < 40 := by omega
      have hal := alloc_v
      have hbw : Below w.heap.size w wr := H.out.bel
      have hrs := HRS.out.below hbw
      have hmem : rs.getD i rw0 ∈ rs := by
        rw [List.getD_eq_getElem?_getD, List.getElem?_eq_getElem hlt1]; exact List.getElem_mem hlt1
      obtain ⟨hrow, hrowl⟩ := hrs.rows _ hmem
      have hroww := (HRS.out.rows _ hmem).1
      obtain ⟨b0, off0, rfl, hb0w, hcRw⟩ : ∃ b off, a = some ⟨b, off, none⟩ ∧ b < w.heap.size ∧ w.cell? ⟨b, off + i, none⟩ = some (.slice (rs.getD i rw0).ad (rs.getD i rw0).l.length (rs.getD i rw0).cap) := by
        rcases HRS.out.lies with e | ⟨b, off, e, h1, h2⟩
        · subst e; simp at hlt1
        · exact ⟨b, off, e, h1, h2 i hlt1⟩
      have hcR0 := (hbw.cell (p := ⟨b0, off0 + i, none⟩) hb0w).trans hcRw
      generalize rs.getD i rw0 = r at *
      obtain ⟨ra, rl, rc⟩ := r
      simp only at hrow hrowl hcR0 hroww hcRw
      clear hcRw
      have HROWw : Hid (IsIn w ra rl rc) := hroww
      clear hroww
      have HE : Hid (∀ X j, j < rl.length → ∃ b1 off1, ra = some ⟨b1, off1, none⟩ ∧ (wr.alloc (.cells X 39)).cell? ⟨b1, off1 + j, none⟩ = some (.int .i64 (rl.getD j 0))) := by
        intro X j hj
        rcases hrow.lies with e | ⟨b, off, e, h1, h2⟩
        · subst e; simp at hj
        · exact ⟨b, off, e, (World.cell?_alloc_lt _ _ _ h1).trans (h2 j hj)⟩
      have hrowl' : (rl.length : Int) ≤ 9223372036854775807 := by omega
      clear hrs hmem hrow hbw
      go_upto_block 2 with (refine wpList_alloc_run rfl 39 rfl (hal _) ?_)
      go_cut [16] from 88 to 242 (fun t wx => wx = wr.alloc (.cells (va rl) 39))
      case first =>
        as_aux_lemma =>
          clear hal
          go_wp2_with fail
          go_loopw [16] (fun t wq => ∃ j : Nat, j ≤ 4 ∧ j ≤ rl.length ∧ t = .int .i64 j ∧ wq = wr.alloc (.cells (va (rl.take j)) 39)) (fun t _ => 4 - (RowKit.intOf t).toNat)
          case atStart => exact ⟨0, by omega, by omega, rfl, by simp⟩
          case round =>
            rename World => wq
            obtain ⟨j, hj4, hjl, rfl, rfl⟩ := hrel
            by_cases hj : j < rl.length ∧ j < 4
            · obtain ⟨b1, off1, rfl, hce⟩ := HE.out (va (rl.take j)) j hj.1
              have hset := va_set rl j hj.1 hj.2
              have hget := va_get (rl.take j) j hj.2
              have j0 : (0 : Int) ≤ j := by omega
              have j1 : (j : Int) < rl.length := by omega
              have j2 : (j : Int) < 4 := by omega
              generalize rl.getD j 0 = x at *
              generalize (rl.take j).getD j 0 = z at *
              go_wp2_with fail
              go_roundw
              case rel => exact ⟨j + 1, by omega, by omega, by go_num, by first | rfl | trivial⟩
              case measure => simp [RowKit.intOf]; omega
            · have hv := va_take rl j (by omega)
              rw [hv]
              by_cases hjj : j < rl.length
              · have j2 : ¬ (j : Int) < 4 := by omega
                have j1 : (j : Int) < rl.length := by omega
                go_wp2_with fail
                go_meet
                first | rfl | trivial
              · have j1 : ¬ (j : Int) < rl.length := by omega
                go_wp2_with fail
                go_meet
                first | rfl | trivial
      case rest =>
        clear hal HE
        subst hcut
        have hbx := new_heap wr (.cells (va rl) 39)
        have hbW1 : Below wr.heap.size wr (wr.alloc (.cells (va rl) 39)) := (Below.refl _ wr).alloc (Nat.le_refl _) _
        obtain ⟨cv, D, tv, wv, s, wh, rs1, rsm, K, hR, hrm, hsr, hfl⟩ := H.out
        have K1 := K.below hbW1
        have hR1 := hR.below hbW1
        generalize wr.alloc (.cells (va rl) 39) = W1 at *
        generalize wr.heap.size = B at *
        clear K hR H hbW1
        have HV : Hid (∀ U : World, U.heap[B]? = some (.cells (va rl) 39 (0, 0)) → U.cell? ⟨B, 0, none⟩ = some (.int .i64 (rl.getD 0 0)) ∧ U.cell? ⟨B, 1, none⟩ = some (.int .i64 (rl.getD 1 0)) ∧ U.cell? ⟨B, 2, none⟩ = some (.int .i64 (rl.getD 2 0)) ∧ U.cell? ⟨B, 3, none⟩ = some (.int .i64 (rl.getD 3 0))) := by
          intro U hU
          simp [World.cell?, hU, va]
        obtain ⟨d0, d1, d2, d3⟩ := HV.out W1 hbx
        generalize hv0 : rl.getD 0 0 = v0 at *
        generalize hv1 : rl.getD 1 0 = v1 at *
        generalize hv2 : rl.getD 2 0 = v2 at *
        generalize hv3 : rl.getD 3 0 = v3 at *
        clear hv0 hv1 hv2 hv3
        generalize hAR : (Obj.cells (va rl) 39 (0, 0)) = AR at *
        have HAR : Hid (Obj.cells (va rl) 39 (0, 0) = AR) := hAR
        clear hAR
        have HBX : Hid (W1.heap[B]? = some AR) := hbx
        have HK1 : Hid (Kg w W1 p nb sb cv D lb tv wv s wh rs1 rsm (700 + 2000 * i) (2 + i) ∧ Rcs W1 w.heap.size tv (.slice aa m ac) rs1 ∧ D.fail < 0) := ⟨K1, hR1, hfl⟩
        clear hbx K1 hR1 hfl d2 d3
        obtain ⟨t3, ht3⟩ : ∃ t3, v0.tmod 3 = t3 := ⟨_, rfl⟩
        have ht3b : -3 < t3 ∧ t3 < 3 := by rw [← ht3]; exact ⟨by have := Int.lt_tmod_of_pos v0 (show (0 : Int) < 3 by omega); omega, Int.tmod_lt_of_pos v0 (by omega)⟩
        obtain ⟨t3a, t3b⟩ := ht3b
        go_upto_region 24 with fail
        go_cut [126] from 88 to 242 (fun t wx => t = .bool (decide (0 ≤ v1 ∧ t3 = 0)) ∧ wx = W1)
        case first =>
          as_aux_lemma =>
            by_cases h1 : 0 ≤ v1
            · by_cases h2 : t3 = 0
              · have E : Hid (decide (0 ≤ v1 ∧ t3 = 0) = true) := decide_eq_true ⟨h1, h2⟩
                subst h2
                go_wp2
                go_meet
                case rel => exact ⟨by rw [E.out], rfl⟩
              · have E : Hid (decide (0 ≤ v1 ∧ t3 = 0) = false) := decide_eq_false (fun h => h2 h.2)
                have h2' : (t3 == 0) = false := by rw [beq_eq_false_iff_ne]; exact h2
                go_wp2
                go_meet
                case rel => exact ⟨by rw [E.out], rfl⟩
            · have E : Hid (decide (0 ≤ v1 ∧ t3 = 0) = false) := decide_eq_false (fun h => h1 h.1)
              go_wp2
              go_meet
              case rel => exact ⟨by rw [E.out], rfl⟩
        case rest =>
          obtain ⟨rfl, rfl⟩ := hcut
          have HT3 : Hid (v0.tmod 3 = t3) := ht3
          clear ht3 d0
          go_upto_if 126 with fail
          go_cut [126] from 88 to 242 (fun t wx => Hid (∃ D2, Kg w wx p nb sb cv D2 lb tv wv s wh rs1 rsm (700 + 2000 * i) (2 + i) ∧ Rcs wx w.heap.size tv (.slice aa m ac) rs1 ∧ wx.heap[B]? = some AR ∧ (D2.fail < 0 ∨ t3 = 0)))
          case first =>
            as_aux_lemma =>
              by_cases hc : 0 ≤ v1 ∧ t3 = 0
              · have e : decide (0 ≤ v1 ∧ t3 = 0) = true := decide_eq_true hc
                rw [e]
                clear e
                obtain ⟨p1, t0⟩ := hc
                obtain ⟨r, hr⟩ : ∃ r, v1.tmod 7 = r := ⟨_, rfl⟩
                have r1 : 0 ≤ r ∧ r < 7 := by rw [← hr]; exact ⟨Int.tmod_nonneg 7 p1, Int.tmod_lt_of_pos v1 (by omega)⟩
                obtain ⟨r0, r8⟩ := r1
                have hstp := HK1.out.1.lim.s
                have q0 : (0 : Int) ≤ (D.steps : Int) := by omega
                have q1 : (D.steps : Int) ≤ 100000 := by omega
                have hKd : Kg w wc.drew p nb sb cv D lb tv wv s wh rs1 rsm (700 + 2000 * i) (2 + i) := HK1.out.1.below (drewB wc)
                have hRd : Rcs wc.drew w.heap.size tv (.slice aa m ac) rs1 := HK1.out.2.1.below (drewB wc)
                have d1d : wc.drew.cell? ⟨B, 1, none⟩ = some (.int .i64 v1) := d1
                have HSt : Hid (Calls _ _ _ wc.drew _) := steps_any w.heap.size p nb sb cv 40 D wc.drew hKd.A.tn.1
                have HFl : Hid (Calls _ _ _ wc.drew _) := tn_fail hKd.A.tn ((D.steps : Int) + r)
                have HKD : Hid (Kg w wc.drew p nb sb cv D lb tv wv s wh rs1 rsm (700 + 2000 * i) (2 + i) ∧ Rcs wc.drew w.heap.size tv (.slice aa m ac) rs1 ∧ wc.drew.heap[B]? = some AR) := ⟨hKd, hRd, HBX.out⟩
                obtain ⟨st, hst⟩ : ∃ st : Int, (D.steps : Int) = st := ⟨_, rfl⟩
                rw [hst] at q0 q1 HSt HFl
                clear hKd hRd hst hstp d1 HK1 HBX
                go_wp2_with fail
                refine wp_region_drawn (by kernel_rfl) ?_
                generalize wc.drew = W5 at *
                refine wpAny_take (i := 0) (v := .pointer (some ⟨p, 0, none⟩)) rfl (by kernel_rfl) (by kernel_rfl) (by kernel_rfl) (fun _ _ _ h => h) (Or.inl ⟨by rfl, fun w => by go_simp⟩) ?_
                simp only [Act.put, List.getElem_toArray, List.getElem_cons_succ, List.getElem_cons_zero, List.setIfInBounds_toArray, List.set_cons_zero, List.set_cons_succ]
                refine wpAny_take (i := 1) (v := .pointer (some ⟨p, 0, none⟩)) rfl (by kernel_rfl) (by kernel_rfl) (by kernel_rfl) (fun _ _ _ h => h) (Or.inl ⟨by rfl, fun w => by go_simp⟩) ?_
                simp only [Act.put, List.getElem_toArray, List.getElem_cons_succ, List.getElem_cons_zero, List.setIfInBounds_toArray, List.set_cons_zero, List.set_cons_succ]
                refine wpAny_take (i := 3) (v := .pointer (some ⟨B, 1, none⟩)) rfl (by kernel_rfl) (by kernel_rfl) (by kernel_rfl) (fun _ _ _ h => h) (Or.inl ⟨by rfl, fun w => by go_simp⟩) ?_
                simp only [Act.put, List.getElem_toArray, List.getElem_cons_succ, List.getElem_cons_zero, List.setIfInBounds_toArray, List.set_cons_zero, List.set_cons_succ]
                refine any_of_L (g := 6) (T := fun u => u = W5) _ _ _ _ ?_
                refine L_take2 (i := 4) (m := 5) (v := .int .i64 v1) rfl rfl rfl (by kernel_rfl) (by kernel_rfl) (by decide) (by kernel_rfl) (by kernel_rfl) (by kernel_rfl) (by kernel_rfl) (by kernel_rfl) (fun _ _ _ h => h) (Or.inl ⟨by rfl, fun w' hw' => by subst hw'; go_simp⟩) rfl ?_
                simp only [Act.put, List.getElem_toArray, List.getElem_cons_succ, List.getElem_cons_zero, List.setIfInBounds_toArray, List.set_cons_zero, List.set_cons_succ]
                refine L_take (i := 5) (v := .int .i64 r) rfl rfl (by kernel_rfl) (by decide) (by kernel_rfl) (by kernel_rfl) (by kernel_rfl) (by kernel_rfl) (fun _ _ _ h => h) (Or.inl ⟨by rfl, fun w' hw' => by subst hw'; go_simp⟩) rfl ?_
                simp only [Act.put, List.getElem_toArray, List.getElem_cons_succ, List.getElem_cons_zero, List.setIfInBounds_toArray, List.set_cons_zero, List.set_cons_succ]
                refine L_one (i := 2) (by kernel_rfl) ?_
                refine wpOp_step rfl ?_
                intro K hK
                rw [if_pos (by rfl)]
                have hK' : Shut (∀ a w, _ → K a w) := hK
                clear hK
                go_wp2_with fail
                refine HSt.out.mono ?_
                rintro e W5b ⟨rfl, hw5⟩
                rw [hw5]
                refine hK'.out _ _ ⟨rfl, ?_⟩
                clear hK' K hw5 W5b
                refine L_go (by kernel_rfl) (by kernel_rfl) ?_
                refine wpOp_step rfl ?_
                intro K hK
                rw [if_pos (by rfl)]
                have hK' : Shut (∀ a w, _ → K a w) := hK
                clear hK
                go_wp2_with fail
                refine hK'.out _ _ ?_
                clear hK' K
                refine any_one (i := 7) (by kernel_rfl) ?_
                refine wpOp_step rfl ?_
                intro K hK
                rw [if_pos (by rfl)]
                have hK' : Shut (∀ a w, _ → K a w) := hK
                clear hK
                go_wp2_with fail
                refine HFl.out.mono ?_
                rintro e W6 ⟨rfl, ht6, hk6⟩
                refine hK'.out _ _ ?_
                clear hK' K
                refine wpAny_done (by kernel_rfl) ?_ _
                have HF : Hid (∃ D2, Kg w W6 p nb sb cv D2 lb tv wv s wh rs1 rsm (700 + 2000 * i) (2 + i) ∧ Rcs W6 w.heap.size tv (.slice aa m ac) rs1 ∧ W6.heap[B]? = some AR ∧ (D2.fail < 0 ∨ t3 = 0)) := by
                  have hAR := HAR.out
                  refine ⟨_, HKD.out.1.set ht6.out hk6.out, ?_, ?_, .inr t0⟩
                  · obtain ⟨vs, h1, h2, h3, h4⟩ := HKD.out.2.1
                    exact ⟨vs, h1, ownsRow_keep h2 (fun b cs e _ => (hk6.out.row e (by decide)).trans e.symm), fun k hl => (h3 k hl).keeps hk6.out, h4⟩
                  · rw [← hAR] at HKD ⊢
                    exact hk6.out.row HKD.out.2.2 (by decide)
                clear HSt HFl HKD ht6 hk6 d1d
                go_wp2
                go_meet
                case rel => exact HF
              · have e : decide (0 ≤ v1 ∧ t3 = 0) = false := decide_eq_false hc
                rw [e]
                have HF : Hid (∃ D2, Kg w wc p nb sb cv D2 lb tv wv s wh rs1 rsm (700 + 2000 * i) (2 + i) ∧ Rcs wc w.heap.size tv (.slice aa m ac) rs1 ∧ wc.heap[B]? = some AR ∧ (D2.fail < 0 ∨ t3 = 0)) := ⟨D, HK1.out.1, HK1.out.2.1, HBX.out, .inl HK1.out.2.2⟩
                clear HK1 HBX
                go_wp2
                go_meet
                case rel => exact HF
          case rest =>
            obtain ⟨D2, K2, hR2, hb2, hfl2⟩ := hcut.out
            clear hcut d1 HK1 HBX
            obtain ⟨d0, d1, d2, d3⟩ := HV.out wc hb2
            obtain ⟨t, ht⟩ : ∃ t, v2.tmod 90 = t := ⟨_, rfl⟩
            have hq1 : -90 < t ∧ t < 90 := by rw [← ht]; exact ⟨by have := Int.lt_tmod_of_pos v2 (show (0 : Int) < 90 by omega); omega, Int.tmod_lt_of_pos v2 (by omega)⟩
            obtain ⟨kk, hkq⟩ : ∃ kk : Nat, (t + 90).tmod 90 = (kk : Int) := ⟨((t + 90).tmod 90).toNat, by have := Int.tmod_nonneg 90 (show 0 ≤ t + 90 by omega); omega⟩
            have hk : kk < 90 := by have := Int.tmod_lt_of_pos (t + 90) (show (0 : Int) < 90 by omega); omega
            obtain ⟨t1, t2⟩ := hq1
            have k0 : (0 : Int) ≤ kk := by omega
            have k1 : (kk : Int) < 90 := by omega
            obtain ⟨V, hmk, hV, hbV⟩ := make_zero kk hk (UInt8.ofNat (i + 1)) wc
            have hXn : ((UInt8.ofNat (i + 1)).toNat : Int) = (i : Int) + 1 := by rw [UInt8.toNat_ofNat']; omega
            generalize UInt8.ofNat (i + 1) = X at *
            have HS2 : Hid (Kg w wc p nb sb cv D2 lb tv wv s wh rs1 rsm (700 + 2000 * i) (2 + i) ∧ Rcs wc w.heap.size tv (.slice aa m ac) rs1 ∧ wc.heap[B]? = some AR ∧ (D2.fail < 0 ∨ t3 = 0)) := ⟨K2, hR2, hb2, hfl2⟩
            obtain ⟨g, hg⟩ : ∃ g, wc.heap.size = g := ⟨_, rfl⟩
            have HG : Hid (wc.heap.size = g) := hg
            rw [hg] at hmk hV hbV
            obtain ⟨nn, hnn⟩ : ∃ nn, kk + 1 = nn := ⟨_, rfl⟩
            rw [hnn] at hmk hV
            have n0 : (0 : Int) < nn := by omega
            have n1 : (nn : Int) ≤ 90 := by omega
            have HNn : Hid ((nn : Int) = 1 + (kk : Int)) := by unfold Hid; omega
            have HV0 : Hid (V.heap[g]? = some (.cells (byC (fil X nn 0)).toArray 5 (0, 0)) ∧ Below g wc V) := ⟨hV, hbV⟩
            have HXn : Hid ((X.toNat : Int) = (i : Int) + 1) := hXn
            clear K2 hR2 hb2 hfl2 hg hnn hV hbV hXn d0 d1 d3
            go_wp2_with fail
            go_loopw [19] (fun jv wq => ∃ j : Nat, j ≤ nn ∧ jv = .int .i64 j ∧ Hid (wq.heap[g]? = some (.cells (byC (fil X nn j)).toArray 5 (0, 0)) ∧ Below g wc wq)) (fun jv _ => 90 - (RowKit.intOf jv).toNat)
            case atStart => exact ⟨0, Nat.zero_le _, rfl, HV0⟩
            case round =>
              rename World => wq
              obtain ⟨j, hjn, rfl, HW⟩ := hrel
              have j0 : (0 : Int) ≤ j := by omega
              by_cases hj : j < nn
              · have j1 : (j : Int) < 1 + (kk : Int) := by have := HNn.out; omega
                have j2 : (j : Int) < nn := by omega
                obtain ⟨c0, f0, hset⟩ := fil_set HW.out.1 hj
                rw [HXn.out] at hset
                have HN : Hid ((wq.setCell ⟨g, j, none⟩ (.int .u8 ((i : Int) + 1))).heap[g]? = some (.cells (byC (fil X nn (j + 1))).toArray 5 (0, 0)) ∧ Below g wc (wq.setCell ⟨g, j, none⟩ (.int .u8 ((i : Int) + 1)))) := ⟨hset, HW.out.2.setCell (p := ⟨g, j, none⟩) (Nat.le_refl _) _⟩
                clear hset HW HV0 hmk d2
                go_wp2_with fail
                go_roundw
                case rel => exact ⟨j + 1, by omega, by go_num, HN⟩
                case measure => simp [RowKit.intOf]; omega
              · have j1 : ¬ (j : Int) < 1 + (kk : Int) := by have := HNn.out; omega
                obtain rfl : j = nn := by omega
                have hbq : Below wc.heap.size wc wq := by rw [HG.out]; exact HW.out.2
                have Kq := HS2.out.1.below hbq
                have hBq : wq.heap[B]? = some AR := (hbq.block B (Array.getElem?_eq_some_iff.1 HS2.out.2.2.1).1).trans HS2.out.2.2.1
                have hta : tv.ownBlock ≠ some g := fun e => by
                  have := (ownsRow_in HS2.out.1.A.tx e).2.1
                  have := HG.out
                  omega
                obtain ⟨bl, hbl⟩ : ∃ bl, fil X j j = bl := ⟨_, rfl⟩
                have hbn : bl.length = j := by rw [← hbl]; exact fil_length _ _ _ (Nat.le_refl _)
                have hgq := HW.out.1
                rw [hbl] at hgq
                have hok : okR bl := ⟨by omega, by omega⟩
                have hap := Kq.append (sf := sf) (by omega) bl hok g hgq hta hsr
                have hby := byRow_at (n := w.heap.size) hgq (by have h1 := HS2.out.1.A.tn.2.size; rw [HG.out] at h1; exact h1) (by omega)
                rw [hbn] at hap hby
                have HAp : Hid (Calls _ _ _ wq _) := hap
                have HQ : Hid (Kg w wq p nb sb cv D2 lb tv wv s wh rs1 rsm (700 + 2000 * i) (2 + i) ∧ Rcs wq w.heap.size tv (.slice aa m ac) rs1 ∧ wq.heap[B]? = some AR ∧ (D2.fail < 0 ∨ t3 = 0) ∧ ByRow wq w.heap.size (.slice (some ⟨g, 0, none⟩) j j) bl ∧ tv.ownBlock ≠ some g) := ⟨Kq, HS2.out.2.1.below hbq, hBq, HS2.out.2.2.2, hby, hta⟩
                clear hap hby hgq hta hBq Kq hbq HS2 HW HV0 hmk hbl HG d2 hok
                go_wp2_with fail
                refine HAp.out.mono ?_
                rintro e w7 (⟨rfl, h7⟩ | ⟨c, hc0, hwhy, rfl, h7⟩)
                · obtain ⟨cv7, D7, tv7, wv7, s7, wh7, K7, hf7, k7⟩ := h7.out
                  have R7 := Rcs.keep HQ.out.1.A HQ.out.2.1 k7
                  obtain ⟨y7, z7⟩ := byRow_keep HQ.out.1.A HQ.out.2.2.2.2.1 (fun g' e => by cases e; exact HQ.out.2.2.2.2.2) k7
                  have A7 : w7.heap[B]? = some AR := by
                    rw [← HAR.out]
                    exact arr_keep HQ.out.1.A (by rw [HAR.out]; exact HQ.out.2.2.1) k7
                  have hf7' : D7.fail < 0 ∨ t3 = 0 := by rw [hf7]; exact HQ.out.2.2.2.1
                  clear HAp h7 HQ k7 hf7
                  obtain ⟨qi, hq, hz0, hz1, hz2⟩ := sl_info
                  obtain ⟨vs, hvl, hvo, hvb, hva⟩ := R7
                  obtain ⟨W8, hW8⟩ : ∃ W8, w7.alloc (.cells #[.slice (some ⟨g, 0, none⟩) j j] 34) = W8 := ⟨_, rfl⟩
                  have b8 : Below w7.heap.size w7 W8 := by rw [← hW8]; exact (Below.refl _ _).alloc (Nat.le_refl _) _
                  have hr8 : W8.heap[w7.heap.size]? = some (.cells #[.slice (some ⟨g, 0, none⟩) j j] 34 (0, 0)) := by rw [← hW8]; exact new_heap w7 _
                  have K8 := K7.below b8
                  have A8 : W8.heap[B]? = some AR := (b8.block B (Array.getElem?_eq_some_iff.1 A7).1).trans A7
                  have hvo8 : W8.ownsRow w.heap.size 34 1 (.slice aa m ac) rs1.length vs := ownsRow_keep hvo (fun b cs e _ => b8.block b (Array.getElem?_eq_some_iff.1 e).1)
                  have hvb8 := fun k hk => (hvb k hk).below b8
                  have y8 := y7.below b8
                  have HN9 : Hid (∀ v9 w9, w9.ownsRow w.heap.size 34 1 v9 (rs1.length + 1) (vs ++ [.slice (some ⟨g, 0, none⟩) j j]) → W8.grownBy w9 (Value.slice aa m ac).ownBlock → Kg w w9 p nb sb cv7 D7 lb tv7 wv7 s7 wh7 (rs1 ++ [bl]) rsm (700 + 2000 * i + 299) (2 + i) ∧ Rcs w9 w.heap.size tv7 v9 (rs1 ++ [bl]) ∧ w9.heap[B]? = some AR) := fun v9 w9 ho hg => by
                    have hG := Grew.of hvo8 hg K8.A.tn.2.size
                    refine ⟨K8.grown hG, Rcs.more hvb8 hva hvl hvo8 y8 z7 hg ho, ?_⟩
                    rw [← HAR.out] at A8 ⊢
                    exact (hG.ne B _ _ A8 (by decide)).trans A8
                  have Hsrc : Hid (∀ j' u, [Value.slice (some ⟨g, 0, none⟩) j j][j']? = some u → W8.cell? ((⟨w7.heap.size, 0, none⟩ : Addr).add j') = some u) := World.news_of_block hr8
                  have HVo : Hid (W8.ownsRow w.heap.size 34 1 (.slice aa m ac) rs1.length vs) := hvo8
                  have HW8 : Hid (_ = W8) := hW8
                  have Hsz : Hid (w.heap.size ≤ W8.heap.size) := K8.A.tn.2.size
                  have Hm1 : Hid (rs1.length + 1 ≤ maxLen) := by unfold Hid maxLen; omega
                  have Hm2 : Hid ((rs1.length + 1) * 24 ≤ 140737488355328) := by unfold Hid; omega
                  have Hs1 : Hid (∀ u ∈ [Value.slice (some ⟨g, 0, none⟩) j j], u.oneCell' = true) := by intro u hu; simp at hu; subst hu; rfl
                  have HF7 : Hid (D7.fail < 0 ∨ t3 = 0) := hf7'
                  have HRM : Hid (rs1.length = m ∧ sf ≤ rsm.length) := ⟨hrm, hsr⟩
                  clear K7 K8 A7 A8 y7 y8 z7 hvl hvo hvb hva hvo8 hvb8 b8 hr8 hW8 hf7' hrm hsr
                  go_wp2_with (at_builtin; rw [HW8.out]; refine wpList_append_own _ rfl _ _ 36 rfl w.heap.size 34 qi (.slice none 0 0) 1 24 Try.underlying36 hq hz0 hz1 hz2 rfl (by decide) _ _ _ rfl HVo.out ⟨w7.heap.size, 0, none⟩ 1 1 [.slice (some ⟨g, 0, none⟩) j j] rfl rfl Hsrc.out Hs1.out Hm1.out Hm2.out Hsz.out ?_)
                  intro v9 w9 hown hgrow _
                  obtain ⟨K9, R9, A9⟩ := HN9.out v9 w9 hown hgrow
                  obtain ⟨a9, c9, rfl⟩ := R9.rows.shape
                  have hl9 : (rs1 ++ [bl]).length = m + 1 := by rw [List.length_append, HRM.out.1]; rfl
                  rw [hl9] at R9 ⊢
                  obtain ⟨d0, d1, d2, d3⟩ := HV.out w9 A9
                  clear hown hgrow HN9 Hsrc HVo HW8 Hsz Hm1 Hm2 Hs1 hq hz0 hz1 hz2
                  generalize rs1 ++ [bl] = ALL at *
                  have HK9 : Hid (Kg w w9 p nb sb cv7 D7 lb tv7 wv7 s7 wh7 ALL rsm (700 + 2000 * i + 299) (2 + i) ∧ Rcs w9 w.heap.size tv7 (.slice a9 (m + 1) c9) ALL ∧ w9.heap[B]? = some AR) := ⟨K9, R9, A9⟩
                  obtain ⟨q2, hq2⟩ : ∃ q2, v0.tmod 2 = q2 := ⟨_, rfl⟩
                  have ht3 := HT3.out
                  have HL9 : Hid (ALL.length = m + 1) := hl9
                  clear K9 R9 A9 hl9 d1 d2 d3
                  obtain ⟨M, hM⟩ : ∃ M, m + 1 = M := ⟨_, rfl⟩
                  rw [hM] at HK9 HL9 ⊢
                  have M1 : (M : Int) ≤ 42 := by omega
                  have HM : Hid (m + 1 = M) := hM
                  clear hM
                  by_cases hq0 : q2 = 0
                  · subst hq0
                    have HSy : Hid (Calls _ _ _ w9 _) := HK9.out.1.sync (sf := sf) (by omega) HRM.out.2
                    go_wp2_with fail
                    refine HSy.out.mono ?_
                    rintro e w99 (⟨rfl, h99⟩ | ⟨rfl, hge, h99⟩)
                    · obtain ⟨cvS, DS, sS, KS, hfS, kS⟩ := h99.out
                      have RS := Rcs.keep HK9.out.1.A HK9.out.2.1 kS
                      have AS : w99.heap[B]? = some AR := by
                        rw [← HAR.out]
                        exact arr_keep HK9.out.1.A (by rw [HAR.out]; exact HK9.out.2.2) kS
                      have HFS : Hid (DS.fail < 0 ∨ t3 = 0) := by rw [hfS]; exact HF7.out
                      obtain ⟨e0, e1, e2, e3⟩ := HV.out w99 AS
                      have HKS : Hid (Kg w w99 p nb sb cvS DS lb tv7 wv7 sS wh7 ALL ALL (700 + 2000 * i + 299 + 299) (2 + i) ∧ Rcs w99 w.heap.size tv7 (.slice a9 M c9) ALL ∧ w99.heap[B]? = some AR) := ⟨KS, RS, AS⟩
                      clear HSy h99 KS RS AS kS hfS HK9 HF7 d0 e1 e2
                      as_aux_lemma =>
                        by_cases h30 : t3 = 0
                        · subst h30
                          have HX : Hid (Kx w w99 p nb sb ALL M (700 + 2000 * i + 299 + 299) (2 + i) ∧ RsRow w99 w.heap.size (.slice a9 M c9) ALL ∧ w99.heap[B]? = some AR) := ⟨HKS.out.1.x (List.prefix_refl _) (by rw [HL9.out]; exact Nat.le_refl _), HKS.out.2.1.rows, HKS.out.2.2⟩
                          have d0 := e0
                          have d3 := e3
                          clear HKS e0 e3
                          as_aux_lemma =>
                            have HCr : Hid (Calls _ _ _ w99 _) := HX.out.1.crash (by omega) (by omega) ra rl rc v3 hrowl (HROWw.out.below HX.out.1.bel)
                            go_wp2_with fail
                            refine HCr.out.mono ?_
                            rintro e w10 ⟨rfl, h10, k10⟩
                            have HO : Hid (Calls _ _ _ w10 _) := h10.out.open_
                            have HR10 : Hid (RsRow w10 w.heap.size (.slice a9 M c9) ALL) := HX.out.2.1.keeps k10.out
                            clear HCr HX h10 k10 d0 d3
                            go_wp2_with fail
                            refine HO.out.mono ?_
                            rintro e w11 ⟨lc, rfl, h11⟩
                            obtain ⟨cv11, D11, tv11, wv11, s11, wh11, rs', K11, hpre, hsfr, hfl11, hb11, htv11⟩ := h11.out
                            have R11 : Rcs w11 w.heap.size tv11 (.slice a9 M c9) ALL := HR10.out.apart hb11 htv11
                            have hI11 : okL rs' ∧ (enc rs').length ≤ 100000 ∧ s11.cnt = rs'.length := by
                              obtain ⟨_, _, _, hI⟩ := K11.I
                              exact ⟨hI.ok, by have := hI.len; omega, hI.cnt⟩
                            have hG1 : rs'.length ≤ M := by rw [← HL9.out]; exact hpre.length_le
                            have HAl : Hid (Calls _ _ _ w11 _) := all_any K11.A hI11.1 hI11.2.1 (by rw [hI11.2.2]; omega)
                            have HK11 : Hid (Kg w w11 p nb sb cv11 D11 lc tv11 wv11 s11 wh11 rs' rs' 10 (2 + i + 1) ∧ Rcs w11 w.heap.size tv11 (.slice a9 M c9) ALL ∧ rs' <+: ALL ∧ D11.fail < 0) := ⟨K11, R11, hpre, hfl11⟩
                            clear HO h11 K11 R11 hI11 hb11 htv11 hfl11 HR10 hpre
                            go_wp2_with fail
                            refine HAl.out.mono ?_
                            rintro e w12 ⟨a12, c12, rfl, h12, hb12⟩
                            obtain ⟨G, hG⟩ : ∃ G, rs'.length = G := ⟨_, rfl⟩
                            have HG' : Hid (rs'.length = G) := hG
                            have H12 : Hid (Kg w w12 p nb sb cv11 D11 lc tv11 wv11 s11 wh11 rs' rs' 10 (2 + i + 1) ∧ Rcs w12 w.heap.size tv11 (.slice a9 M c9) ALL ∧ rs' <+: ALL ∧ D11.fail < 0 ∧ RsRow w12 w11.heap.size (.slice a12 rs'.length c12) rs') := ⟨HK11.out.1.below hb12.out, HK11.out.2.1.below hb12.out, HK11.out.2.2.1, HK11.out.2.2.2, h12.out⟩
                            rw [hG] at hG1 hsfr H12 ⊢
                            have z1 : (G : Int) ≤ M := by omega
                            have z2 : ¬ (G : Int) < (M : Int) := by omega
                            have z3 : ¬ (M : Int) < G := by omega
                            clear HAl h12 hb12 HK11 hG
                            go_wp2_with fail
                            go_loopw [26] (fun jv wq => ∃ q : Nat, q ≤ G ∧ jv = .int .i64 q ∧ Hid (Below w12.heap.size w12 wq)) (fun jv _ => 100 - (RowKit.intOf jv).toNat)
                            case atStart => exact ⟨0, Nat.zero_le _, rfl, Below.refl _ _⟩
                            case round =>
                              rename World => wq
                              obtain ⟨q, hqG, rfl, HB⟩ := hrel
                              have q0 : (0 : Int) ≤ q := by omega
                              by_cases hq : q < G
                              · have q1 : (q : Int) < G := by omega
                                have q2 : (q : Int) < M := by omega
                                obtain ⟨gx, cx, xa, xc, ex, hcx, hix⟩ := RsRow.cell (rs := rs') (by have := H12.out.2.2.2.2.below HB.out; rw [← HG'.out] at this; exact this) q (by rw [HG'.out]; exact hq)
                                simp only [Value.slice.injEq] at ex
                                obtain ⟨rfl, -, rfl⟩ := ex
                                obtain ⟨gy, cy, ya, yc, ey, hcy, hiy⟩ := RsRow.cell (rs := ALL) (by have := H12.out.2.1.rows.below HB.out; exact this) q (by rw [HL9.out]; omega)
                                simp only [Value.slice.injEq] at ey
                                obtain ⟨rfl, -, rfl⟩ := ey
                                have hsame : rs'.getD q [] = ALL.getD q [] := by
                                  obtain ⟨x, hx⟩ := H12.out.2.2.1
                                  rw [← hx, List.getD_eq_getElem?_getD, List.getD_eq_getElem?_getD, List.getElem?_append_left (by rw [HG'.out]; exact hq)]
                                rw [hsame] at hcx hix
                                clear hsame
                                generalize ALL.getD q [] = R at *
                                have hS1 : ∀ k, (convert 34 9 (.slice xa R.length xc)).run Try.prog (wq.drewN k) = .ok (.string (txt R)) (wq.drewN k) := fun k => run_str (wq.drewN k) _ _ _ (hix.below ((Still.drewN wq k).below _))
                                have hS2 : ∀ k, (convert 34 9 (.slice ya R.length yc)).run Try.prog (wq.drewN k) = .ok (.string (txt R)) (wq.drewN k) := fun k => run_str (wq.drewN k) _ _ _ (hiy.below ((Still.drewN wq k).below _))
                                clear hix hiy H12
                                generalize txt R = tx at *
                                generalize R.length = RL at *
                                go_wp2_with fail
                                go_quiet (fail)
                                rename Nat => nk
                                have HB2 : Hid (Below w12.heap.size w12 (wq.drewN nk)) := HB.out.trans ((Still.drewN wq nk).below _)
                                clear hS1 hS2 hcx hcy HB
                                go_wp2_with fail
                                go_roundw
                                case rel => exact ⟨q + 1, by omega, by go_num, HB2⟩
                                case measure => simp [RowKit.intOf]; omega
                              · have q1 : ¬ (q : Int) < G := by omega
                                have K13 := H12.out.1.below HB.out
                                have R13 := H12.out.2.1.below HB.out
                                obtain ⟨g9, rfl, -, hc9⟩ := R13.at (by rw [HL9.out]; have := HM.out; omega)
                                have hSl : ∀ U, (Instr.slice 36 (.slice (some ⟨g9, 0, none⟩) M c9) none (some (.int .i64 (G : Int))) none).run Try.prog U = .ok (.slice (some ⟨g9, 0, none⟩) G c9) U := fun U => by
                                  have := run_rsH (some ⟨g9, 0, none⟩) M c9 G (by omega) U
                                  rw [slA_zero] at this
                                  exact this
                                have hpre := H12.out.2.2.1
                                have R14 : Rcs wq w.heap.size tv11 (.slice (some ⟨g9, 0, none⟩) G c9) rs' := by
                                  have h1 := Rcs.take (m := G) (by rw [HL9.out]; exact R13) (by rw [HL9.out]; exact hG1) (by simp)
                                  rw [← HG'.out, ← List.prefix_iff_eq_take.1 hpre, HG'.out] at h1
                                  exact h1
                                have HSz : Hid (Calls Try.prog 9 #[.pointer (some ⟨lc, 0, none⟩)] wq fun e w' => e = .returned .nilIface ∧ Hid (Kl w w' p nb sb lc (.slice (some ⟨g9, 0, none⟩) G c9) G G (i + 1))) := by
                                  refine Calls.mono (K13.sync (sf := 0) (by omega) (Nat.zero_le _)) ?_
                                  rintro e w' (⟨rfl, h⟩ | ⟨_, h, _⟩)
                                  · obtain ⟨cv', D', s', k, hf, kk'⟩ := h.out
                                    exact ⟨rfl, cv', D', _, _, _, _, _, _, ⟨k.A, k.I, k.lo, k.lim.mono (by omega), k.hd, by have := k.sit; omega⟩, Rcs.keep K13.A R14 kk', HG'.out, by rw [HG'.out]; exact Nat.le_refl _, by rw [hf]; exact H12.out.2.2.2.1⟩
                                  · have := H12.out.2.2.2.1
                                    omega
                                clear K13 R13 R14 hpre HB H12 hc9
                                go_wp2_with fail
                                refine HSz.out.mono ?_
                                rintro e w15 ⟨rfl, HE⟩
                                clear HSz hSl
                                go_wp2_with fail
                                go_roundw
                                case rel => exact ⟨lc, G, G, i + 1, c9, some ⟨g9, 0, none⟩, by omega, by have := HM.out; omega, by have := HM.out; omega, Nat.le_refl _, rfl, rfl, rfl, by go_num, HE⟩
                                case measure => simp [RowKit.intOf]; omega
                        · have h30' : (t3 == 0) = false := by rw [beq_eq_false_iff_ne]; exact h30
                          have HE : Hid (Kl w w99 p nb sb lb (.slice a9 M c9) M M (i + 1)) := by
                            obtain ⟨k, r, _⟩ := HKS.out
                            exact ⟨_, _, _, _, _, _, _, _, ⟨k.A, k.I, k.lo, k.lim.mono (by omega), k.hd, by have := k.sit; omega⟩, r, HL9.out, by rw [HL9.out]; exact Nat.le_refl _, by rcases HFS.out with h | h; exact h; exact absurd h h30⟩
                          clear HKS e3
                          go_wp2_with fail
                          go_roundw
                          case rel => exact ⟨lb, M, M, i + 1, c9, a9, by omega, by have := HM.out; omega, by have := HM.out; omega, Nat.le_refl _, rfl, rfl, rfl, by go_num, HE⟩
                          case measure => simp [RowKit.intOf]; omega
                    · obtain ⟨hX, kS⟩ := h99.out
                      have AS : w99.heap[B]? = some AR := by
                        rw [← HAR.out]
                        exact arr_keep HK9.out.1.A (by rw [HAR.out]; exact HK9.out.2.2) kS
                      have HX : Hid (Kx w w99 p nb sb ALL sf (700 + 2000 * i + 299 + 299) (2 + i) ∧ RsRow w99 w.heap.size (.slice a9 M c9) ALL ∧ w99.heap[B]? = some AR) := ⟨hX, (Rcs.keep HK9.out.1.A HK9.out.2.1 kS).rows, AS⟩
                      clear d0
                      obtain ⟨d0, d1, d2, d3⟩ := HV.out w99 AS
                      rw [enE_ne (by decide)]
                      clear HSy h99 hX AS kS hge HK9 HF7 d1 d2
                      as_aux_lemma =>
                        have HCr : Hid (Calls _ _ _ w99 _) := HX.out.1.crash (by omega) (by omega) ra rl rc v3 hrowl (HROWw.out.below HX.out.1.bel)
                        go_wp2_with fail
                        refine HCr.out.mono ?_
                        rintro e w10 ⟨rfl, h10, k10⟩
                        have HO : Hid (Calls _ _ _ w10 _) := h10.out.open_
                        have HR10 : Hid (RsRow w10 w.heap.size (.slice a9 M c9) ALL) := HX.out.2.1.keeps k10.out
                        clear HCr HX h10 k10 d0 d3
                        go_wp2_with fail
                        refine HO.out.mono ?_
                        rintro e w11 ⟨lc, rfl, h11⟩
                        obtain ⟨cv11, D11, tv11, wv11, s11, wh11, rs', K11, hpre, hsfr, hfl11, hb11, htv11⟩ := h11.out
                        have R11 : Rcs w11 w.heap.size tv11 (.slice a9 M c9) ALL := HR10.out.apart hb11 htv11
                        have hI11 : okL rs' ∧ (enc rs').length ≤ 100000 ∧ s11.cnt = rs'.length := by
                          obtain ⟨_, _, _, hI⟩ := K11.I
                          exact ⟨hI.ok, by have := hI.len; omega, hI.cnt⟩
                        have hG1 : rs'.length ≤ M := by rw [← HL9.out]; exact hpre.length_le
                        have HAl : Hid (Calls _ _ _ w11 _) := all_any K11.A hI11.1 hI11.2.1 (by rw [hI11.2.2]; omega)
                        have HK11 : Hid (Kg w w11 p nb sb cv11 D11 lc tv11 wv11 s11 wh11 rs' rs' 10 (2 + i + 1) ∧ Rcs w11 w.heap.size tv11 (.slice a9 M c9) ALL ∧ rs' <+: ALL ∧ D11.fail < 0) := ⟨K11, R11, hpre, hfl11⟩
                        clear HO h11 K11 R11 hI11 hb11 htv11 hfl11 HR10 hpre
                        go_wp2_with fail
                        refine HAl.out.mono ?_
                        rintro e w12 ⟨a12, c12, rfl, h12, hb12⟩
                        obtain ⟨G, hG⟩ : ∃ G, rs'.length = G := ⟨_, rfl⟩
                        have HG' : Hid (rs'.length = G) := hG
                        have H12 : Hid (Kg w w12 p nb sb cv11 D11 lc tv11 wv11 s11 wh11 rs' rs' 10 (2 + i + 1) ∧ Rcs w12 w.heap.size tv11 (.slice a9 M c9) ALL ∧ rs' <+: ALL ∧ D11.fail < 0 ∧ RsRow w12 w11.heap.size (.slice a12 rs'.length c12) rs') := ⟨HK11.out.1.below hb12.out, HK11.out.2.1.below hb12.out, HK11.out.2.2.1, HK11.out.2.2.2, h12.out⟩
                        rw [hG] at hG1 hsfr H12 ⊢
                        have z1 : (G : Int) ≤ M := by omega
                        have z2 : ¬ (G : Int) < (sf : Int) := by omega
                        have z3 : ¬ (M : Int) < G := by omega
                        clear HAl h12 hb12 HK11 hG
                        go_wp2_with fail
                        go_loopw [26] (fun jv wq => ∃ q : Nat, q ≤ G ∧ jv = .int .i64 q ∧ Hid (Below w12.heap.size w12 wq)) (fun jv _ => 100 - (RowKit.intOf jv).toNat)
                        case atStart => exact ⟨0, Nat.zero_le _, rfl, Below.refl _ _⟩
                        case round =>
                          rename World => wq
                          obtain ⟨q, hqG, rfl, HB⟩ := hrel
                          have q0 : (0 : Int) ≤ q := by omega
                          by_cases hq : q < G
                          · have q1 : (q : Int) < G := by omega
                            have q2 : (q : Int) < M := by omega
                            obtain ⟨gx, cx, xa, xc, ex, hcx, hix⟩ := RsRow.cell (rs := rs') (by have := H12.out.2.2.2.2.below HB.out; rw [← HG'.out] at this; exact this) q (by rw [HG'.out]; exact hq)
                            simp only [Value.slice.injEq] at ex
                            obtain ⟨rfl, -, rfl⟩ := ex
                            obtain ⟨gy, cy, ya, yc, ey, hcy, hiy⟩ := RsRow.cell (rs := ALL) (by have := H12.out.2.1.rows.below HB.out; exact this) q (by rw [HL9.out]; omega)
                            simp only [Value.slice.injEq] at ey
                            obtain ⟨rfl, -, rfl⟩ := ey
                            have hsame : rs'.getD q [] = ALL.getD q [] := by
                              obtain ⟨x, hx⟩ := H12.out.2.2.1
                              rw [← hx, List.getD_eq_getElem?_getD, List.getD_eq_getElem?_getD, List.getElem?_append_left (by rw [HG'.out]; exact hq)]
                            rw [hsame] at hcx hix
                            clear hsame
                            generalize ALL.getD q [] = R at *
                            have hS1 : ∀ k, (convert 34 9 (.slice xa R.length xc)).run Try.prog (wq.drewN k) = .ok (.string (txt R)) (wq.drewN k) := fun k => run_str (wq.drewN k) _ _ _ (hix.below ((Still.drewN wq k).below _))
                            have hS2 : ∀ k, (convert 34 9 (.slice ya R.length yc)).run Try.prog (wq.drewN k) = .ok (.string (txt R)) (wq.drewN k) := fun k => run_str (wq.drewN k) _ _ _ (hiy.below ((Still.drewN wq k).below _))
                            clear hix hiy H12
                            generalize txt R = tx at *
                            generalize R.length = RL at *
                            go_wp2_with fail
                            go_quiet (fail)
                            rename Nat => nk
                            have HB2 : Hid (Below w12.heap.size w12 (wq.drewN nk)) := HB.out.trans ((Still.drewN wq nk).below _)
                            clear hS1 hS2 hcx hcy HB
                            go_wp2_with fail
                            go_roundw
                            case rel => exact ⟨q + 1, by omega, by go_num, HB2⟩
                            case measure => simp [RowKit.intOf]; omega
                          · have q1 : ¬ (q : Int) < G := by omega
                            have K13 := H12.out.1.below HB.out
                            have R13 := H12.out.2.1.below HB.out
                            obtain ⟨g9, rfl, -, hc9⟩ := R13.at (by rw [HL9.out]; have := HM.out; omega)
                            have hSl : ∀ U, (Instr.slice 36 (.slice (some ⟨g9, 0, none⟩) M c9) none (some (.int .i64 (G : Int))) none).run Try.prog U = .ok (.slice (some ⟨g9, 0, none⟩) G c9) U := fun U => by
                              have := run_rsH (some ⟨g9, 0, none⟩) M c9 G (by omega) U
                              rw [slA_zero] at this
                              exact this
                            have hpre := H12.out.2.2.1
                            have R14 : Rcs wq w.heap.size tv11 (.slice (some ⟨g9, 0, none⟩) G c9) rs' := by
                              have h1 := Rcs.take (m := G) (by rw [HL9.out]; exact R13) (by rw [HL9.out]; exact hG1) (by simp)
                              rw [← HG'.out, ← List.prefix_iff_eq_take.1 hpre, HG'.out] at h1
                              exact h1
                            have HSz : Hid (Calls Try.prog 9 #[.pointer (some ⟨lc, 0, none⟩)] wq fun e w' => e = .returned .nilIface ∧ Hid (Kl w w' p nb sb lc (.slice (some ⟨g9, 0, none⟩) G c9) G G (i + 1))) := by
                              refine Calls.mono (K13.sync (sf := 0) (by omega) (Nat.zero_le _)) ?_
                              rintro e w' (⟨rfl, h⟩ | ⟨_, h, _⟩)
                              · obtain ⟨cv', D', s', k, hf, kk'⟩ := h.out
                                exact ⟨rfl, cv', D', _, _, _, _, _, _, ⟨k.A, k.I, k.lo, k.lim.mono (by omega), k.hd, by have := k.sit; omega⟩, Rcs.keep K13.A R14 kk', HG'.out, by rw [HG'.out]; exact Nat.le_refl _, by rw [hf]; exact H12.out.2.2.2.1⟩
                              · have := H12.out.2.2.2.1
                                omega
                            clear K13 R13 R14 hpre HB H12 hc9
                            go_wp2_with fail
                            refine HSz.out.mono ?_
                            rintro e w15 ⟨rfl, HE⟩
                            clear HSz hSl
                            go_wp2_with fail
                            go_roundw
                            case rel => exact ⟨lc, G, G, i + 1, c9, some ⟨g9, 0, none⟩, by omega, by have := HM.out; omega, by have := HM.out; omega, Nat.le_refl _, rfl, rfl, rfl, by go_num, HE⟩
                            case measure => simp [RowKit.intOf]; omega
                  · have hq0' : (q2 == 0) = false := by rw [beq_eq_false_iff_ne]; exact hq0
                    by_cases h30 : t3 = 0
                    · subst h30
                      have A9 := HK9.out.2.2
                      have HX : Hid (Kx w w9 p nb sb ALL sf (700 + 2000 * i + 299) (2 + i) ∧ RsRow w9 w.heap.size (.slice a9 M c9) ALL ∧ w9.heap[B]? = some AR) := ⟨HK9.out.1.x (List.prefix_refl _) HRM.out.2, HK9.out.2.1.rows, A9⟩
                      clear d0
                      obtain ⟨d0, d1, d2, d3⟩ := HV.out w9 A9
                      clear HK9 A9 HF7 d1 d2
                      as_aux_lemma =>
                        have HCr : Hid (Calls _ _ _ w9 _) := HX.out.1.crash (by omega) (by omega) ra rl rc v3 hrowl (HROWw.out.below HX.out.1.bel)
                        go_wp2_with fail
                        refine HCr.out.mono ?_
                        rintro e w10 ⟨rfl, h10, k10⟩
                        have HO : Hid (Calls _ _ _ w10 _) := h10.out.open_
                        have HR10 : Hid (RsRow w10 w.heap.size (.slice a9 M c9) ALL) := HX.out.2.1.keeps k10.out
                        clear HCr HX h10 k10 d0 d3
                        go_wp2_with fail
                        refine HO.out.mono ?_
                        rintro e w11 ⟨lc, rfl, h11⟩
                        obtain ⟨cv11, D11, tv11, wv11, s11, wh11, rs', K11, hpre, hsfr, hfl11, hb11, htv11⟩ := h11.out
                        have R11 : Rcs w11 w.heap.size tv11 (.slice a9 M c9) ALL := HR10.out.apart hb11 htv11
                        have hI11 : okL rs' ∧ (enc rs').length ≤ 100000 ∧ s11.cnt = rs'.length := by
                          obtain ⟨_, _, _, hI⟩ := K11.I
                          exact ⟨hI.ok, by have := hI.len; omega, hI.cnt⟩
                        have hG1 : rs'.length ≤ M := by rw [← HL9.out]; exact hpre.length_le
                        have HAl : Hid (Calls _ _ _ w11 _) := all_any K11.A hI11.1 hI11.2.1 (by rw [hI11.2.2]; omega)
                        have HK11 : Hid (Kg w w11 p nb sb cv11 D11 lc tv11 wv11 s11 wh11 rs' rs' 10 (2 + i + 1) ∧ Rcs w11 w.heap.size tv11 (.slice a9 M c9) ALL ∧ rs' <+: ALL ∧ D11.fail < 0) := ⟨K11, R11, hpre, hfl11⟩
                        clear HO h11 K11 R11 hI11 hb11 htv11 hfl11 HR10 hpre
                        go_wp2_with fail
                        refine HAl.out.mono ?_
                        rintro e w12 ⟨a12, c12, rfl, h12, hb12⟩
                        obtain ⟨G, hG⟩ : ∃ G, rs'.length = G := ⟨_, rfl⟩
                        have HG' : Hid (rs'.length = G) := hG
                        have H12 : Hid (Kg w w12 p nb sb cv11 D11 lc tv11 wv11 s11 wh11 rs' rs' 10 (2 + i + 1) ∧ Rcs w12 w.heap.size tv11 (.slice a9 M c9) ALL ∧ rs' <+: ALL ∧ D11.fail < 0 ∧ RsRow w12 w11.heap.size (.slice a12 rs'.length c12) rs') := ⟨HK11.out.1.below hb12.out, HK11.out.2.1.below hb12.out, HK11.out.2.2.1, HK11.out.2.2.2, h12.out⟩
                        rw [hG] at hG1 hsfr H12 ⊢
                        have z1 : (G : Int) ≤ M := by omega
                        have z2 : ¬ (G : Int) < (sf : Int) := by omega
                        have z3 : ¬ (M : Int) < G := by omega
                        clear HAl h12 hb12 HK11 hG
                        go_wp2_with fail
                        go_loopw [26] (fun jv wq => ∃ q : Nat, q ≤ G ∧ jv = .int .i64 q ∧ Hid (Below w12.heap.size w12 wq)) (fun jv _ => 100 - (RowKit.intOf jv).toNat)
                        case atStart => exact ⟨0, Nat.zero_le _, rfl, Below.refl _ _⟩
                        case round =>
                          rename World => wq
                          obtain ⟨q, hqG, rfl, HB⟩ := hrel
                          have q0 : (0 : Int) ≤ q := by omega
                          by_cases hq : q < G
                          · have q1 : (q : Int) < G := by omega
                            have q2 : (q : Int) < M := by omega
                            obtain ⟨gx, cx, xa, xc, ex, hcx, hix⟩ := RsRow.cell (rs := rs') (by have := H12.out.2.2.2.2.below HB.out; rw [← HG'.out] at this; exact this) q (by rw [HG'.out]; exact hq)
                            simp only [Value.slice.injEq] at ex
                            obtain ⟨rfl, -, rfl⟩ := ex
                            obtain ⟨gy, cy, ya, yc, ey, hcy, hiy⟩ := RsRow.cell (rs := ALL) (by have := H12.out.2.1.rows.below HB.out; exact this) q (by rw [HL9.out]; omega)
                            simp only [Value.slice.injEq] at ey
                            obtain ⟨rfl, -, rfl⟩ := ey
                            have hsame : rs'.getD q [] = ALL.getD q [] := by
                              obtain ⟨x, hx⟩ := H12.out.2.2.1
                              rw [← hx, List.getD_eq_getElem?_getD, List.getD_eq_getElem?_getD, List.getElem?_append_left (by rw [HG'.out]; exact hq)]
                            rw [hsame] at hcx hix
                            clear hsame
                            generalize ALL.getD q [] = R at *
                            have hS1 : ∀ k, (convert 34 9 (.slice xa R.length xc)).run Try.prog (wq.drewN k) = .ok (.string (txt R)) (wq.drewN k) := fun k => run_str (wq.drewN k) _ _ _ (hix.below ((Still.drewN wq k).below _))
                            have hS2 : ∀ k, (convert 34 9 (.slice ya R.length yc)).run Try.prog (wq.drewN k) = .ok (.string (txt R)) (wq.drewN k) := fun k => run_str (wq.drewN k) _ _ _ (hiy.below ((Still.drewN wq k).below _))
                            clear hix hiy H12
                            generalize txt R = tx at *
                            generalize R.length = RL at *
                            go_wp2_with fail
                            go_quiet (fail)
                            rename Nat => nk
                            have HB2 : Hid (Below w12.heap.size w12 (wq.drewN nk)) := HB.out.trans ((Still.drewN wq nk).below _)
                            clear hS1 hS2 hcx hcy HB
                            go_wp2_with fail
                            go_roundw
                            case rel => exact ⟨q + 1, by omega, by go_num, HB2⟩
                            case measure => simp [RowKit.intOf]; omega
                          · have q1 : ¬ (q : Int) < G := by omega
                            have K13 := H12.out.1.below HB.out
                            have R13 := H12.out.2.1.below HB.out
                            obtain ⟨g9, rfl, -, hc9⟩ := R13.at (by rw [HL9.out]; have := HM.out; omega)
                            have hSl : ∀ U, (Instr.slice 36 (.slice (some ⟨g9, 0, none⟩) M c9) none (some (.int .i64 (G : Int))) none).run Try.prog U = .ok (.slice (some ⟨g9, 0, none⟩) G c9) U := fun U => by
                              have := run_rsH (some ⟨g9, 0, none⟩) M c9 G (by omega) U
                              rw [slA_zero] at this
                              exact this
                            have hpre := H12.out.2.2.1
                            have R14 : Rcs wq w.heap.size tv11 (.slice (some ⟨g9, 0, none⟩) G c9) rs' := by
                              have h1 := Rcs.take (m := G) (by rw [HL9.out]; exact R13) (by rw [HL9.out]; exact hG1) (by simp)
                              rw [← HG'.out, ← List.prefix_iff_eq_take.1 hpre, HG'.out] at h1
                              exact h1
                            have HSz : Hid (Calls Try.prog 9 #[.pointer (some ⟨lc, 0, none⟩)] wq fun e w' => e = .returned .nilIface ∧ Hid (Kl w w' p nb sb lc (.slice (some ⟨g9, 0, none⟩) G c9) G G (i + 1))) := by
                              refine Calls.mono (K13.sync (sf := 0) (by omega) (Nat.zero_le _)) ?_
                              rintro e w' (⟨rfl, h⟩ | ⟨_, h, _⟩)
                              · obtain ⟨cv', D', s', k, hf, kk'⟩ := h.out
                                exact ⟨rfl, cv', D', _, _, _, _, _, _, ⟨k.A, k.I, k.lo, k.lim.mono (by omega), k.hd, by have := k.sit; omega⟩, Rcs.keep K13.A R14 kk', HG'.out, by rw [HG'.out]; exact Nat.le_refl _, by rw [hf]; exact H12.out.2.2.2.1⟩
                              · have := H12.out.2.2.2.1
                                omega
                            clear K13 R13 R14 hpre HB H12 hc9
                            go_wp2_with fail
                            refine HSz.out.mono ?_
                            rintro e w15 ⟨rfl, HE⟩
                            clear HSz hSl
                            go_wp2_with fail
                            go_roundw
                            case rel => exact ⟨lc, G, G, i + 1, c9, some ⟨g9, 0, none⟩, by omega, by have := HM.out; omega, by have := HM.out; omega, Nat.le_refl _, rfl, rfl, rfl, by go_num, HE⟩
                            case measure => simp [RowKit.intOf]; omega
                    · have h30' : (t3 == 0) = false := by rw [beq_eq_false_iff_ne]; exact h30
                      have HE : Hid (Kl w w9 p nb sb lb (.slice a9 M c9) M sf (i + 1)) := by
                        obtain ⟨k, r, _⟩ := HK9.out
                        exact ⟨_, _, _, _, _, _, _, _, ⟨k.A, k.I, k.lo, k.lim.mono (by omega), k.hd, by have := k.sit; omega⟩, r, HL9.out, HRM.out.2, by rcases HF7.out with h | h; exact h; exact absurd h h30⟩
                      clear HK9
                      go_wp2_with fail
                      go_roundw
                      case rel => exact ⟨lb, M, sf, i + 1, c9, a9, by omega, by have := HM.out; omega, hsf1, by have := HM.out; omega, rfl, rfl, rfl, by go_num, HE⟩
                      case measure => simp [RowKit.intOf]; omega
                ·
                  as_aux_lemma =>
                    obtain ⟨hX7, tv7, wv7, k7⟩ := h7.out
                    have R7 := Rcs.keep HQ.out.1.A HQ.out.2.1 k7
                    obtain ⟨y7, z7⟩ := byRow_keep HQ.out.1.A HQ.out.2.2.2.2.1 (fun g' e => by cases e; exact HQ.out.2.2.2.2.2) k7
                    have A7 : w7.heap[B]? = some AR := by
                      rw [← HAR.out]
                      exact arr_keep HQ.out.1.A (by rw [HAR.out]; exact HQ.out.2.2.1) k7
                    clear HAp h7 HQ k7 hwhy
                    obtain ⟨qi, hq, hz0, hz1, hz2⟩ := sl_info
                    obtain ⟨vs, hvl, hvo, hvb, hva⟩ := R7
                    obtain ⟨W8, hW8⟩ : ∃ W8, w7.alloc (.cells #[.slice (some ⟨g, 0, none⟩) j j] 34) = W8 := ⟨_, rfl⟩
                    have b8 : Below w7.heap.size w7 W8 := by rw [← hW8]; exact (Below.refl _ _).alloc (Nat.le_refl _) _
                    have hr8 : W8.heap[w7.heap.size]? = some (.cells #[.slice (some ⟨g, 0, none⟩) j j] 34 (0, 0)) := by rw [← hW8]; exact new_heap w7 _
                    have X8 := hX7.below b8
                    have A8 : W8.heap[B]? = some AR := (b8.block B (Array.getElem?_eq_some_iff.1 A7).1).trans A7
                    have hvo8 : W8.ownsRow w.heap.size 34 1 (.slice aa m ac) rs1.length vs := ownsRow_keep hvo (fun b cs e _ => b8.block b (Array.getElem?_eq_some_iff.1 e).1)
                    have hvb8 := fun k hk => (hvb k hk).below b8
                    have y8 := y7.below b8
                    have HN9 : Hid (∀ v9 w9, w9.ownsRow w.heap.size 34 1 v9 (rs1.length + 1) (vs ++ [.slice (some ⟨g, 0, none⟩) j j]) → W8.grownBy w9 (Value.slice aa m ac).ownBlock → Kx w w9 p nb sb (rs1 ++ [bl]) sf (700 + 2000 * i + 299) (2 + i) ∧ RsRow w9 w.heap.size v9 (rs1 ++ [bl]) ∧ w9.heap[B]? = some AR) := fun v9 w9 ho hg => by
                      have hG := Grew.of hvo8 hg X8.bel.size
                      refine ⟨X8.grown hG, (Rcs.more hvb8 hva hvl hvo8 y8 z7 hg ho).rows, ?_⟩
                      rw [← HAR.out] at A8 ⊢
                      exact (hG.ne B _ _ A8 (by decide)).trans A8
                    have Hsrc : Hid (∀ j' u, [Value.slice (some ⟨g, 0, none⟩) j j][j']? = some u → W8.cell? ((⟨w7.heap.size, 0, none⟩ : Addr).add j') = some u) := World.news_of_block hr8
                    have HVo : Hid (W8.ownsRow w.heap.size 34 1 (.slice aa m ac) rs1.length vs) := hvo8
                    have HW8 : Hid (_ = W8) := hW8
                    have Hsz : Hid (w.heap.size ≤ W8.heap.size) := X8.bel.size
                    have Hm1 : Hid (rs1.length + 1 ≤ maxLen) := by unfold Hid maxLen; omega
                    have Hm2 : Hid ((rs1.length + 1) * 24 ≤ 140737488355328) := by unfold Hid; omega
                    have Hs1 : Hid (∀ u ∈ [Value.slice (some ⟨g, 0, none⟩) j j], u.oneCell' = true) := by intro u hu; simp at hu; subst hu; rfl
                    have HRM : Hid (rs1.length = m) := hrm
                    rw [enE_ne hc0]
                    clear hX7 X8 A7 A8 y7 y8 z7 hvl hvo hvb hva hvo8 hvb8 b8 hr8 hW8 hrm hsr
                    go_wp2_with (at_builtin; rw [HW8.out]; refine wpList_append_own _ rfl _ _ 36 rfl w.heap.size 34 qi (.slice none 0 0) 1 24 Try.underlying36 hq hz0 hz1 hz2 rfl (by decide) _ _ _ rfl HVo.out ⟨w7.heap.size, 0, none⟩ 1 1 [.slice (some ⟨g, 0, none⟩) j j] rfl rfl Hsrc.out Hs1.out Hm1.out Hm2.out Hsz.out ?_)
                    intro v9 w9 hown hgrow _
                    obtain ⟨K9, R9, A9⟩ := HN9.out v9 w9 hown hgrow
                    obtain ⟨a9, c9, rfl⟩ := R9.shape
                    have hl9 : (rs1 ++ [bl]).length = m + 1 := by rw [List.length_append, HRM.out]; rfl
                    rw [hl9] at R9 ⊢
                    obtain ⟨d0, d1, d2, d3⟩ := HV.out w9 A9
                    clear hown hgrow HN9 Hsrc HVo HW8 Hsz Hm1 Hm2 Hs1 hq hz0 hz1 hz2
                    generalize rs1 ++ [bl] = ALL at *
                    have HX : Hid (Kx w w9 p nb sb ALL sf (700 + 2000 * i + 299) (2 + i) ∧ RsRow w9 w.heap.size (.slice a9 (m + 1) c9) ALL ∧ w9.heap[B]? = some AR) := ⟨K9, R9, A9⟩
                    obtain ⟨q2, hq2⟩ : ∃ q2, v0.tmod 2 = q2 := ⟨_, rfl⟩
                    have HL9 : Hid (ALL.length = m + 1) := hl9
                    clear K9 R9 A9 hl9 d1 d2
                    obtain ⟨M, hM⟩ : ∃ M, m + 1 = M := ⟨_, rfl⟩
                    rw [hM] at HX HL9 ⊢
                    have M1 : (M : Int) ≤ 42 := by omega
                    have HM : Hid (m + 1 = M) := hM
                    clear hM
                    by_cases hq0 : q2 = 0
                    · subst hq0
                      as_aux_lemma =>
                        have HCr : Hid (Calls _ _ _ w9 _) := HX.out.1.crash (by omega) (by omega) ra rl rc v3 hrowl (HROWw.out.below HX.out.1.bel)
                        go_wp2_with fail
                        refine HCr.out.mono ?_
                        rintro e w10 ⟨rfl, h10, k10⟩
                        have HO : Hid (Calls _ _ _ w10 _) := h10.out.open_
                        have HR10 : Hid (RsRow w10 w.heap.size (.slice a9 M c9) ALL) := HX.out.2.1.keeps k10.out
                        clear HCr HX h10 k10 d0 d3
                        go_wp2_with fail
                        refine HO.out.mono ?_
                        rintro e w11 ⟨lc, rfl, h11⟩
                        obtain ⟨cv11, D11, tv11, wv11, s11, wh11, rs', K11, hpre, hsfr, hfl11, hb11, htv11⟩ := h11.out
                        have R11 : Rcs w11 w.heap.size tv11 (.slice a9 M c9) ALL := HR10.out.apart hb11 htv11
                        have hI11 : okL rs' ∧ (enc rs').length ≤ 100000 ∧ s11.cnt = rs'.length := by
                          obtain ⟨_, _, _, hI⟩ := K11.I
                          exact ⟨hI.ok, by have := hI.len; omega, hI.cnt⟩
                        have hG1 : rs'.length ≤ M := by rw [← HL9.out]; exact hpre.length_le
                        have HAl : Hid (Calls _ _ _ w11 _) := all_any K11.A hI11.1 hI11.2.1 (by rw [hI11.2.2]; omega)
                        have HK11 : Hid (Kg w w11 p nb sb cv11 D11 lc tv11 wv11 s11 wh11 rs' rs' 10 (2 + i + 1) ∧ Rcs w11 w.heap.size tv11 (.slice a9 M c9) ALL ∧ rs' <+: ALL ∧ D11.fail < 0) := ⟨K11, R11, hpre, hfl11⟩
                        clear HO h11 K11 R11 hI11 hb11 htv11 hfl11 HR10 hpre
                        go_wp2_with fail
                        refine HAl.out.mono ?_
                        rintro e w12 ⟨a12, c12, rfl, h12, hb12⟩
                        obtain ⟨G, hG⟩ : ∃ G, rs'.length = G := ⟨_, rfl⟩
                        have HG' : Hid (rs'.length = G) := hG
                        have H12 : Hid (Kg w w12 p nb sb cv11 D11 lc tv11 wv11 s11 wh11 rs' rs' 10 (2 + i + 1) ∧ Rcs w12 w.heap.size tv11 (.slice a9 M c9) ALL ∧ rs' <+: ALL ∧ D11.fail < 0 ∧ RsRow w12 w11.heap.size (.slice a12 rs'.length c12) rs') := ⟨HK11.out.1.below hb12.out, HK11.out.2.1.below hb12.out, HK11.out.2.2.1, HK11.out.2.2.2, h12.out⟩
                        rw [hG] at hG1 hsfr H12 ⊢
                        have z1 : (G : Int) ≤ M := by omega
                        have z2 : ¬ (G : Int) < (sf : Int) := by omega
                        have z3 : ¬ (M : Int) < G := by omega
                        clear HAl h12 hb12 HK11 hG
                        go_wp2_with fail
                        go_loopw [26] (fun jv wq => ∃ q : Nat, q ≤ G ∧ jv = .int .i64 q ∧ Hid (Below w12.heap.size w12 wq)) (fun jv _ => 100 - (RowKit.intOf jv).toNat)
                        case atStart => exact ⟨0, Nat.zero_le _, rfl, Below.refl _ _⟩
                        case round =>
                          rename World => wq
                          obtain ⟨q, hqG, rfl, HB⟩ := hrel
                          have q0 : (0 : Int) ≤ q := by omega
                          by_cases hq : q < G
                          · have q1 : (q : Int) < G := by omega
                            have q2 : (q : Int) < M := by omega
                            obtain ⟨gx, cx, xa, xc, ex, hcx, hix⟩ := RsRow.cell (rs := rs') (by have := H12.out.2.2.2.2.below HB.out; rw [← HG'.out] at this; exact this) q (by rw [HG'.out]; exact hq)
                            simp only [Value.slice.injEq] at ex
                            obtain ⟨rfl, -, rfl⟩ := ex
                            obtain ⟨gy, cy, ya, yc, ey, hcy, hiy⟩ := RsRow.cell (rs := ALL) (by have := H12.out.2.1.rows.below HB.out; exact this) q (by rw [HL9.out]; omega)
                            simp only [Value.slice.injEq] at ey
                            obtain ⟨rfl, -, rfl⟩ := ey
                            have hsame : rs'.getD q [] = ALL.getD q [] := by
                              obtain ⟨x, hx⟩ := H12.out.2.2.1
                              rw [← hx, List.getD_eq_getElem?_getD, List.getD_eq_getElem?_getD, List.getElem?_append_left (by rw [HG'.out]; exact hq)]
                            rw [hsame] at hcx hix
                            clear hsame
                            generalize ALL.getD q [] = R at *
                            have hS1 : ∀ k, (convert 34 9 (.slice xa R.length xc)).run Try.prog (wq.drewN k) = .ok (.string (txt R)) (wq.drewN k) := fun k => run_str (wq.drewN k) _ _ _ (hix.below ((Still.drewN wq k).below _))
                            have hS2 : ∀ k, (convert 34 9 (.slice ya R.length yc)).run Try.prog (wq.drewN k) = .ok (.string (txt R)) (wq.drewN k) := fun k => run_str (wq.drewN k) _ _ _ (hiy.below ((Still.drewN wq k).below _))
                            clear hix hiy H12
                            generalize txt R = tx at *
                            generalize R.length = RL at *
                            go_wp2_with fail
                            go_quiet (fail)
                            rename Nat => nk
                            have HB2 : Hid (Below w12.heap.size w12 (wq.drewN nk)) := HB.out.trans ((Still.drewN wq nk).below _)
                            clear hS1 hS2 hcx hcy HB
                            go_wp2_with fail
                            go_roundw
                            case rel => exact ⟨q + 1, by omega, by go_num, HB2⟩
                            case measure => simp [RowKit.intOf]; omega
                          · have q1 : ¬ (q : Int) < G := by omega
                            have K13 := H12.out.1.below HB.out
                            have R13 := H12.out.2.1.below HB.out
                            obtain ⟨g9, rfl, -, hc9⟩ := R13.at (by rw [HL9.out]; have := HM.out; omega)
                            have hSl : ∀ U, (Instr.slice 36 (.slice (some ⟨g9, 0, none⟩) M c9) none (some (.int .i64 (G : Int))) none).run Try.prog U = .ok (.slice (some ⟨g9, 0, none⟩) G c9) U := fun U => by
                              have := run_rsH (some ⟨g9, 0, none⟩) M c9 G (by omega) U
                              rw [slA_zero] at this
                              exact this
                            have hpre := H12.out.2.2.1
                            have R14 : Rcs wq w.heap.size tv11 (.slice (some ⟨g9, 0, none⟩) G c9) rs' := by
                              have h1 := Rcs.take (m := G) (by rw [HL9.out]; exact R13) (by rw [HL9.out]; exact hG1) (by simp)
                              rw [← HG'.out, ← List.prefix_iff_eq_take.1 hpre, HG'.out] at h1
                              exact h1
                            have HSz : Hid (Calls Try.prog 9 #[.pointer (some ⟨lc, 0, none⟩)] wq fun e w' => e = .returned .nilIface ∧ Hid (Kl w w' p nb sb lc (.slice (some ⟨g9, 0, none⟩) G c9) G G (i + 1))) := by
                              refine Calls.mono (K13.sync (sf := 0) (by omega) (Nat.zero_le _)) ?_
                              rintro e w' (⟨rfl, h⟩ | ⟨_, h, _⟩)
                              · obtain ⟨cv', D', s', k, hf, kk'⟩ := h.out
                                exact ⟨rfl, cv', D', _, _, _, _, _, _, ⟨k.A, k.I, k.lo, k.lim.mono (by omega), k.hd, by have := k.sit; omega⟩, Rcs.keep K13.A R14 kk', HG'.out, by rw [HG'.out]; exact Nat.le_refl _, by rw [hf]; exact H12.out.2.2.2.1⟩
                              · have := H12.out.2.2.2.1
                                omega
                            clear K13 R13 R14 hpre HB H12 hc9
                            go_wp2_with fail
                            refine HSz.out.mono ?_
                            rintro e w15 ⟨rfl, HE⟩
                            clear HSz hSl
                            go_wp2_with fail
                            go_roundw
                            case rel => exact ⟨lc, G, G, i + 1, c9, some ⟨g9, 0, none⟩, by omega, by have := HM.out; omega, by have := HM.out; omega, Nat.le_refl _, rfl, rfl, rfl, by go_num, HE⟩
                            case measure => simp [RowKit.intOf]; omega
                    · have hq0' : (q2 == 0) = false := by rw [beq_eq_false_iff_ne]; exact hq0
                      as_aux_lemma =>
                        have HCr : Hid (Calls _ _ _ w9 _) := HX.out.1.crash (by omega) (by omega) ra rl rc v3 hrowl (HROWw.out.below HX.out.1.bel)
                        go_wp2_with fail
                        refine HCr.out.mono ?_
                        rintro e w10 ⟨rfl, h10, k10⟩
                        have HO : Hid (Calls _ _ _ w10 _) := h10.out.open_
                        have HR10 : Hid (RsRow w10 w.heap.size (.slice a9 M c9) ALL) := HX.out.2.1.keeps k10.out
                        clear HCr HX h10 k10 d0 d3
                        go_wp2_with fail
                        refine HO.out.mono ?_
                        rintro e w11 ⟨lc, rfl, h11⟩
                        obtain ⟨cv11, D11, tv11, wv11, s11, wh11, rs', K11, hpre, hsfr, hfl11, hb11, htv11⟩ := h11.out
                        have R11 : Rcs w11 w.heap.size tv11 (.slice a9 M c9) ALL := HR10.out.apart hb11 htv11
                        have hI11 : okL rs' ∧ (enc rs').length ≤ 100000 ∧ s11.cnt = rs'.length := by
                          obtain ⟨_, _, _, hI⟩ := K11.I
                          exact ⟨hI.ok, by have := hI.len; omega, hI.cnt⟩
                        have hG1 : rs'.length ≤ M := by rw [← HL9.out]; exact hpre.length_le
                        have HAl : Hid (Calls _ _ _ w11 _) := all_any K11.A hI11.1 hI11.2.1 (by rw [hI11.2.2]; omega)
                        have HK11 : Hid (Kg w w11 p nb sb cv11 D11 lc tv11 wv11 s11 wh11 rs' rs' 10 (2 + i + 1) ∧ Rcs w11 w.heap.size tv11 (.slice a9 M c9) ALL ∧ rs' <+: ALL ∧ D11.fail < 0) := ⟨K11, R11, hpre, hfl11⟩
                        clear HO h11 K11 R11 hI11 hb11 htv11 hfl11 HR10 hpre
                        go_wp2_with fail
                        refine HAl.out.mono ?_
                        rintro e w12 ⟨a12, c12, rfl, h12, hb12⟩
                        obtain ⟨G, hG⟩ : ∃ G, rs'.length = G := ⟨_, rfl⟩
                        have HG' : Hid (rs'.length = G) := hG
                        have H12 : Hid (Kg w w12 p nb sb cv11 D11 lc tv11 wv11 s11 wh11 rs' rs' 10 (2 + i + 1) ∧ Rcs w12 w.heap.size tv11 (.slice a9 M c9) ALL ∧ rs' <+: ALL ∧ D11.fail < 0 ∧ RsRow w12 w11.heap.size (.slice a12 rs'.length c12) rs') := ⟨HK11.out.1.below hb12.out, HK11.out.2.1.below hb12.out, HK11.out.2.2.1, HK11.out.2.2.2, h12.out⟩
                        rw [hG] at hG1 hsfr H12 ⊢
                        have z1 : (G : Int) ≤ M := by omega
                        have z2 : ¬ (G : Int) < (sf : Int) := by omega
                        have z3 : ¬ (M : Int) < G := by omega
                        clear HAl h12 hb12 HK11 hG
                        go_wp2_with fail
                        go_loopw [26] (fun jv wq => ∃ q : Nat, q ≤ G ∧ jv = .int .i64 q ∧ Hid (Below w12.heap.size w12 wq)) (fun jv _ => 100 - (RowKit.intOf jv).toNat)
                        case atStart => exact ⟨0, Nat.zero_le _, rfl, Below.refl _ _⟩
                        case round =>
                          rename World => wq
                          obtain ⟨q, hqG, rfl, HB⟩ := hrel
                          have q0 : (0 : Int) ≤ q := by omega
                          by_cases hq : q < G
                          · have q1 : (q : Int) < G := by omega
                            have q2 : (q : Int) < M := by omega
                            obtain ⟨gx, cx, xa, xc, ex, hcx, hix⟩ := RsRow.cell (rs := rs') (by have := H12.out.2.2.2.2.below HB.out; rw [← HG'.out] at this; exact this) q (by rw [HG'.out]; exact hq)
                            simp only [Value.slice.injEq] at ex
                            obtain ⟨rfl, -, rfl⟩ := ex
                            obtain ⟨gy, cy, ya, yc, ey, hcy, hiy⟩ := RsRow.cell (rs := ALL) (by have := H12.out.2.1.rows.below HB.out; exact this) q (by rw [HL9.out]; omega)
                            simp only [Value.slice.injEq] at ey
                            obtain ⟨rfl, -, rfl⟩ := ey
                            have hsame : rs'.getD q [] = ALL.getD q [] := by
                              obtain ⟨x, hx⟩ := H12.out.2.2.1
                              rw [← hx, List.getD_eq_getElem?_getD, List.getD_eq_getElem?_getD, List.getElem?_append_left (by rw [HG'.out]; exact hq)]
                            rw [hsame] at hcx hix
                            clear hsame
                            generalize ALL.getD q [] = R at *
                            have hS1 : ∀ k, (convert 34 9 (.slice xa R.length xc)).run Try.prog (wq.drewN k) = .ok (.string (txt R)) (wq.drewN k) := fun k => run_str (wq.drewN k) _ _ _ (hix.below ((Still.drewN wq k).below _))
                            have hS2 : ∀ k, (convert 34 9 (.slice ya R.length yc)).run Try.prog (wq.drewN k) = .ok (.string (txt R)) (wq.drewN k) := fun k => run_str (wq.drewN k) _ _ _ (hiy.below ((Still.drewN wq k).below _))
                            clear hix hiy H12
                            generalize txt R = tx at *
                            generalize R.length = RL at *
                            go_wp2_with fail
                            go_quiet (fail)
                            rename Nat => nk
                            have HB2 : Hid (Below w12.heap.size w12 (wq.drewN nk)) := HB.out.trans ((Still.drewN wq nk).below _)
                            clear hS1 hS2 hcx hcy HB
                            go_wp2_with fail
                            go_roundw
                            case rel => exact ⟨q + 1, by omega, by go_num, HB2⟩
                            case measure => simp [RowKit.intOf]; omega
                          · have q1 : ¬ (q : Int) < G := by omega
                            have K13 := H12.out.1.below HB.out
                            have R13 := H12.out.2.1.below HB.out
                            obtain ⟨g9, rfl, -, hc9⟩ := R13.at (by rw [HL9.out]; have := HM.out; omega)
                            have hSl : ∀ U, (Instr.slice 36 (.slice (some ⟨g9, 0, none⟩) M c9) none (some (.int .i64 (G : Int))) none).run Try.prog U = .ok (.slice (some ⟨g9, 0, none⟩) G c9) U := fun U => by
                              have := run_rsH (some ⟨g9, 0, none⟩) M c9 G (by omega) U
                              rw [slA_zero] at this
                              exact this
                            have hpre := H12.out.2.2.1
                            have R14 : Rcs wq w.heap.size tv11 (.slice (some ⟨g9, 0, none⟩) G c9) rs' := by
                              have h1 := Rcs.take (m := G) (by rw [HL9.out]; exact R13) (by rw [HL9.out]; exact hG1) (by simp)
                              rw [← HG'.out, ← List.prefix_iff_eq_take.1 hpre, HG'.out] at h1
                              exact h1
                            have HSz : Hid (Calls Try.prog 9 #[.pointer (some ⟨lc, 0, none⟩)] wq fun e w' => e = .returned .nilIface ∧ Hid (Kl w w' p nb sb lc (.slice (some ⟨g9, 0, none⟩) G c9) G G (i + 1))) := by
                              refine Calls.mono (K13.sync (sf := 0) (by omega) (Nat.zero_le _)) ?_
                              rintro e w' (⟨rfl, h⟩ | ⟨_, h, _⟩)
                              · obtain ⟨cv', D', s', k, hf, kk'⟩ := h.out
                                exact ⟨rfl, cv', D', _, _, _, _, _, _, ⟨k.A, k.I, k.lo, k.lim.mono (by omega), k.hd, by have := k.sit; omega⟩, Rcs.keep K13.A R14 kk', HG'.out, by rw [HG'.out]; exact Nat.le_refl _, by rw [hf]; exact H12.out.2.2.2.1⟩
                              · have := H12.out.2.2.2.1
                                omega
                            clear K13 R13 R14 hpre HB H12 hc9
                            go_wp2_with fail
                            refine HSz.out.mono ?_
                            rintro e w15 ⟨rfl, HE⟩
                            clear HSz hSl
                            go_wp2_with fail
                            go_roundw
                            case rel => exact ⟨lc, G, G, i + 1, c9, some ⟨g9, 0, none⟩, by omega, by have := HM.out; omega, by have := HM.out; omega, Nat.le_refl _, rfl, rfl, rfl, by go_num, HE⟩
                            case measure => simp [RowKit.intOf]; omega
    · have HB : Hid (Below w.heap.size w wr) := H.out.bel
      by_cases hcl2 : i < rs.length
      · have i1 : (i : Int) < rs.length := by omega
        have i2 : ¬ (i : Int) < 40 := by omega
        clear hlt H
        go_wp2
        go_ret
        exact ⟨rfl, HB.out⟩
      · have i1 : ¬ (i : Int) < rs.length := by omega
        clear hlt H
        go_wp2
        go_ret
        exact ⟨rfl, HB.out⟩
end Go.Proofs.Ytamilceeffocpaa
