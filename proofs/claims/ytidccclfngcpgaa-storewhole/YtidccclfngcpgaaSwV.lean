/-
  The walk of daylaw2.StoreWhole.
-/
import Derived.Test.YtidccclfngcpgaaSwW
import Derived.Deep.CutRange
import Derived.Deep.CutBlock
import Derived.WalkLawsBesides
namespace Go.Proofs.Ytidccclfngcpgaa
set_option linter.unusedVariables false
set_option linter.unusedSimpArgs false
set_option maxRecDepth 100000
open Go.RowKit Go.Lib
set_option maxHeartbeats 16000000 in
theorem whole_walk (a : Option Addr) (rs : List Rw) (cap : Nat) (w : World) (hrs : IsRs w a rs cap) (hrl : rs.length ≤ 9223372036854775807) :
    Calls Try.prog 3 #[.slice a rs.length cap] w fun e w' => e = .returned (.bool true) ∧ Below w.heap.size w w' := by
  have HNew : Hid (Calls _ _ _ w _) := tn_new 90 w (by omega) (by omega)
  obtain ⟨ef, en, ff, fl⟩ := fmtD_eq 90
  have HFm : Hid (∀ W p nb sb cv, Tn w W p nb sb cv 90 (dk0 90) → Calls Try.prog 5 #[.pointer (some ⟨p, 0, none⟩)] W fun e w' => e = .returned .nilIface ∧ ∃ cv', Hid (Tn w w' p nb sb cv' 90 (fmtD 90))) := fun W p nb sb cv hW => by
    have hz : ∀ i, i < 90 → (dk0 90).now.getD i bk0 = bk0 := fun i hi => by
      show (List.replicate 90 bk0).getD i bk0 = bk0
      rw [List.getD_eq_getElem?_getD, List.getElem?_replicate, if_pos hi]; rfl
    refine (format_any hW (by omega) (by omega) ⟨by show 0 ≤ 999980; omega, by show 0 ≤ 999980; omega⟩ none none (.inr (hz 0 (by omega))) (.inr (hz 1 (by omega)))).mono ?_
    rw [show newer none none = none from rfl, ef]
    rintro e w' ⟨rfl, cv', h1, _⟩
    exact ⟨rfl, cv', h1⟩
  have HOp : Hid (∀ W p nb sb cv D h f, Tn w W p nb sb cv 90 D → Good D h f → Calls Try.prog 6 #[.pointer (some ⟨p, 0, none⟩)] W fun e w' => ∃ s mb, e = .returned (.tuple #[.pointer (some ⟨s, 0, none⟩), .nilIface]) ∧ Hid (StAt w w' p nb sb cv 90 D s mb h [] false) ∧ Hid (Below W.heap.size W w')) := fun W p nb sb cv D h f hW g => by
    obtain ⟨o0, o1, h0, h1, h2⟩ := g.heads
    exact open_some hW (by omega) o0 o1 h0 h1 h h2
  have HRS : Hid (IsRs w a rs cap) := hrs
  have hrl' : (rs.length : Int) ≤ 9223372036854775807 := by omega
  have HL0 : Hid ((fmtD 90).lim 3) := fl
  clear hrs ef en ff fl
  go_enter Try.func3, Try.ntmps3
  go_wp2_with fail
  refine HNew.out.mono ?_
  rintro e w1 ⟨p, nb, sb, rfl, ht1⟩
  have HF1 : Hid (Calls _ _ _ w1 _) := HFm.out w1 p nb sb _ ht1.out
  clear HNew HFm ht1
  go_wp2_with fail
  refine HF1.out.mono ?_
  rintro e w2 ⟨rfl, cv2, ht2⟩
  have HO2 : Hid (Calls _ _ _ w2 _) := HOp.out w2 p nb sb cv2 _ _ _ ht2.out fmt_good
  clear HF1 ht2
  go_wp2_with fail
  refine HO2.out.mono ?_
  rintro e w3 ⟨s, mb, rfl, hs3, _⟩
  have HP3 : Hid (Calls _ _ _ _ _) := put_ok (hs3.out.below ((Below.refl _ w3).alloc (Nat.le_refl _) (.cells (byC [7]).toArray 5))) 3 (by omega) (some ⟨w3.heap.size, 0, none⟩) [7] 1 (isBy_new w3 _) (.inr (by simp)) (by simp)
  rw [show (byC [7]).toArray = #[.int .u8 7] from rfl, show ([7] : List UInt8).length = 1 from rfl, show ((3 : Nat) : Int) = 3 from rfl] at HP3
  clear HO2 hs3
  go_wp2_with fail
  refine HP3.out.mono ?_
  rintro e w4 ⟨rfl, hs4, _⟩
  have HG4 : Hid (Calls _ _ _ w4 _) := get_any hs4.out 3 (by omega) [] (fmt_good.pg.2 3 (by omega)) (fun j l e => by
    rw [show upd [] 3 [7] = [(3, ([7] : List UInt8))] from rfl] at e
    unfold look at e
    split at e
    · cases e; simp
    · cases e)
  rw [show ((look (upd [] 3 [7]) 3).getD ([] : List UInt8)) = [7] from rfl, show ([7] : List UInt8).length = 1 from rfl, show ((3 : Nat) : Int) = 3 from rfl] at HG4
  clear HP3
  go_wp2_with fail
  refine HG4.out.mono ?_
  rintro e w5 ⟨ad5, cp5, rfl, _, hb5⟩
  have HR5 : Hid (Calls _ _ _ w5 _) := rollback_any (hs4.out.below hb5.out)
  clear HG4 hs4 hb5
  go_wp2_with fail
  refine HR5.out.mono ?_
  rintro e w6 ⟨rfl, hs6, _, _⟩
  have HS6 : Hid (Swx w w6 p nb sb s 0 0) := ⟨cv2, mb, _, _, _, hs6.out, fmt_good, HL0.out.mono (by omega), Nat.le_refl 0, ⟨rfl, rfl⟩, Nat.le_refl _⟩
  rw [show ((upd [] 3 [7] : List (Nat × List UInt8)).length : Int) = 1 from rfl]
  clear HR5 hs6 HL0
  go_wp2_with fail
  go_loopw [6, 9, 10] (fun sv fv iv wr => ∃ s m sf : Nat, m ≤ 30 ∧ sv = .pointer (some ⟨s, 0, none⟩) ∧ fv = .int .i64 sf ∧ iv = .int .i64 m ∧ Hid (Swx w wr p nb sb s m sf)) (fun _ _ i _ => 30 - (intOf i).toNat)
  case atStart => exact ⟨s, 0, 0, by omega, rfl, rfl, rfl, HS6⟩
  case round =>
    clear HS6
    obtain ⟨s, m, sf, hm, rfl, rfl, rfl, H⟩ := hrel
    obtain ⟨cv, mb, D, h, f, A⟩ := H.out
    by_cases hlt : m < rs.length ∧ m < 30
    · obtain ⟨hlt1, hlt2⟩ := hlt
      have m0 : (0 : Int) ≤ m := by omega
      have m1 : (m : Int) < rs.length := by omega
      have m2 : (m : Int) < 30 := by omega
      have hal := alloc_v
      have hrs := HRS.out.below A.st.tn.2
      have hmem : rs.getD m rw0 ∈ rs := by
        rw [List.getD_eq_getElem?_getD, List.getElem?_eq_getElem hlt1]; exact List.getElem_mem hlt1
      obtain ⟨hrow, hrowl⟩ := hrs.rows _ hmem
      have hroww := (HRS.out.rows _ hmem).1
      obtain ⟨b0, off0, rfl, hb0w, hcRw⟩ : ∃ b off, a = some ⟨b, off, none⟩ ∧ b < w.heap.size ∧ w.cell? ⟨b, off + m, none⟩ = some (.slice (rs.getD m rw0).ad (rs.getD m rw0).l.length (rs.getD m rw0).cap) := by
        rcases HRS.out.lies with e | ⟨b, off, e, h1, h2⟩
        · subst e; simp at hlt1
        · exact ⟨b, off, e, h1, h2 m hlt1⟩
      have hcR0 := (A.st.tn.2.cell (p := ⟨b0, off0 + m, none⟩) hb0w).trans hcRw
      generalize rs.getD m rw0 = r at *
      obtain ⟨ra, rl, rc⟩ := r
      simp only at hrow hrowl hcR0 hroww hcRw
      clear hcRw
      have HROWw : Hid (IsIn w ra rl rc) := hroww
      clear hroww
      have HE : Hid (∀ X j, j < rl.length → ∃ b1 off1, ra = some ⟨b1, off1, none⟩ ∧ (wr.alloc (.cells X 38)).cell? ⟨b1, off1 + j, none⟩ = some (.int .i64 (rl.getD j 0))) := by
        intro X j hj
        rcases hrow.lies with e | ⟨b, off, e, h1, h2⟩
        · subst e; simp at hj
        · exact ⟨b, off, e, (World.cell?_alloc_lt _ _ _ h1).trans (h2 j hj)⟩
      have hrowl' : (rl.length : Int) ≤ 9223372036854775807 := by omega
      have HA : Hid (Sw w wr p nb sb cv s mb D h f m sf) := A
      clear H A hrs hmem hrow
      go_upto_block 2 with (refine wpList_alloc_run rfl 38 rfl (hal _) ?_)
      go_cut [13] from 64 to 213 (fun t wx => wx = wr.alloc (.cells (va rl) 38))
      case first =>
        clear hal
        go_wp2_with fail
        go_loopw [13] (fun t wq => ∃ j : Nat, j ≤ 3 ∧ j ≤ rl.length ∧ t = .int .i64 j ∧ wq = wr.alloc (.cells (va (rl.take j)) 38)) (fun t _ => 3 - (intOf t).toNat)
        case atStart => exact ⟨0, by omega, by omega, rfl, by simp⟩
        case round =>
          rename World => wq
          obtain ⟨j, hj4, hjl, rfl, rfl⟩ := hrel
          by_cases hj : j < rl.length ∧ j < 3
          · obtain ⟨b1, off1, rfl, hce⟩ := HE.out (va (rl.take j)) j hj.1
            have hset := va_set rl j hj.1 hj.2
            have hget := va_get (rl.take j) j hj.2
            have j0 : (0 : Int) ≤ j := by omega
            have j1 : (j : Int) < rl.length := by omega
            have j2 : (j : Int) < 3 := by omega
            generalize rl.getD j 0 = x at *
            generalize (rl.take j).getD j 0 = z at *
            go_wp2_with fail
            go_roundw
            case rel => exact ⟨j + 1, by omega, by omega, by go_num, by first | rfl | trivial⟩
            case measure => simp [intOf]; omega
          · have hv := va_take rl j (by omega)
            rw [hv]
            by_cases hjj : j < rl.length
            · have j2 : ¬ (j : Int) < 3 := by omega
              have j1 : (j : Int) < rl.length := by omega
              go_wp2_with fail
              go_meet
              first | rfl | trivial
            · have j1 : ¬ (j : Int) < rl.length := by omega
              go_wp2_with fail
              go_meet
              first | rfl | trivial
      case rest =>
        clear hal HE
        subst hcut
        have hst1 := HA.out.st.below ((Below.refl _ wr).alloc (Nat.le_refl _) (.cells (va rl) 38))
        have hbx := new_heap wr (.cells (va rl) 38)
        generalize wr.alloc (.cells (va rl) 38) = W1 at *
        generalize wr.heap.size = B at *
        have HV : Hid (∀ U : World, U.heap[B]? = some (.cells (va rl) 38 (0, 0)) → U.cell? ⟨B, 0, none⟩ = some (.int .i64 (rl.getD 0 0)) ∧ U.cell? ⟨B, 1, none⟩ = some (.int .i64 (rl.getD 1 0)) ∧ U.cell? ⟨B, 2, none⟩ = some (.int .i64 (rl.getD 2 0))) := by
          intro U hU
          simp [World.cell?, hU, va]
        obtain ⟨d0, d1, d2⟩ := HV.out W1 hbx
        generalize hv0 : rl.getD 0 0 = v0 at *
        generalize hv1 : rl.getD 1 0 = v1 at *
        generalize hv2 : rl.getD 2 0 = v2 at *
        clear hv0 hv1 hv2
        obtain ⟨t, ht⟩ : ∃ t, v0.tmod 13 = t := ⟨_, rfl⟩
        have hq1 : -13 < t ∧ t < 13 := by rw [← ht]; exact ⟨by have := Int.lt_tmod_of_pos v0 (show (0 : Int) < 13 by omega); omega, Int.tmod_lt_of_pos v0 (by omega)⟩
        obtain ⟨k, hkq⟩ : ∃ k : Nat, (t + 13).tmod 13 = (k : Int) := ⟨((t + 13).tmod 13).toNat, by have := Int.tmod_nonneg 13 (show 0 ≤ t + 13 by omega); omega⟩
        have hk : k < 13 := by have := Int.tmod_lt_of_pos (t + 13) (show (0 : Int) < 13 by omega); omega
        obtain ⟨t1, t2⟩ := hq1
        have k0 : (0 : Int) ≤ k := by omega
        have k1 : (k : Int) < 13 := by omega
        have HP1 : Hid (Calls _ _ _ _ _) := put_two hst1 k (by omega) m hlt2 1 1 rfl
        have HBX : Hid (W1.heap[B]? = some (.cells (va rl) 38 (0, 0))) := hbx
        clear hst1 hbx
        go_wp2_with fail
        refine HP1.out.mono ?_
        rintro e W2 ⟨rfl, hs2, hk2⟩
        have HB2 : Hid (W2.heap[B]? = some (.cells (va rl) 38 (0, 0))) := hk2.out.row HBX.out (by decide)
        have HP2 : Hid (Calls _ _ _ _ _) := put_two hs2.out 20 (by omega) m hlt2 2 2 rfl
        rw [show ((20 : Nat) : Int) = 20 from rfl] at HP2
        clear HP1 hs2 hk2 HBX d0 d1 d2 ht hkq
        go_wp2_with fail
        refine HP2.out.mono ?_
        rintro e W3 ⟨rfl, hs3, hk3⟩
        have HB3 : Hid (W3.heap[B]? = some (.cells (va rl) 38 (0, 0))) := hk3.out.row HB2.out (by decide)
        have HP3 : Hid (Calls _ _ _ _ _) := put_two hs3.out 39 (by omega) m hlt2 3 3 rfl
        rw [show ((39 : Nat) : Int) = 39 from rfl] at HP3
        clear HP2 hs3 hk3 HB2
        go_wp2_with fail
        refine HP3.out.mono ?_
        rintro e W4 ⟨rfl, hs4, hk4⟩
        have HB4 : Hid (W4.heap[B]? = some (.cells (va rl) 38 (0, 0))) := hk4.out.row HB3.out (by decide)
        have HS4 : Hid (StAt w W4 p nb sb cv 90 D s mb h (putP k m) false) := hs4.out
        clear HP3 hs4 hk4 HB3
        obtain ⟨_, d1, d2⟩ := HV.out W4 HB4.out
        have hvr := HA.out.vr
        by_cases hneg : v1 < 0
        · have HCm : Hid (Calls _ _ _ W4 _) := commit_ok HS4.out HA.out.gd.fl (HA.out.lm.mono (by omega)) (by omega) (by omega) (putP_short k m) (by omega)
          have n1 : ¬ 0 ≤ v1 := by omega
          go_wp2_with fail
          refine HCm.out.mono ?_
          rintro e W5 ⟨rfl, cv5, hs5, hk5⟩
          have HB5 := hk5.out.row HB4.out (by decide)
          obtain ⟨_, d15, _⟩ := HV.out W5 HB5
          have HX : Hid (Swx w W5 p nb sb s (m + 1) (m + 1)) := HA.out.stay hlt2 k hs5.out
          clear HCm hs5 hk5 HB5 HB4 HS4 HA d1 d2
          go_wp2_with fail
          go_roundw
          case rel => exact ⟨s, m + 1, m + 1, by omega, rfl, by go_num, by go_num, HX⟩
          case measure => simp [intOf]; omega
        · have p1 : 0 ≤ v1 := by omega
          obtain ⟨r, hr⟩ : ∃ r, v1.tmod 8 = r := ⟨_, rfl⟩
          have r1 : 0 ≤ r ∧ r < 8 := by rw [← hr]; exact ⟨Int.tmod_nonneg 8 p1, Int.tmod_lt_of_pos v1 (by omega)⟩
          obtain ⟨r0, r8⟩ := r1
          have hstp := HA.out.lm.s
          have q0 : (0 : Int) ≤ (D.steps : Int) := by omega
          have q1 : (D.steps : Int) ≤ 2000 := by omega
          have hsd : StAt w W4.drew p nb sb cv 90 D s mb h (putP k m) false := HS4.out.below (drewB W4)
          have d1d : W4.drew.cell? ⟨B, 1, none⟩ = some (.int .i64 v1) := d1
          have HSt : Hid (Calls _ _ _ W4.drew _) := steps_any w.heap.size p nb sb cv 90 D W4.drew hsd.tn.1
          have HFl : Hid (Calls _ _ _ W4.drew _) := tn_fail hsd.tn ((D.steps : Int) + r)
          have HSD : Hid (StAt w W4.drew p nb sb cv 90 D s mb h (putP k m) false) := hsd
          have HBD : Hid (W4.drew.heap[B]? = some (.cells (va rl) 38 (0, 0))) := HB4.out
          obtain ⟨st, hst⟩ : ∃ st : Int, (D.steps : Int) = st := ⟨_, rfl⟩
          rw [hst] at q0 q1 HSt HFl
          have HDs : Hid ((D.steps : Int) = st) := hst
          clear hsd HS4 HB4 hst hstp d2 hneg
          go_wp2_with fail
          refine wp_region_drawn (by kernel_rfl) ?_
          generalize W4.drew = W5 at *
          refine wpAny_take (i := 0) (v := .pointer (some ⟨p, 0, none⟩)) rfl (by kernel_rfl) (by kernel_rfl) (by kernel_rfl) (fun _ _ _ h => h) (Or.inl ⟨by rfl, fun w => by go_simp⟩) ?_
          simp only [Act.put, List.getElem_toArray, List.getElem_cons_succ, List.getElem_cons_zero, List.setIfInBounds_toArray, List.set_cons_zero, List.set_cons_succ]
          refine wpAny_take (i := 1) (v := .pointer (some ⟨p, 0, none⟩)) rfl (by kernel_rfl) (by kernel_rfl) (by kernel_rfl) (fun _ _ _ h => h) (Or.inl ⟨by rfl, fun w => by go_simp⟩) ?_
          simp only [Act.put, List.getElem_toArray, List.getElem_cons_succ, List.getElem_cons_zero, List.setIfInBounds_toArray, List.set_cons_zero, List.set_cons_succ]
          refine wpAny_take (i := 3) (v := .pointer (some ⟨B, 1, none⟩)) rfl (by kernel_rfl) (by kernel_rfl) (by kernel_rfl) (fun _ _ _ h => h) (Or.inl ⟨by rfl, fun w => by go_simp⟩) ?_
          simp only [Act.put, List.getElem_toArray, List.getElem_cons_succ, List.getElem_cons_zero, List.setIfInBounds_toArray, List.set_cons_zero, List.set_cons_succ]
          refine any_of_L (g := 6) (T := fun u => u = W5) _ _ _ _ ?_
          refine L_take2 (i := 4) (m := 5) (v := .int .i64 v1) rfl rfl rfl (by kernel_rfl) (by kernel_rfl) (by decide) (by kernel_rfl) (by kernel_rfl) (by kernel_rfl) (by kernel_rfl) (by kernel_rfl) (fun _ _ _ h => h) (Or.inl ⟨by rfl, fun w' hw' => by subst hw'; go_simp⟩) rfl ?_
          simp only [Act.put, List.getElem_toArray, List.getElem_cons_succ, List.getElem_cons_zero, List.setIfInBounds_toArray, List.set_cons_zero, List.set_cons_succ]
          refine L_take (i := 5) (v := .int .i64 r) rfl rfl (by kernel_rfl) (by decide) (by kernel_rfl) (by kernel_rfl) (by kernel_rfl) (by kernel_rfl) (fun _ _ _ h => h) (Or.inl ⟨by rfl, fun w' hw' => by subst hw'; go_simp⟩) rfl ?_
          simp only [Act.put, List.getElem_toArray, List.getElem_cons_succ, List.getElem_cons_zero, List.setIfInBounds_toArray, List.set_cons_zero, List.set_cons_succ]
          refine L_one (i := 2) (by kernel_rfl) ?_
          refine wpOp_step rfl ?_
          intro K hK
          rw [if_pos (by rfl)]
          have hK' : Shut (∀ a w, _ → K a w) := hK
          clear hK
          go_wp2_with fail
          refine HSt.out.mono ?_
          rintro e W5b ⟨rfl, hw5⟩
          rw [hw5]
          refine hK'.out _ _ ⟨rfl, ?_⟩
          clear hK' K hw5 W5b
          refine L_go (by kernel_rfl) (by kernel_rfl) ?_
          refine wpOp_step rfl ?_
          intro K hK
          rw [if_pos (by rfl)]
          have hK' : Shut (∀ a w, _ → K a w) := hK
          clear hK
          go_wp2_with fail
          refine hK'.out _ _ ?_
          clear hK' K
          refine any_one (i := 7) (by kernel_rfl) ?_
          refine wpOp_step rfl ?_
          intro K hK
          rw [if_pos (by rfl)]
          have hK' : Shut (∀ a w, _ → K a w) := hK
          clear hK
          go_wp2_with fail
          refine HFl.out.mono ?_
          rintro e W6 ⟨rfl, ht6, hk6⟩
          refine hK'.out _ _ ?_
          clear hK' K
          refine wpAny_done (by kernel_rfl) ?_ _
          have hs6 : StAt w W6 p nb sb cv 90 { D with fail := st + r } s mb h (putP k m) false := HSD.out.disk ht6.out hk6.out
          have HB6 : Hid (W6.heap[B]? = some (.cells (va rl) 38 (0, 0))) := hk6.out.row HBD.out (by decide)
          obtain ⟨E, hE⟩ : ∃ E : Dk, ({ D with fail := st + r } : Dk) = E := ⟨_, rfl⟩
          have hlE : E.lim (3 + 50 * m) := by rw [← hE]; exact ⟨HA.out.lm.s, HA.out.lm.c⟩
          have hgE : Good { E with fail := -1 } h f := by
            rw [← hE]
            have g := HA.out.gd
            exact ⟨g.sf, g.cg, by show (-1 : Int) < 0; decide, g.ln, g.hd, g.ot, g.pg⟩
          rw [hE] at hs6
          have HCm : Hid (Calls _ _ _ W6 _) := commit_any hs6 (hlE.mono (by omega)) (by omega) (by omega) (putP_short k m) (by omega)
          have HGa : Hid (∃ h' f' x, Good ((cmR E h (putP k m)).2.crash rl v2) h' f' ∧ h'.ver ≤ m + 1 ∧ pgN f' x ∧ (((cmR E h (putP k m)).1 ≠ 0 ∧ x = sf) ∨ x = m + 1)) := hgE.after k hvr hlt2 HA.out.pg HA.out.le rl v2
          have HCg : Hid ((cmR E h (putP k m)).2.chg.length ≤ 1000000) := Nat.le_trans (cm_chg hlE) (by omega)
          have HCd : Hid ((cmR E h (putP k m)).1 = 0 ∨ (cmR E h (putP k m)).1 = 7) := by
            rcases cmR_ends E h (putP k m) with h1 | h1
            · exact .inl h1.1
            · exact .inr h1.1
          have hsfm := HA.out.le
          clear HA hE hlE hgE hs6 ht6 hk6 HSt HFl HSD HBD HDs d1d
          generalize cmHd E h (putP k m) = hN at *
          generalize cmLost E h (putP k m) = lN at *
          generalize cmR E h (putP k m) = C at *
          go_wp2_with fail
          refine HCm.out.mono ?_
          rintro e W7 ⟨rfl, cv7, hs7, hk7⟩
          have HB7 := hk7.out.row HB6.out (by decide)
          obtain ⟨_, d17, d27⟩ := HV.out W7 HB7
          have HCr : Hid (Calls _ _ _ W7 _) := tn_crash hs7.out.tn ra rl rc v2 HCg.out hrowl (HROWw.out.below hs7.out.tn.2)
          obtain ⟨h', f', x, hg', hv', hp', hx'⟩ := HGa.out
          have HGd : Hid (Good (C.2.crash rl v2) h' f' ∧ h'.ver ≤ m + 1) := ⟨hg', hv'⟩
          have hcd := HCd.out
          have HGt : Hid (∀ (W : World) (s2 mb2 j : Nat), j < 40 → StAt w W p nb sb (.slice none 0 0) 90 (C.2.crash rl v2) s2 mb2 h' [] false → Calls Try.prog 8 #[.pointer (some ⟨s2, 0, none⟩), .int .i64 (j : Int)] W fun e w' => ∃ ad cap, e = .returned (.tuple #[.slice ad (f' j).length cap, .nilIface]) ∧ Hid (IsBy w' ad (f' j) cap) ∧ Hid (Below W.heap.size W w')) := fun W s2 mb2 j hj ha => by
            have q := get_any ha j hj (f' j) (hg'.pg.2 j hj) (fun j l e => by cases e)
            rw [show (look [] j).getD (f' j) = f' j from rfl] at q
            exact q
          have HSx : Hid (∀ (W : World) (s2 mb2 : Nat), StAt w W p nb sb (.slice none 0 0) 90 (C.2.crash rl v2) s2 mb2 h' [] false → x ≤ m + 1 → Swx w W p nb sb s2 (m + 1) x) := fun W s2 mb2 ha hx => ⟨_, mb2, _, _, _, ha, hg', ⟨Nat.zero_le _, Nat.zero_le _⟩, hv', hp', hx⟩
          have HOc : Hid (∀ W, Tn w W p nb sb (.slice none 0 0) 90 (C.2.crash rl v2) → Calls Try.prog 6 #[.pointer (some ⟨p, 0, none⟩)] W fun e w' => ∃ s mb, e = .returned (.tuple #[.pointer (some ⟨s, 0, none⟩), .nilIface]) ∧ Hid (StAt w w' p nb sb (.slice none 0 0) 90 (C.2.crash rl v2) s mb h' [] false) ∧ Hid (Below W.heap.size W w')) := fun W hW => HOp.out W p nb sb (.slice none 0 0) (C.2.crash rl v2) h' f' hW hg'
          generalize C.2.crash rl v2 = F at *
          clear HCm hs7 hk7 HB7 HB6 HGa HCg HCd hg' hv' HGd
          rcases hcd with e0 | e7
          · rw [e0, enE_zero]
            obtain rfl : x = m + 1 := by
              rcases hx' with ⟨h1, _⟩ | h1
              · exact absurd e0 h1
              · exact h1
            clear hx' e0 hsfm
            have e20 : f' 20 = [UInt8.ofNat (m + 1), 2] := by rw [hp'.1, if_neg (by omega)]
            have e39 : f' 39 = [UInt8.ofNat (m + 1), 3] := by rw [hp'.2, if_neg (by omega)]
            have eX : ((UInt8.ofNat (m + 1)).toNat : Int) = ((m : Int) + 1) := by rw [UInt8.toNat_ofNat']; omega
            go_wp2_with fail
            refine HCr.out.mono ?_
            rintro e W8 ⟨rfl, ht8, hk8⟩
            have HO8 : Hid (Calls _ _ _ W8 _) := HOc.out W8 ht8.out
            clear HCr ht8 hk8 HOc d17 d27
            go_wp2_with fail
            refine HO8.out.mono ?_
            rintro e W9 ⟨s2, mb2, rfl, hs9, _⟩
            have HG9 : Hid (Calls _ _ _ W9 _) := HGt.out W9 s2 mb2 20 (by omega) hs9.out
            rw [show ((20 : Nat) : Int) = 20 from rfl, e20] at HG9
            clear HO8
            go_wp2_with fail
            refine HG9.out.mono ?_
            rintro e W10 ⟨ad9, cp9, rfl, hby9, hb9⟩
            have hs10 := hs9.out.below hb9.out
            have HG10 : Hid (Calls _ _ _ W10 _) := HGt.out W10 s2 mb2 39 (by omega) hs10
            rw [show ((39 : Nat) : Int) = 39 from rfl, e39] at HG10
            clear HG9 hb9 hs9
            go_wp2_with fail
            refine HG10.out.mono ?_
            rintro e W11 ⟨ad10, cp10, rfl, hby10, hb10⟩
            have HX0 : Hid (Swx w W11 p nb sb s2 (m + 1) (m + 1)) := HSx.out W11 s2 mb2 (hs10.below hb10.out) (by omega)
            obtain ⟨b9, o9, rfl, hc9⟩ : ∃ b off, ad9 = some ⟨b, off, none⟩ ∧ W11.cell? ⟨b, off, none⟩ = some (.int .u8 ((m : Int) + 1)) := by
              rcases hby9.out.lies with h | ⟨b, off, e, hlt, hc⟩
              · cases h
              · exact ⟨b, off, e, (hb10.out.cell (p := ⟨b, off, none⟩) hlt).trans (by rw [← eX]; exact hc 0 (by simp))⟩
            obtain ⟨b10, o10, rfl, hc10⟩ : ∃ b off, ad10 = some ⟨b, off, none⟩ ∧ W11.cell? ⟨b, off, none⟩ = some (.int .u8 ((m : Int) + 1)) := by
              rcases hby10.out.lies with h | ⟨b, off, e, hlt, hc⟩
              · cases h
              · exact ⟨b, off, e, by rw [← eX]; exact hc 0 (by simp)⟩
            clear HG10 hb10 hs10 hby9 hby10 HGt HSx eX
            try rw [show ([UInt8.ofNat (m + 1), 2] : List UInt8).length = 2 from rfl]
            rw [show ([UInt8.ofNat (m + 1), 3] : List UInt8).length = 2 from rfl]
            go_wp2_with fail
            go_quiet (fail)
            rename Nat => nq
            have HN : Hid (Swx w (W11.drewN nq) p nb sb s2 (m + 1) (m + 1)) := by
              obtain ⟨cv, mb, D, h, f, A⟩ := HX0.out
              exact ⟨cv, mb, D, h, f, A.st.below ⟨rfl, rfl, rfl, Nat.le_refl _, fun _ _ => rfl⟩, A.gd, A.lm, A.vr, A.pg, A.le⟩
            go_wp2_with fail
            go_roundw
            case rel => exact ⟨s2, m + 1, m + 1, by omega, rfl, by go_num, by go_num, HN⟩
            case measure => simp [intOf]; omega
          · rw [e7, enE_ne (show (7 : Int) ≠ 0 by decide)]
            rcases hx' with ⟨_, rfl⟩ | rfl
            · clear e7
              by_cases hx0 : x = 0
              · subst hx0
                have e20 : f' 20 = [] := hp'.1
                have e39 : f' 39 = [] := hp'.2
                go_wp2_with fail
                refine HCr.out.mono ?_
                rintro e W8 ⟨rfl, ht8, hk8⟩
                have HO8 : Hid (Calls _ _ _ W8 _) := HOc.out W8 ht8.out
                clear HCr ht8 hk8 HOc d17 d27
                go_wp2_with fail
                refine HO8.out.mono ?_
                rintro e W9 ⟨s2, mb2, rfl, hs9, _⟩
                have HG9 : Hid (Calls _ _ _ W9 _) := HGt.out W9 s2 mb2 20 (by omega) hs9.out
                rw [show ((20 : Nat) : Int) = 20 from rfl, e20] at HG9
                clear HO8
                go_wp2_with fail
                refine HG9.out.mono ?_
                rintro e W10 ⟨ad9, cp9, rfl, hby9, hb9⟩
                have hs10 := hs9.out.below hb9.out
                have HG10 : Hid (Calls _ _ _ W10 _) := HGt.out W10 s2 mb2 39 (by omega) hs10
                rw [show ((39 : Nat) : Int) = 39 from rfl, e39] at HG10
                clear HG9 hb9 hs9
                go_wp2_with fail
                refine HG10.out.mono ?_
                rintro e W11 ⟨ad10, cp10, rfl, hby10, hb10⟩
                have HX0 : Hid (Swx w W11 p nb sb s2 (m + 1) 0) := HSx.out W11 s2 mb2 (hs10.below hb10.out) (by omega)
                clear HG10 hb10 hs10 hby9 hby10 HGt HSx
                rw [show ([] : List UInt8).length = 0 from rfl]
                go_wp2_with fail
                go_roundw
                case rel => exact ⟨s2, m + 1, 0, by omega, rfl, rfl, by go_num, HX0⟩
                case measure => simp [intOf]; omega
              · have hx1 : 0 < x := by omega
                have y0 : (0 : Int) < x := by omega
                have y1 : (x : Int) ≤ m := by omega
                have y2 : ¬ (m : Int) + 1 < x := by omega
                have e20 : f' 20 = [UInt8.ofNat (x), 2] := by rw [hp'.1, if_neg (by omega)]
                have e39 : f' 39 = [UInt8.ofNat (x), 3] := by rw [hp'.2, if_neg (by omega)]
                have eX : ((UInt8.ofNat (x)).toNat : Int) = (x : Int) := by rw [UInt8.toNat_ofNat']; omega
                go_wp2_with fail
                refine HCr.out.mono ?_
                rintro e W8 ⟨rfl, ht8, hk8⟩
                have HO8 : Hid (Calls _ _ _ W8 _) := HOc.out W8 ht8.out
                clear HCr ht8 hk8 HOc d17 d27
                go_wp2_with fail
                refine HO8.out.mono ?_
                rintro e W9 ⟨s2, mb2, rfl, hs9, _⟩
                have HG9 : Hid (Calls _ _ _ W9 _) := HGt.out W9 s2 mb2 20 (by omega) hs9.out
                rw [show ((20 : Nat) : Int) = 20 from rfl, e20] at HG9
                clear HO8
                go_wp2_with fail
                refine HG9.out.mono ?_
                rintro e W10 ⟨ad9, cp9, rfl, hby9, hb9⟩
                have hs10 := hs9.out.below hb9.out
                have HG10 : Hid (Calls _ _ _ W10 _) := HGt.out W10 s2 mb2 39 (by omega) hs10
                rw [show ((39 : Nat) : Int) = 39 from rfl, e39] at HG10
                clear HG9 hb9 hs9
                go_wp2_with fail
                refine HG10.out.mono ?_
                rintro e W11 ⟨ad10, cp10, rfl, hby10, hb10⟩
                have HX0 : Hid (Swx w W11 p nb sb s2 (m + 1) (x)) := HSx.out W11 s2 mb2 (hs10.below hb10.out) (by omega)
                obtain ⟨b9, o9, rfl, hc9⟩ : ∃ b off, ad9 = some ⟨b, off, none⟩ ∧ W11.cell? ⟨b, off, none⟩ = some (.int .u8 (x : Int)) := by
                  rcases hby9.out.lies with h | ⟨b, off, e, hlt, hc⟩
                  · cases h
                  · exact ⟨b, off, e, (hb10.out.cell (p := ⟨b, off, none⟩) hlt).trans (by rw [← eX]; exact hc 0 (by simp))⟩
                obtain ⟨b10, o10, rfl, hc10⟩ : ∃ b off, ad10 = some ⟨b, off, none⟩ ∧ W11.cell? ⟨b, off, none⟩ = some (.int .u8 (x : Int)) := by
                  rcases hby10.out.lies with h | ⟨b, off, e, hlt, hc⟩
                  · cases h
                  · exact ⟨b, off, e, by rw [← eX]; exact hc 0 (by simp)⟩
                clear HG10 hb10 hs10 hby9 hby10 HGt HSx eX
                try rw [show ([UInt8.ofNat (x), 2] : List UInt8).length = 2 from rfl]
                rw [show ([UInt8.ofNat (x), 3] : List UInt8).length = 2 from rfl]
                go_wp2_with fail
                go_quiet (fail)
                rename Nat => nq
                have HN : Hid (Swx w (W11.drewN nq) p nb sb s2 (m + 1) (x)) := by
                  obtain ⟨cv, mb, D, h, f, A⟩ := HX0.out
                  exact ⟨cv, mb, D, h, f, A.st.below ⟨rfl, rfl, rfl, Nat.le_refl _, fun _ _ => rfl⟩, A.gd, A.lm, A.vr, A.pg, A.le⟩
                go_wp2_with fail
                go_roundw
                case rel => exact ⟨s2, m + 1, x, by omega, rfl, by go_num, by go_num, HN⟩
                case measure => simp [intOf]; omega
            · clear e7
              have z0 : ¬ (m : Int) + 1 < sf := by omega
              have z1 : (((m : Int) + 1) != (sf : Int)) = true := by rw [bne_iff_ne]; omega
              have z2 : (0 : Int) ≤ sf := by omega
              have z3 : (sf : Int) ≤ m := by omega
              have e20 : f' 20 = [UInt8.ofNat (m + 1), 2] := by rw [hp'.1, if_neg (by omega)]
              have e39 : f' 39 = [UInt8.ofNat (m + 1), 3] := by rw [hp'.2, if_neg (by omega)]
              have eX : ((UInt8.ofNat (m + 1)).toNat : Int) = ((m : Int) + 1) := by rw [UInt8.toNat_ofNat']; omega
              go_wp2_with fail
              refine HCr.out.mono ?_
              rintro e W8 ⟨rfl, ht8, hk8⟩
              have HO8 : Hid (Calls _ _ _ W8 _) := HOc.out W8 ht8.out
              clear HCr ht8 hk8 HOc d17 d27
              go_wp2_with fail
              refine HO8.out.mono ?_
              rintro e W9 ⟨s2, mb2, rfl, hs9, _⟩
              have HG9 : Hid (Calls _ _ _ W9 _) := HGt.out W9 s2 mb2 20 (by omega) hs9.out
              rw [show ((20 : Nat) : Int) = 20 from rfl, e20] at HG9
              clear HO8
              go_wp2_with fail
              refine HG9.out.mono ?_
              rintro e W10 ⟨ad9, cp9, rfl, hby9, hb9⟩
              have hs10 := hs9.out.below hb9.out
              have HG10 : Hid (Calls _ _ _ W10 _) := HGt.out W10 s2 mb2 39 (by omega) hs10
              rw [show ((39 : Nat) : Int) = 39 from rfl, e39] at HG10
              clear HG9 hb9 hs9
              go_wp2_with fail
              refine HG10.out.mono ?_
              rintro e W11 ⟨ad10, cp10, rfl, hby10, hb10⟩
              have HX0 : Hid (Swx w W11 p nb sb s2 (m + 1) (m + 1)) := HSx.out W11 s2 mb2 (hs10.below hb10.out) (by omega)
              obtain ⟨b9, o9, rfl, hc9⟩ : ∃ b off, ad9 = some ⟨b, off, none⟩ ∧ W11.cell? ⟨b, off, none⟩ = some (.int .u8 ((m : Int) + 1)) := by
                rcases hby9.out.lies with h | ⟨b, off, e, hlt, hc⟩
                · cases h
                · exact ⟨b, off, e, (hb10.out.cell (p := ⟨b, off, none⟩) hlt).trans (by rw [← eX]; exact hc 0 (by simp))⟩
              obtain ⟨b10, o10, rfl, hc10⟩ : ∃ b off, ad10 = some ⟨b, off, none⟩ ∧ W11.cell? ⟨b, off, none⟩ = some (.int .u8 ((m : Int) + 1)) := by
                rcases hby10.out.lies with h | ⟨b, off, e, hlt, hc⟩
                · cases h
                · exact ⟨b, off, e, by rw [← eX]; exact hc 0 (by simp)⟩
              clear HG10 hb10 hs10 hby9 hby10 HGt HSx eX
              try rw [show ([UInt8.ofNat (m + 1), 2] : List UInt8).length = 2 from rfl]
              rw [show ([UInt8.ofNat (m + 1), 3] : List UInt8).length = 2 from rfl]
              go_wp2_with fail
              go_quiet (fail)
              rename Nat => nq
              have HN : Hid (Swx w (W11.drewN nq) p nb sb s2 (m + 1) (m + 1)) := by
                obtain ⟨cv, mb, D, h, f, A⟩ := HX0.out
                exact ⟨cv, mb, D, h, f, A.st.below ⟨rfl, rfl, rfl, Nat.le_refl _, fun _ _ => rfl⟩, A.gd, A.lm, A.vr, A.pg, A.le⟩
              go_wp2_with fail
              go_roundw
              case rel => exact ⟨s2, m + 1, m + 1, by omega, rfl, by go_num, by go_num, HN⟩
              case measure => simp [intOf]; omega
    · have HB : Hid (Below w.heap.size w wr) := A.st.tn.2
      clear A H
      by_cases hmm : m < rs.length
      · have m1 : (m : Int) < rs.length := by omega
        have m2 : ¬ (m : Int) < 30 := by omega
        go_wp2_with fail
        go_ret
        exact ⟨rfl, HB.out⟩
      · have m1 : ¬ (m : Int) < rs.length := by omega
        go_wp2_with fail
        go_ret
        exact ⟨rfl, HB.out⟩
end Go.Proofs.Ytidccclfngcpgaa
