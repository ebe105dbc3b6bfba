/-
  The walk of daylaw2.StorePlays.
-/
import Derived.Test.YteffpglmgekkiaaDoorSp6b
import Derived.Deep.CutRange
import Derived.Deep.CutBlock
import Derived.WalkLawsBesides
namespace Go.Proofs.YteffpglmgekkiaaDoor
set_option linter.unusedVariables false
set_option linter.unusedSimpArgs false
set_option maxRecDepth 100000
open Go.RowKit Go.Lib
set_option maxHeartbeats 16000000 in
theorem splays_in (n : Nat) (a : Option Addr) (rs : List Rw) (cap : Nat) (w : World) (hg : ErrT w) (hn1 : 90 ≤ n) (hn2 : n ≤ 200) (hrs : IsRs w a rs cap) (hrl : rs.length ≤ 9223372036854775807) :
    Calls Tryd.prog 3 #[.int .i64 (n : Int), .slice a rs.length cap] w fun e w' => e = .returned (.bool true) ∧ Below w.heap.size w w' := by
  have HNew : Hid (Calls _ _ _ w _) := tn_new n w (by omega) hn2
  obtain ⟨ef, en, ff, fl⟩ := fmtD_eq n
  have HFm : Hid (∀ (W : World) (p nb sb : Nat) (cv : Value), Tn w W p nb sb cv n (dk0 n) → Calls Tryd.prog 6 #[.pointer (some ⟨p, 0, none⟩)] W fun e w' => e = .returned .nilIface ∧ ∃ cv', Hid (Tn w w' p nb sb cv' n (fmtD n))) := fun W p nb sb cv hW => by
    have hz : ∀ i, i < n → (dk0 n).now.getD i bk0 = bk0 := fun i hi => by
      show (List.replicate n bk0).getD i bk0 = bk0
      rw [List.getD_eq_getElem?_getD, List.getElem?_replicate, if_pos hi]; rfl
    refine (format_any hW hn1 hn2 ⟨by show 0 ≤ 999980; omega, by show 0 ≤ 999980; omega⟩ none none (.inr (hz 0 (by omega))) (.inr (hz 1 (by omega)))).mono ?_
    rw [show newer none none = none from rfl, ef]
    rintro e w' ⟨rfl, cv', h1, _⟩
    exact ⟨rfl, cv', h1⟩
  have HOp : Hid (∀ (W : World) (p nb sb : Nat) (cv : Value) (D : Dk) (h : Hd) (f : Nat → List UInt8), Tn w W p nb sb cv n D → Gd D n h f → Calls Tryd.prog 7 #[.pointer (some ⟨p, 0, none⟩)] W fun e w' => ∃ s mb, e = .returned (.tuple #[.pointer (some ⟨s, 0, none⟩), .nilIface]) ∧ Hid (StAt w w' p nb sb cv n D s mb h [] false) ∧ Hid (Below W.heap.size W w')) := fun W p nb sb cv D h f hW g => by
    obtain ⟨o0, o1, h0, h1, h2⟩ := g.heads
    exact open_some hW hn1 o0 o1 h0 h1 h h2
  have HG : Hid (ErrT w) := hg
  have H0 : Hid (∀ U, Below w.heap.size w U → Calls Tryd.prog 5 #[.nilIface, .int .i64 0] U fun e w' => e = .returned (.bool true) ∧ Below U.heap.size U w') := fun U hU => err_true (.inl ⟨rfl, rfl⟩) U (HG.out.below hU (Nat.le_refl _))
  have HRS : Hid (IsRs w a rs cap) := hrs
  have hrl' : (rs.length : Int) ≤ 9223372036854775807 := by omega
  have n1 : ¬ (n : Int) < 90 := by omega
  have hala := alloc_ar
  have halt := alloc_tc
  have HSt : Hid (∀ (W : World) (p nb sb s mb : Nat) (cv : Value), StAt w W p nb sb cv n (fmtD n) s mb (fmtH none) [] false → _) := fun W p nb sb s mb cv st => Spx.start hn1 st
  clear hrs ef en ff fl hg
  generalize (List.replicate 40 (Value.slice none 0 0)).toArray = Z1 at *
  generalize (List.replicate 40 (Value.bool false)).toArray = Z2 at *
  go_enter Tryd.func3, Tryd.ntmps3
  go_wp2_with fail
  refine HNew.out.mono ?_
  rintro e w1 ⟨p, nb, sb, rfl, ht1⟩
  have HF1 : Hid (Calls _ _ _ w1 _) := HFm.out w1 p nb sb _ ht1.out
  clear HNew HFm ht1
  go_wp2_with fail
  refine HF1.out.mono ?_
  rintro e w2 ⟨rfl, cv2, ht2⟩
  have HE2 : Hid (Calls _ _ _ w2 _) := H0.out w2 ht2.out.2
  clear HF1
  go_wp2_with fail
  refine HE2.out.mono ?_
  rintro e w3 ⟨rfl, hb3⟩
  have HO3 : Hid (Calls _ _ _ w3 _) := HOp.out w3 p nb sb cv2 _ _ _ (ht2.out.below hb3) (fmt_gd n hn1)
  clear HE2 ht2 hb3
  go_wp2_with fail
  refine HO3.out.mono ?_
  rintro e w4 ⟨s, mb, rfl, hs4, _⟩
  have HE4 : Hid (Calls _ _ _ w4 _) := H0.out w4 hs4.out.tn.2
  clear HO3
  go_wp2_with fail
  refine HE4.out.mono ?_
  rintro e w5 ⟨rfl, hb5⟩
  have HX := HSt.out w5 p nb sb s mb cv2 (hs4.out.below hb5)
  have HX' : Hid (Spx _ _ _ _ _ _ _ _ _ _ _ _) := HX
  clear HE4 hs4 hb5 HSt HX
  go_wp2_with (first | (refine wpList_alloc_run rfl 34 rfl (hala _) ?_) | (refine wpList_alloc_run rfl 35 rfl (halt _) ?_))
  obtain ⟨NB, hNB⟩ : ∃ NB, w5.heap.size = NB := ⟨_, rfl⟩
  obtain ⟨TB, hTB⟩ : ∃ TB, w5.heap.size + 1 = TB := ⟨_, rfl⟩
  obtain ⟨UB, hUB⟩ : ∃ UB, w5.heap.size + 1 + 1 = UB := ⟨_, rfl⟩
  obtain ⟨w6, hw6⟩ : ∃ w6, ((w5.alloc (Obj.cells Z1 34)).alloc (Obj.cells Z1 34)).alloc (Obj.cells Z2 35) = w6 := ⟨_, rfl⟩
  rw [hUB, hTB, hNB, hw6] at HX'
  rw [hw6]
  have s1 : (w5.alloc (Obj.cells Z1 34)).heap.size = TB := by rw [← hTB]; simp
  have s2 : ((w5.alloc (Obj.cells Z1 34)).alloc (Obj.cells Z1 34)).heap.size = UB := by rw [← hUB]; simp
  try rw [s2]
  try rw [s1]
  try rw [hUB]
  try rw [hTB]
  try rw [hNB]
  clear hala halt hNB hTB hUB hw6 s1 s2
  go_loopw [9, 14, 15] (fun sv vv iv wr => ∃ s m ver : Nat, m ≤ 60 ∧ ver ≤ m ∧ sv = .pointer (some ⟨s, 0, none⟩) ∧ vv = .int .i64 ver ∧ iv = .int .i64 m ∧ Hid (Spx w wr p nb sb n NB TB UB s ver m)) (fun _ _ i _ => 60 - (intOf i).toNat)
  case atStart => exact ⟨s, 0, 0, by omega, by omega, rfl, rfl, rfl, HX'⟩
  case round =>
    clear HX'
    obtain ⟨s, m, ver, hm, hvm, rfl, rfl, rfl, H⟩ := hrel
    by_cases hlt : m < rs.length ∧ m < 60
    · obtain ⟨hlt1, hlt2⟩ := hlt
      have m0 : (0 : Int) ≤ m := by omega
      have m1 : (m : Int) < rs.length := by omega
      have m2 : (m : Int) < 60 := by omega
      have hal := alloc_v
      obtain ⟨cv, mb, D, h, P, f, A, hver⟩ := H.out
      have hrs := HRS.out.below A.st.tn.2
      have hmem : rs.getD m rw0 ∈ rs := by
        rw [List.getD_eq_getElem?_getD, List.getElem?_eq_getElem hlt1]; exact List.getElem_mem hlt1
      obtain ⟨hrow, hrowl⟩ := hrs.rows _ hmem
      obtain ⟨b0, off0, rfl, hb0w, hcRw⟩ : ∃ b off, a = some ⟨b, off, none⟩ ∧ b < w.heap.size ∧ w.cell? ⟨b, off + m, none⟩ = some (.slice (rs.getD m rw0).ad (rs.getD m rw0).l.length (rs.getD m rw0).cap) := by
        rcases HRS.out.lies with e | ⟨b, off, e, h1, h2⟩
        · subst e; simp at hlt1
        · exact ⟨b, off, e, h1, h2 m hlt1⟩
      have hb0 : b0 < wr.heap.size := Nat.lt_of_lt_of_le hb0w A.st.tn.2.size
      have hcR0 := (A.st.tn.2.cell (p := ⟨b0, off0 + m, none⟩) hb0w).trans hcRw
      generalize rs.getD m rw0 = r at *
      obtain ⟨ra, rl, rc⟩ := r
      simp only at hrow hrowl hcR0 hcRw
      clear hcRw
      have hcR : ∀ X, (wr.alloc (.cells X 36)).cell? ⟨b0, off0 + m, none⟩ = some (.slice ra rl.length rc) := fun X => (World.cell?_alloc_lt _ _ _ hb0).trans hcR0
      have HE : Hid (∀ X j, j < rl.length → ∃ b1 off1, ra = some ⟨b1, off1, none⟩ ∧ (wr.alloc (.cells X 36)).cell? ⟨b1, off1 + j, none⟩ = some (.int .i64 (rl.getD j 0))) := by
        intro X j hj
        rcases hrow.lies with e | ⟨b, off, e, h1, h2⟩
        · subst e; simp at hj
        · exact ⟨b, off, e, (World.cell?_alloc_lt _ _ _ h1).trans (h2 j hj)⟩
      have hrowl' : (rl.length : Int) ≤ 9223372036854775807 := by omega
      have HA : Hid (Sg w wr p nb sb n s NB TB UB cv mb D h P f (fun k => (look P k).getD (f k)) f (isIn P) m) := A
      have HVr : Hid (h.ver = ver) := hver
      clear H A hrs hmem hrow hcR0 hver
      go_upto_block 2 with (refine wpList_alloc_run rfl 36 rfl (hal _) ?_)
      go_cut [17] from 65 to 219 (fun t wx => wx = wr.alloc (.cells (va rl) 36))
      case first =>
        clear hal
        go_wp2_with fail
        go_loopw [17] (fun t wq => ∃ j : Nat, j ≤ 3 ∧ j ≤ rl.length ∧ t = .int .i64 j ∧ wq = wr.alloc (.cells (va (rl.take j)) 36)) (fun t _ => 3 - (intOf t).toNat)
        case atStart => exact ⟨0, by omega, by omega, rfl, by simp⟩
        case round =>
          rename World => wq
          obtain ⟨j, hj4, hjl, rfl, rfl⟩ := hrel
          by_cases hj : j < rl.length ∧ j < 3
          · obtain ⟨b1, off1, rfl, hce⟩ := HE.out (va (rl.take j)) j hj.1
            have hset := va_set rl j hj.1 hj.2
            have hget := va_get (rl.take j) j hj.2
            have j0 : (0 : Int) ≤ j := by omega
            have j1 : (j : Int) < rl.length := by omega
            have j2 : (j : Int) < 3 := by omega
            generalize rl.getD j 0 = x at *
            generalize (rl.take j).getD j 0 = z at *
            go_wp2_with fail
            go_roundw
            case rel => exact ⟨j + 1, by omega, by omega, by go_num, by first | rfl | trivial⟩
            case measure => simp [intOf]; omega
          · have hv := va_take rl j (by omega)
            rw [hv]
            by_cases hjj : j < rl.length
            · have j2 : ¬ (j : Int) < 3 := by omega
              have j1 : (j : Int) < rl.length := by omega
              go_wp2_with fail
              go_meet
              first | rfl | trivial
            · have j1 : ¬ (j : Int) < rl.length := by omega
              go_wp2_with fail
              go_meet
              first | rfl | trivial
      case rest =>
        clear hal HE hcR
        subst hcut
        have HA1 : Hid (Sg w (wr.alloc (.cells (va rl) 36)) p nb sb n s NB TB UB cv mb D h P f (fun k => (look P k).getD (f k)) f (isIn P) m) := HA.out.below ((Below.refl _ wr).alloc (Nat.le_refl _) (.cells (va rl) 36))
        have hbx := new_heap wr (.cells (va rl) 36)
        generalize wr.alloc (.cells (va rl) 36) = W1 at *
        generalize wr.heap.size = B at *
        have HV : Hid (∀ U : World, U.heap[B]? = some (.cells (va rl) 36 (0, 0)) → U.cell? ⟨B, 0, none⟩ = some (.int .i64 (rl.getD 0 0)) ∧ U.cell? ⟨B, 1, none⟩ = some (.int .i64 (rl.getD 1 0)) ∧ U.cell? ⟨B, 2, none⟩ = some (.int .i64 (rl.getD 2 0))) := by
          intro U hU
          simp [World.cell?, hU, va]
        obtain ⟨d0, d1, d2⟩ := HV.out W1 hbx
        have HBX : Hid (W1.heap[B]? = some (.cells (va rl) 36 (0, 0))) := hbx
        clear HA hbx
        generalize hv0 : rl.getD 0 0 = v0 at *
        generalize hv1 : rl.getD 1 0 = v1 at *
        generalize hv2 : rl.getD 2 0 = v2 at *
        clear hv0 hv1 hv2
        go_upto_block 4 with fail
        go_cut [9, 14, 18] from 65 to 219 (fun sv vv tv wx => ∃ s ver : Nat, ver ≤ m + 1 ∧ sv = .pointer (some ⟨s, 0, none⟩) ∧ vv = .int .i64 ver ∧ tv = .bool true ∧ Hid (Spx w wx p nb sb n NB TB UB s ver (m + 1)))
        case first =>
          have HLM : Hid (D.lim 10000) := HA1.out.lm.mono (by omega)
          have HVle : Hid (h.ver ≤ m) := HA1.out.vr
          by_cases h012 : v0 = 0 ∨ v0 = 1 ∨ v0 = 2
          · as_aux_lemma =>
              have HBO : Hid (Calls _ _ _ _ _) := bytesOf_any v2 W1
              have hbl0 : (bysOf v2).length ≤ 65 := by rw [bysOf_length]; exact cutN_le v2
              have Hgo : Hid (∀ w2 ab cb, ByRow w2 W1.heap.size (.slice ab (bysOf v2).length cb) (bysOf v2) → Below W1.heap.size W1 w2 → Sg w w2 p nb sb n s NB TB UB cv mb D h P f (fun k => (look P k).getD (f k)) f (isIn P) m ∧ w2.heap[B]? = some (.cells (va rl) 36 (0, 0)) ∧ OwnBy w2 (.slice ab (bysOf v2).length cb) (bysOf v2)) := by
                intro w2 ab cb hr hb
                exact ⟨HA1.out.below hb, (hb.block B (Array.getElem?_eq_some_iff.1 HBX.out).1).trans HBX.out, OwnBy.of_row hr⟩
              go_upto_if 99 with fail
              go_cut [99] from 100 to 102 (fun t wx => t = .bool true ∧ wx = W1)
              case first =>
                rcases h012 with rfl | rfl | rfl <;> (
                  go_wp2_with fail
                  go_meet
                  exact ⟨rfl, rfl⟩)
              case rest =>
                obtain ⟨rfl, rfl⟩ := hcut
                go_wp2_with fail
                refine HBO.out.mono ?_
                rintro e w2 ⟨ab, cb, rfl, hrow2, hb2⟩
                obtain ⟨hp3, hB3, hr3⟩ := Hgo.out w2 ab cb hrow2.out hb2.out
                have cB3 := (HV.out _ hB3).2.1
                clear HBO Hgo hrow2 hb2
                generalize bysOf v2 = bl at *
                have bl1 : (bl.length : Int) ≤ 65 := by omega
                have HP3 : Hid (Sg w w2 p nb sb n s NB TB UB cv mb D h P f (fun k => (look P k).getD (f k)) f (isIn P) m) := hp3
                have HR3 : Hid (OwnBy w2 (.slice ab bl.length cb) bl) := hr3
                have HB3 : Hid (w2.heap[B]? = some (.cells (va rl) 36 (0, 0))) := hB3
                clear hp3 hr3 hB3
                by_cases hv1 : 0 ≤ v1 ∧ v1 < 40
                · obtain ⟨k, rfl⟩ : ∃ k : Nat, v1 = k := ⟨v1.toNat, by omega⟩
                  have hk : k < 40 := by omega
                  have k1 : ¬ (k : Int) < 0 := by omega
                  have k2 : ¬ (39 : Int) < k := by omega
                  have k3 : (k : Int) < 40 := by omega
                  have k4 : (0 : Int) ≤ k := by omega
                  clear hv1
                  by_cases hl : bl.length ≤ 60
                  · have l1 : ¬ (60 : Int) < bl.length := by omega
                    obtain ⟨⟨x, c1⟩, f1, hb4, ⟨y, c2⟩, f2, hb5⟩ := HP3.out.putC k hk _ bl hl HR3.out HB3.out
                    obtain ⟨st4, own4, Hput⟩ := HP3.out.put k hk _ bl hl HR3.out
                    have d4 := (HV.out _ hb4).2.1
                    have d5 := (HV.out _ hb5).2.1
                    obtain ⟨_, _, eo, hc5, hby5⟩ := own4.isBy
                    cases eo
                    have HC : Hid (Calls _ _ _ _ _) := put_ok st4 k hk ab bl cb hby5 hc5 hl
                    have HPut : Hid (∀ U, StAt w U p nb sb cv n D s mb h (upd P k bl) false → KeepC w.heap.size stT ((w2.setCell ⟨NB, k, none⟩ (.slice ab bl.length cb)).setCell ⟨UB, k, none⟩ (.bool true)) U → Sg w U p nb sb n s NB TB UB cv mb D h (upd P k bl) f (fun j => (look (upd P k bl) j).getD (f j)) f (isIn (upd P k bl)) m) := Hput
                    clear Hput st4 own4 hb4 hb5 hby5
                    go_wp2_with fail
                    refine HC.out.mono ?_
                    rintro e w6 ⟨rfl, hs6, hk6⟩
                    have HS6 := HPut.out w6 hs6.out hk6.out
                    have HE6 : Hid (Calls _ _ _ w6 _) := H0.out w6 HS6.st.tn.2
                    have HS6' : Hid (Sg w w6 p nb sb n s NB TB UB cv mb D h (upd P k bl) f (fun j => (look (upd P k bl) j).getD (f j)) f (isIn (upd P k bl)) m) := HS6
                    clear HC HPut hs6 hk6 HS6 d4 d5 c1 c2 f1 f2
                    go_wp2_with fail
                    refine HE6.out.mono ?_
                    rintro e w7 ⟨rfl, hb7⟩
                    have HX : Hid (Spx w w7 p nb sb n NB TB UB s ver (m + 1)) := ⟨cv, mb, D, h, _, f, (HS6'.out.below hb7).more, HVr.out⟩
                    clear HE6 hb7 HS6'
                    go_wp2_with fail
                    go_meet
                    exact ⟨s, ver, by omega, rfl, rfl, rfl, HX⟩
                  · have l1 : (60 : Int) < bl.length := by omega
                    have HC0 := put_bad HP3.out.st (k : Int) ab bl.length cb (by omega) (by unfold putBad; rw [if_neg (by decide), if_neg (by omega), if_pos (by omega)]; decide)
                    rw [show putBad false (k : Int) bl.length = 4 by unfold putBad; rw [if_neg (by decide), if_neg (by omega), if_pos (by omega)], enE_ne (by decide)] at HC0
                    have HC : Hid (Calls _ _ _ _ _) := HC0
                    clear HC0
                    go_wp2_with fail
                    refine HC.out.mono ?_
                    rintro e w6 ⟨rfl, hs6⟩
                    have HS6 := HP3.out.below (hs6.out.below _)
                    have HE6 : Hid (Calls _ _ _ w6 _) := err_true (E := .iface 45 (.int .i64 4)) (c := 4) (.inr ⟨rfl, by omega, by omega⟩) w6 (HG.out.below HS6.st.tn.2 (Nat.le_refl _))
                    have HS6' : Hid (Sg w w6 p nb sb n s NB TB UB cv mb D h P f (fun k => (look P k).getD (f k)) f (isIn P) m) := HS6
                    clear HC hs6 HS6
                    go_wp2_with fail
                    refine HE6.out.mono ?_
                    rintro e w7 ⟨rfl, hb7⟩
                    have HX : Hid (Spx w w7 p nb sb n NB TB UB s ver (m + 1)) := ⟨cv, mb, D, h, P, f, (HS6'.out.below hb7).more, HVr.out⟩
                    clear HE6 hb7 HS6'
                    go_wp2_with fail
                    go_meet
                    exact ⟨s, ver, by omega, rfl, rfl, rfl, HX⟩
                · have HC0 := put_bad HP3.out.st v1 ab bl.length cb (by omega) (by unfold putBad; rw [if_neg (by decide), if_pos hv1]; decide)
                  rw [show putBad false v1 bl.length = 1 by unfold putBad; rw [if_neg (by decide), if_pos hv1], enE_ne (by decide)] at HC0
                  have HC : Hid (Calls _ _ _ _ _) := HC0
                  clear HC0
                  have HX : Hid (∀ w6, Still w2 w6 → Sg w w6 p nb sb n s NB TB UB cv mb D h P f (fun k => (look P k).getD (f k)) f (isIn P) m ∧ Calls Tryd.prog 5 #[.iface 45 (.int .i64 1), .int .i64 1] w6 fun e w' => e = .returned (.bool true) ∧ Below w6.heap.size w6 w') := fun w6 hs => by
                    have HS6 := HP3.out.below (hs.below _)
                    exact ⟨HS6, err_true (E := .iface 45 (.int .i64 1)) (c := 1) (.inr ⟨rfl, by omega, by omega⟩) w6 (HG.out.below HS6.st.tn.2 (Nat.le_refl _))⟩
                  by_cases hneg : v1 < 0
                  · go_wp2_with fail
                    refine HC.out.mono ?_
                    rintro e w6 ⟨rfl, hs6⟩
                    obtain ⟨HS6, he6⟩ := HX.out w6 hs6.out
                    have HE6 : Hid (Calls _ _ _ w6 _) := he6
                    have HS6' : Hid (Sg w w6 p nb sb n s NB TB UB cv mb D h P f (fun k => (look P k).getD (f k)) f (isIn P) m) := HS6
                    clear HC hs6 HS6 he6 HX
                    go_wp2_with fail
                    refine HE6.out.mono ?_
                    rintro e w7 ⟨rfl, hb7⟩
                    have HX : Hid (Spx w w7 p nb sb n NB TB UB s ver (m + 1)) := ⟨cv, mb, D, h, P, f, (HS6'.out.below hb7).more, HVr.out⟩
                    clear HE6 hb7 HS6'
                    go_wp2_with fail
                    go_meet
                    exact ⟨s, ver, by omega, rfl, rfl, rfl, HX⟩
                  · have hpos : (39 : Int) < v1 := by omega
                    go_wp2_with fail
                    refine HC.out.mono ?_
                    rintro e w6 ⟨rfl, hs6⟩
                    obtain ⟨HS6, he6⟩ := HX.out w6 hs6.out
                    have HE6 : Hid (Calls _ _ _ w6 _) := he6
                    have HS6' : Hid (Sg w w6 p nb sb n s NB TB UB cv mb D h P f (fun k => (look P k).getD (f k)) f (isIn P) m) := HS6
                    clear HC hs6 HS6 he6 HX
                    go_wp2_with fail
                    refine HE6.out.mono ?_
                    rintro e w7 ⟨rfl, hb7⟩
                    have HX : Hid (Spx w w7 p nb sb n NB TB UB s ver (m + 1)) := ⟨cv, mb, D, h, P, f, (HS6'.out.below hb7).more, HVr.out⟩
                    clear HE6 hb7 HS6'
                    go_wp2_with fail
                    go_meet
                    exact ⟨s, ver, by omega, rfl, rfl, rfl, HX⟩
          · have e0 : (v0 == 0) = false := by rw [beq_eq_false_iff_ne]; omega
            have e1 : (v0 == 1) = false := by rw [beq_eq_false_iff_ne]; omega
            have e2 : (v0 == 2) = false := by rw [beq_eq_false_iff_ne]; omega
            clear h012
            by_cases h3 : v0 = 3
            · as_aux_lemma =>
                subst h3
                have HC : Hid (Calls _ _ _ _ _) := commit_ok HA1.out.st HA1.out.gd.fl (HLM.out.mono (by omega)) hn1 hn2 HA1.out.ks.short (by have := HVle.out; omega)
                go_wp2_with fail
                refine HC.out.mono ?_
                rintro e w2 ⟨rfl, cv2, hs2, hk2⟩
                have hA2 := HA1.out.call hk2.out (i' := m + 1) hs2.out (HA1.out.gd.next hn1 P HA1.out.ks.short (by have := HVle.out; omega)) .nil ((nxD_lim HA1.out.gd.fl HA1.out.lm).mono (by omega)) (by show h.ver + 1 ≤ m + 1; have := HVle.out; omega)
                obtain ⟨V, r1, r2, hA3⟩ := hA2.forth
                have HA3 : Hid (Sg w (w2.setRow TB V) p nb sb n s NB TB UB cv2 mb (nxD D h P) (nxH h P) [] (fun j => (look P j).getD (f j)) (fun k => (look P k).getD (f k)) (fun k => (look P k).getD (f k)) (fun j => if j < 0 then false else isIn P j) (m + 1)) := hA3.start
                clear HC hs2 hk2 hA2 hA3
                go_wp2_with (first | (refine wpList_load_run rfl 34 _ rfl _ (by rfl) r1 ?_) | (refine wpList_store_run rfl 34 _ _ rfl _ _ (by rfl) (by rfl) r2 ?_))
                generalize w2.setRow TB V = w3 at *
                clear r1 r2
                go_loopw [20] (fun t wq => ∃ q : Nat, q ≤ 40 ∧ t = .int .i64 q ∧ Hid (Sg w wq p nb sb n s NB TB UB cv2 mb (nxD D h P) (nxH h P) [] (fun j => (look P j).getD (f j)) (fun k => (look P k).getD (f k)) (fun k => (look P k).getD (f k)) (fun j => if j < q then false else isIn P j) (m + 1))) (fun t _ => 40 - (intOf t).toNat)
                case atStart => exact ⟨0, by omega, rfl, HA3⟩
                case round =>
                  rename World => wq
                  obtain ⟨q, hq, rfl, HQ⟩ := hrel
                  by_cases hlt : q < 40
                  · obtain ⟨c1, f1, hn⟩ := Sg.clear q HQ.out hlt
                    have q0 : (0 : Int) ≤ q := by omega
                    have q1 : (q : Int) < 40 := by omega
                    have HN : Hid (Sg _ _ _ _ _ _ _ _ _ _ _ _ _ _ _ _ _ _ _ _) := hn
                    clear HQ hn HA3
                    go_wp2_with fail
                    go_roundw
                    case rel => exact ⟨q + 1, by omega, by go_num, HN⟩
                    case measure => simp [intOf]; omega
                  · have eq : q = 40 := by omega
                    subst eq
                    have q1 : ¬ ((40 : Nat) : Int) < 40 := by omega
                    have HX : Hid (Spx w wq p nb sb n NB TB UB s (ver + 1) (m + 1)) := by
                      have := Sg.done HQ.out (fun _ _ => rfl) (fun _ _ => rfl)
                      rw [show (nxH h P).ver = ver + 1 by show h.ver + 1 = ver + 1; rw [HVr.out]] at this
                      exact this
                    clear HQ HA3
                    go_wp2_with fail
                    go_meet
                    exact ⟨s, ver + 1, by omega, rfl, by go_num, rfl, HX⟩
            · have e3 : (v0 == 3) = false := by rw [beq_eq_false_iff_ne]; exact h3
              by_cases h4 : v0 = 4
              · as_aux_lemma =>
                  subst h4
                  have HA2 : Hid (Sg w W1 p nb sb n s NB TB UB cv mb D h P f (fun k => (look P k).getD (f k)) f (fun j => if j < 0 then false else isIn P j) m) := HA1.out.start
                  clear HA1
                  go_wp2_with fail
                  go_loopw [21, 22] (fun u t wq => ∃ q : Nat, q ≤ 40 ∧ u = .int .i64 (cnt (isIn P) q : Nat) ∧ t = .int .i64 q ∧ Hid (Sg w wq p nb sb n s NB TB UB cv mb D h P f (fun k => (look P k).getD (f k)) f (fun j => if j < q then false else isIn P j) m)) (fun _ t _ => 40 - (intOf t).toNat)
                  case atStart => exact ⟨0, by omega, rfl, rfl, HA2⟩
                  case round =>
                    rename World => wq
                    obtain ⟨q, hq, rfl, rfl, HQ⟩ := hrel
                    by_cases hlt : q < 40
                    · obtain ⟨c1, f1, hn⟩ := Sg.clear q HQ.out hlt
                      have q0 : (0 : Int) ≤ q := by omega
                      have q1 : (q : Int) < 40 := by omega
                      have HN : Hid (Sg _ _ _ _ _ _ _ _ _ _ _ _ _ _ _ _ _ _ _ _) := hn
                      have HC : Hid (cnt (isIn P) (q + 1) = cnt (isIn P) q + (if isIn P q = true then 1 else 0)) := cnt_step _ _
                      have hcl := cnt_le (isIn P) q
                      clear HQ hn HA2
                      generalize cnt (isIn P) q = c at *
                      have c0 : (0 : Int) ≤ c := by omega
                      have c2 : (c : Int) ≤ 40 := by omega
                      cases hg : isIn P q
                      · rw [hg] at c1 HC
                        go_wp2_with fail
                        go_roundw
                        case rel => exact ⟨q + 1, by omega, by rw [HC.out]; rfl, by go_num, HN⟩
                        case measure => simp [intOf]; omega
                      · rw [hg] at c1 HC
                        go_wp2_with fail
                        go_roundw
                        case rel => exact ⟨q + 1, by omega, by rw [HC.out]; go_num, by go_num, HN⟩
                        case measure => simp [intOf]; omega
                    · have eq : q = 40 := by omega
                      subst eq
                      have q1 : ¬ ((40 : Nat) : Int) < 40 := by omega
                      obtain ⟨V, r1, r2, hA3⟩ := HQ.out.back
                      have HCt : Hid (cnt (isIn P) 40 = P.length) := HQ.out.ks.count
                      have HC : Hid (Calls _ _ _ _ _) := rollback_any hA3.st
                      have HA3 : Hid (Sg w (wq.setRow NB V) p nb sb n s NB TB UB cv mb D h P f f f (fun j => if j < 40 then false else isIn P j) m) := hA3
                      rw [HCt.out]
                      clear HQ hA3 HA2
                      go_wp2_with (first | (refine wpList_load_run rfl 34 _ rfl _ (by rfl) r1 ?_) | (refine wpList_store_run rfl 34 _ _ rfl _ _ (by rfl) (by rfl) r2 ?_))
                      refine HC.out.mono ?_
                      rintro e w6 ⟨rfl, hs6, hk6, _⟩
                      have hA6 := HA3.out.call hk6.out (i' := m) hs6.out HA3.out.gd .nil HA3.out.lm HA3.out.vr
                      have HX : Hid (Spx w w6 p nb sb n NB TB UB s ver (m + 1)) := by
                        have := Sg.done hA6.more (fun _ _ => rfl) (fun _ _ => rfl)
                        rw [HVr.out] at this
                        exact this
                      clear HC hs6 hk6 hA6 HA3 r1 r2
                      go_wp2_with fail
                      go_meet
                      exact ⟨s, ver, by omega, rfl, rfl, by simp, HX⟩
              · have e4 : (v0 == 4) = false := by rw [beq_eq_false_iff_ne]; exact h4
                by_cases h5 : v0 = 5
                · as_aux_lemma =>
                    subst h5
                    have HC : Hid (Calls _ _ _ W1 _) := HOp.out W1 p nb sb cv D h f HA1.out.st.tn HA1.out.gd
                    go_wp2_with fail
                    refine HC.out.mono ?_
                    rintro e w2 ⟨s2, mb2, rfl, hs2, hb2⟩
                    have hA2 := HA1.out.call (KeepC.of_below hb2.out) (i' := m) hs2.out HA1.out.gd .nil HA1.out.lm HA1.out.vr
                    obtain ⟨V, r1, r2, hA3⟩ := hA2.back
                    have HA3 : Hid (Sg w (w2.setRow NB V) p nb sb n s2 NB TB UB cv mb2 D h [] f f f (fun j => if j < 0 then false else isIn P j) m) := hA3.start
                    clear HC hs2 hb2 hA2 hA3
                    go_wp2_with (first | (refine wpList_load_run rfl 34 _ rfl _ (by rfl) r1 ?_) | (refine wpList_store_run rfl 34 _ _ rfl _ _ (by rfl) (by rfl) r2 ?_))
                    generalize w2.setRow NB V = w3 at *
                    clear r1 r2
                    go_loopw [25] (fun t wq => ∃ q : Nat, q ≤ 40 ∧ t = .int .i64 q ∧ Hid (Sg w wq p nb sb n s2 NB TB UB cv mb2 D h [] f f f (fun j => if j < q then false else isIn P j) m)) (fun t _ => 40 - (intOf t).toNat)
                    case atStart => exact ⟨0, by omega, rfl, HA3⟩
                    case round =>
                      rename World => wq
                      obtain ⟨q, hq, rfl, HQ⟩ := hrel
                      by_cases hlt : q < 40
                      · obtain ⟨c1, f1, hn⟩ := Sg.clear q HQ.out hlt
                        have q0 : (0 : Int) ≤ q := by omega
                        have q1 : (q : Int) < 40 := by omega
                        have HN : Hid (Sg _ _ _ _ _ _ _ _ _ _ _ _ _ _ _ _ _ _ _ _) := hn
                        clear HQ hn HA3
                        go_wp2_with fail
                        go_roundw
                        case rel => exact ⟨q + 1, by omega, by go_num, HN⟩
                        case measure => simp [intOf]; omega
                      · have eq : q = 40 := by omega
                        subst eq
                        have q1 : ¬ ((40 : Nat) : Int) < 40 := by omega
                        have HX : Hid (Spx w wq p nb sb n NB TB UB s2 ver (m + 1)) := by
                          have := Sg.done HQ.out.more (fun _ _ => rfl) (fun _ _ => rfl)
                          rw [HVr.out] at this
                          exact this
                        clear HQ HA3
                        go_wp2_with fail
                        go_meet
                        exact ⟨s2, ver, by omega, rfl, rfl, rfl, HX⟩
                · --YteffpglmgekkiaaDoorONE
                  have e5 : (v0 == 5) = false := by rw [beq_eq_false_iff_ne]; exact h5
                  have HX : Hid (Spx w W1 p nb sb n NB TB UB s ver (m + 1)) := ⟨cv, mb, D, h, P, f, HA1.out.more, HVr.out⟩
                  go_wp2_with fail
                  go_meet
                  exact ⟨s, ver, by omega, rfl, rfl, rfl, HX⟩
                --@END
        case rest =>
          as_aux_lemma =>
            clear HA1 HVr HV HBX d0 d1 d2
            obtain ⟨s, ver, hvm2, rfl, rfl, rfl, HX⟩ := hcut
            obtain ⟨cv, mb, D, h, P, f, A, hver⟩ := HX.out
            have HA : Hid (Sg w wc p nb sb n s NB TB UB cv mb D h P f (fun k => (look P k).getD (f k)) f (isIn P) (m + 1)) := A
            have HVr : Hid (h.ver = ver) := hver
            clear HX A hver
            go_wp2_with fail
            go_loopw [26, 27] (fun u t wq => ∃ q : Nat, q ≤ 40 ∧ u = .int .i64 (cnt (isIn P) q : Nat) ∧ t = .int .i64 q ∧ Hid (Sg w wq p nb sb n s NB TB UB cv mb D h P f (fun k => (look P k).getD (f k)) f (isIn P) (m + 1))) (fun _ t _ => 40 - (intOf t).toNat)
            case atStart => exact ⟨0, by omega, rfl, rfl, HA⟩
            case round =>
              rename World => wq
              obtain ⟨q, hq, rfl, rfl, HQ⟩ := hrel
              clear HA
              by_cases hlt : q < 40
              · have c1 := HQ.out.tc.cell q hlt
                have q0 : (0 : Int) ≤ q := by omega
                have q1 : (q : Int) < 40 := by omega
                have HC : Hid (cnt (isIn P) (q + 1) = cnt (isIn P) q + (if isIn P q = true then 1 else 0)) := cnt_step _ _
                have hcl := cnt_le (isIn P) q
                have HGt : Hid (Calls _ _ _ wq _) := get_any HQ.out.st q hlt (f q) (HQ.out.gd.pg.2 q hlt) HQ.out.ks.short
                generalize cnt (isIn P) q = c at *
                have c0 : (0 : Int) ≤ c := by omega
                have c2 : (c : Int) ≤ 40 := by omega
                have HN : Hid (∀ w2 ad cap, IsBy w2 ad ((look P q).getD (f q)) cap → Below wq.heap.size wq w2 → Sg w w2 p nb sb n s NB TB UB cv mb D h P f (fun k => (look P k).getD (f k)) f (isIn P) (m + 1) ∧ ∃ ad2 cap2, w2.cell? ⟨NB, q, none⟩ = some (.slice ad2 ((look P q).getD (f q)).length cap2) ∧ ∀ k, (convert 33 9 (.slice ad ((look P q).getD (f q)).length cap)).run Tryd.prog (w2.drewN k) = .ok (.string (txt ((look P q).getD (f q)))) (w2.drewN k) ∧ (convert 33 9 (.slice ad2 ((look P q).getD (f q)).length cap2)).run Tryd.prog (w2.drewN k) = .ok (.string (txt ((look P q).getD (f q)))) (w2.drewN k)) := by
                  intro w2 ad cap hby hb
                  have hS2 := HQ.out.below hb
                  obtain ⟨vs, har⟩ := hS2.nw
                  have hcell := har.cell q hlt
                  obtain ⟨ad2, cap2, eo, _, hby2⟩ := (har.own q hlt).isBy
                  rw [eo] at hcell
                  exact ⟨hS2, ad2, cap2, hcell, fun k => ⟨run_str _ _ _ _ (hby.below ((Still.drewN w2 k).below _)), run_str _ _ _ _ (hby2.below ((Still.drewN w2 k).below _))⟩⟩
                generalize (look P q).getD (f q) = xl at *
                clear HQ
                cases hg : isIn P q
                · rw [hg] at c1 HC
                  go_wp2_with fail
                  refine HGt.out.mono ?_
                  rintro e w2 ⟨ad, cap, rfl, hby, hb⟩
                  obtain ⟨hS2, ad2, cap2, hc2, hstr⟩ := HN.out w2 ad cap hby.out hb.out
                  have hS1 := fun k => (hstr k).1
                  have hS2s := fun k => (hstr k).2
                  have HS2 : Hid (Sg w w2 p nb sb n s NB TB UB cv mb D h P f (fun k => (look P k).getD (f k)) f (isIn P) (m + 1)) := hS2
                  clear HGt HN hby hb hS2 hstr c1
                  generalize txt xl = tx at *
                  go_wp2_with fail
                  go_quiet (fail)
                  rename Nat => nk
                  have HS3 : Hid (Sg w (w2.drewN nk) p nb sb n s NB TB UB cv mb D h P f (fun k => (look P k).getD (f k)) f (isIn P) (m + 1)) := HS2.out.below ((Still.drewN w2 nk).below _)
                  clear hS1 hS2s hc2 HS2
                  go_wp2_with fail
                  go_roundw
                  case rel => exact ⟨q + 1, by omega, by rw [HC.out]; rfl, by go_num, HS3⟩
                  case measure => simp [intOf]; omega
                · rw [hg] at c1 HC
                  go_wp2_with fail
                  refine HGt.out.mono ?_
                  rintro e w2 ⟨ad, cap, rfl, hby, hb⟩
                  obtain ⟨hS2, ad2, cap2, hc2, hstr⟩ := HN.out w2 ad cap hby.out hb.out
                  have hS1 := fun k => (hstr k).1
                  have hS2s := fun k => (hstr k).2
                  have HS2 : Hid (Sg w w2 p nb sb n s NB TB UB cv mb D h P f (fun k => (look P k).getD (f k)) f (isIn P) (m + 1)) := hS2
                  clear HGt HN hby hb hS2 hstr c1
                  generalize txt xl = tx at *
                  go_wp2_with fail
                  go_quiet (fail)
                  rename Nat => nk
                  have HS3 : Hid (Sg w (w2.drewN nk) p nb sb n s NB TB UB cv mb D h P f (fun k => (look P k).getD (f k)) f (isIn P) (m + 1)) := HS2.out.below ((Still.drewN w2 nk).below _)
                  clear hS1 hS2s hc2 HS2
                  go_wp2_with fail
                  go_roundw
                  case rel => exact ⟨q + 1, by omega, by rw [HC.out]; go_num, by go_num, HS3⟩
                  case measure => simp [intOf]; omega
              · have eq : q = 40 := by omega
                subst eq
                have q1 : ¬ ((40 : Nat) : Int) < 40 := by omega
                have HCt : Hid (cnt (isIn P) 40 = P.length) := HQ.out.ks.count
                rw [HCt.out]
                have HP1 : Hid (Calls _ _ _ wq _) := pending_any HQ.out.st
                go_wp2_with fail
                refine HP1.out.mono ?_
                rintro e w2 ⟨rfl, hs2⟩
                have HQ2 : Hid (Sg w w2 p nb sb n s NB TB UB cv mb D h P f (fun k => (look P k).getD (f k)) f (isIn P) (m + 1)) := HQ.out.below (hs2.below _)
                have HP2 : Hid (Calls _ _ _ w2 _) := version_any HQ2.out.st
                rw [HVr.out] at HP2
                clear HP1 HQ hs2 HCt
                go_wp2_with fail
                refine HP2.out.mono ?_
                rintro e w3 ⟨rfl, hs3⟩
                have HX3 : Hid (Spx w w3 p nb sb n NB TB UB s ver (m + 1)) := ⟨cv, mb, D, h, P, f, HQ2.out.below (hs3.below _), HVr.out⟩
                clear HP2 HQ2 hs3
                go_wp2_with fail
                go_roundw
                case rel => exact ⟨s, m + 1, ver, by omega, by omega, rfl, rfl, by go_num, HX3⟩
                case measure => simp [intOf]; omega
    · obtain ⟨cv, mb, D, h, P, f, A, _⟩ := H.out
      have HGo : Hid (Calls _ _ _ wr _) := get_out A.st 40 (by omega)
      have H1 : Hid (∀ U, Below w.heap.size w U → Calls Tryd.prog 5 #[.iface 45 (.int .i64 1), .int .i64 1] U fun e w' => e = .returned (.bool true) ∧ Below U.heap.size U w') := fun U hU => err_true (.inr ⟨rfl, by omega, by omega⟩) U (HG.out.below hU (Nat.le_refl _))
      have HB : Hid (Below w.heap.size w wr) := A.st.tn.2
      clear A H
      by_cases hmm : m < rs.length
      · have m1 : (m : Int) < rs.length := by omega
        have m2 : ¬ (m : Int) < 60 := by omega
        go_wp2_with fail
        refine HGo.out.mono ?_
        rintro e w7 ⟨rfl, hs7⟩
        have b7 := HB.out.trans (hs7.out.below _)
        have HE7 : Hid (Calls _ _ _ w7 _) := H1.out w7 b7
        clear HGo hs7
        go_wp2_with fail
        refine HE7.out.mono ?_
        rintro e w8 ⟨rfl, hb8⟩
        have B8 : Hid (Below w.heap.size w w8) := b7.trans (hb8.mono b7.size)
        clear HE7 hb8 b7
        go_wp2
        go_ret
        exact ⟨rfl, B8.out⟩
      · have m1 : ¬ (m : Int) < rs.length := by omega
        go_wp2_with fail
        refine HGo.out.mono ?_
        rintro e w7 ⟨rfl, hs7⟩
        have b7 := HB.out.trans (hs7.out.below _)
        have HE7 : Hid (Calls _ _ _ w7 _) := H1.out w7 b7
        clear HGo hs7
        go_wp2_with fail
        refine HE7.out.mono ?_
        rintro e w8 ⟨rfl, hb8⟩
        have B8 : Hid (Below w.heap.size w w8) := b7.trans (hb8.mono b7.size)
        clear HE7 hb8 b7
        go_wp2
        go_ret
        exact ⟨rfl, B8.out⟩
end Go.Proofs.YteffpglmgekkiaaDoor
