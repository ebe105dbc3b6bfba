/-
  The walk of daylaw5.StoreApart: its loops.
-/
import Derived.Test.YtcoobcfdilnkhaaSaW
namespace Go.Proofs.Ytcoobcfdilnkhaa
set_option linter.unusedVariables false
set_option linter.unusedSimpArgs false
set_option maxRecDepth 100000
open Go.RowKit Go.Lib
set_option maxHeartbeats 8000000 in
theorem apart_walk (a : Option Addr) (l : List Int) (cap : Nat) (kp : Int) (w : World) (h : IsIn w a l cap) (hl : l.length ≤ 140737488355328) :
    Calls Try.prog 3 #[.slice a l.length cap, .int .i64 kp] w fun e w' => e = .returned (.bool true) ∧ Below w.heap.size w w' := by
  have HNew : Hid (Calls _ _ _ w _) := tn_new 90 w (by omega) (by omega)
  obtain ⟨ef, en, ff, fl⟩ := fmtD_eq 90
  obtain ⟨hd0', hd1'⟩ := fmtD_heads 90 (by omega)
  have HFm : Hid (∀ W p nb sb cv, Tn w W p nb sb cv 90 (dk0 90) → Calls Try.prog 5 #[.pointer (some ⟨p, 0, none⟩)] W fun e w' => e = .returned .nilIface ∧ ∃ cv', Hid (Tn w w' p nb sb cv' 90 (fmtD 90))) := fun W p nb sb cv hW => by
    have hz : ∀ i, i < 90 → (dk0 90).now.getD i bk0 = bk0 := fun i hi => by
      show (List.replicate 90 bk0).getD i bk0 = bk0
      rw [List.getD_eq_getElem?_getD, List.getElem?_replicate, if_pos hi]; rfl
    refine (format_any hW (by omega) (by omega) ⟨by show 0 ≤ 999980; omega, by show 0 ≤ 999980; omega⟩ none none (.inr (hz 0 (by omega))) (.inr (hz 1 (by omega)))).mono ?_
    rw [show newer none none = none from rfl, ef]
    rintro e w' ⟨rfl, cv', h1, _⟩
    exact ⟨rfl, cv', h1⟩
  have HOp : Hid (∀ W p nb sb cv, Tn w W p nb sb cv 90 (fmtD 90) → Calls Try.prog 6 #[.pointer (some ⟨p, 0, none⟩)] W fun e w' => ∃ s mb, e = .returned (.tuple #[.pointer (some ⟨s, 0, none⟩), .nilIface]) ∧ Hid (StAt w w' p nb sb cv 90 (fmtD 90) s mb (fmtH none) [] false)) := fun W p nb sb cv hW => by
    refine (open_some hW (by omega) none (some (fmtH none)) hd0' hd1' (fmtH none) rfl).mono ?_
    rintro e w' ⟨s, mb, rfl, h1, _⟩
    exact ⟨s, mb, rfl, h1⟩
  have Hl : Hid (∀ W, Below w.heap.size w W → ∀ k, k < l.length → ∃ b off, a = some ⟨b, off, none⟩ ∧ W.cell? ⟨b, off + k, none⟩ = some (.int .i64 (l.getD k 0))) := by
    intro W hW k hk
    rcases h.lies with h | ⟨b, off, e, hlt, hc⟩
    · subst h; simp at hk
    · exact ⟨b, off, e, (hW.cell (p := ⟨b, off + k, none⟩) hlt).trans (hc k hk)⟩
  have hl0 : (0 : Int) ≤ l.length := by omega
  have hl1 : (l.length : Int) ≤ 140737488355328 := by omega
  have hal := alloc_arr
  have HS0 : Hid (∀ W p nb sb cv s mb, StAt w W p nb sb cv 90 (fmtD 90) s mb (fmtH none) [] false → Sa w (W.alloc (.cells (byC (List.replicate 40 0)).toArray 33)) p nb sb s mb W.heap.size cv (fmtD 90) (fmtH none) (List.replicate 40 0) 0) := fun W p nb sb cv s mb hW => by
    have hb := (Below.refl _ W).alloc (Nat.le_refl _) (.cells (byC (List.replicate 40 0)).toArray 33)
    refine ⟨hW.below hb, by rw [ff]; decide, fl.mono (by omega), Nat.le_refl 0, (fmtD_pages 90).congr (fun j hj => ?_), new_heap W _, by simp, hW.tn.2.size⟩
    unfold pgF
    rw [List.getD_eq_getElem?_getD, List.getElem?_replicate, if_pos hj]
    rfl
  clear h ef en ff fl hd0' hd1'
  generalize (byC (List.replicate 40 0)).toArray = Z0 at *
  go_enter Try.func3, Try.ntmps3
  go_wp2_with fail
  refine HNew.out.mono ?_
  rintro e w1 ⟨p, nb, sb, rfl, ht1⟩
  have HF1 : Hid (Calls _ _ _ w1 _) := HFm.out w1 p nb sb _ ht1.out
  clear HNew HFm ht1
  go_wp2_with fail
  refine HF1.out.mono ?_
  rintro e w2 ⟨rfl, cv2, ht2⟩
  have HO2 : Hid (Calls _ _ _ w2 _) := HOp.out w2 p nb sb cv2 ht2.out
  clear HF1 HOp ht2
  go_wp2_with fail
  refine HO2.out.mono ?_
  rintro e w3 ⟨s, mb, rfl, hs3⟩
  have HV : Hid (Calls _ _ _ w3 _) := version_any hs3.out
  clear HO2
  go_wp2_with fail
  refine HV.out.mono ?_
  rintro e w4 ⟨rfl, hs4⟩
  have hst4 : StAt w w4 p nb sb cv2 90 (fmtD 90) s mb (fmtH none) [] false := hs3.out.still hs4
  have Hsa : Hid (Sa w (w4.alloc (.cells Z0 33)) p nb sb s mb w4.heap.size cv2 (fmtD 90) (fmtH none) (List.replicate 40 0) 0) := HS0.out w4 p nb sb cv2 s mb hst4
  rw [show ((fmtH none).ver : Int) = 0 from rfl]
  clear HV hs3 hs4 hst4 HS0
  go_wp2_with (refine wpList_alloc_run rfl 33 rfl (hal _) ?_)
  obtain ⟨lb, hlb⟩ : ∃ lb, w4.heap.size = lb := ⟨_, rfl⟩
  obtain ⟨v4, hv4⟩ : ∃ v4, w4.alloc (.cells Z0 33) = v4 := ⟨_, rfl⟩
  rw [hlb] at Hsa ⊢
  rw [hv4] at Hsa ⊢
  clear hlb hv4 hal
  go_loopw [11] (fun v wr => ∃ i : Nat, i ≤ 40 ∧ i ≤ l.length ∧ v = .int .i64 i ∧ Hid (∃ cv D h la, Sa w wr p nb sb s mb lb cv D h la i)) (fun v _ => 40 - (intOf v).toNat)
  case atStart => exact ⟨0, by omega, by omega, rfl, _, _, _, _, Hsa.out⟩
  case round =>
    obtain ⟨i, hi, hil, rfl, H⟩ := hrel
    obtain ⟨cv, D, hh, la, A⟩ := H.out
    have i0 : (0 : Int) ≤ i := by omega
    by_cases hlt : i < l.length ∧ i < 40
    · obtain ⟨hlt1, hlt2⟩ := hlt
      have i1 : (i : Int) < l.length := by omega
      have i2 : (i : Int) < 40 := by omega
      obtain ⟨b, off, rfl, hc⟩ := Hl.out wr A.st.tn.2 i hlt1
      generalize l.getD i 0 = x at *
      have hq1 : -40 < x.tmod 40 ∧ x.tmod 40 < 40 := ⟨by have := Int.lt_tmod_of_pos x (show (0 : Int) < 40 by omega); omega, Int.tmod_lt_of_pos x (by omega)⟩
      by_cases hqn : x.tmod 40 < 0
      · obtain ⟨kk, hkq0⟩ : ∃ kk : Nat, x.tmod 40 = -(kk : Int) := ⟨(-(x.tmod 40)).toNat, by omega⟩
        have hkk : kk < 40 := by omega
        have q0 : (0 : Int) < kk := by omega
        have q1 : (kk : Int) < 40 := by omega
        clear hq1 hqn
        have HPut : Hid (Calls _ _ _ _ _) := put_ok (A.st.below ((Below.refl _ wr).alloc (Nat.le_refl _) (.cells (byC [UInt8.ofNat (i + 1)]).toArray 5))) kk hkk (some ⟨wr.heap.size, 0, none⟩) [UInt8.ofNat (i + 1)] 1 (isBy_new wr _) (.inr (by simp)) (by simp)
        have eX : (byC [UInt8.ofNat (i + 1)]).toArray = #[.int .u8 ((i : Int) + 1)] := by
          have : ((UInt8.ofNat (i + 1)).toNat : Int) = (i : Int) + 1 := by rw [UInt8.toNat_ofNat']; omega
          rw [← this]; rfl
        rw [eX, show ([UInt8.ofNat (i + 1)] : List UInt8).length = 1 from rfl, show upd [] kk [UInt8.ofNat (i + 1)] = [(kk, [UInt8.ofNat (i + 1)])] from rfl] at HPut
        have hXn : ((UInt8.ofNat (i + 1)).toNat : Int) = (i : Int) + 1 := by rw [UInt8.toNat_ofNat']; omega
        have hX0 : UInt8.ofNat (i + 1) ≠ 0 := fun e => by
          have := congrArg UInt8.toNat e
          have h0 : (0 : UInt8).toNat = 0 := rfl
          omega
        have HXn : Hid (((UInt8.ofNat (i + 1)).toNat : Int) = (i : Int) + 1) := hXn
        generalize UInt8.ofNat (i + 1) = X at *
        have HA : Hid (Sa w wr p nb sb s mb lb cv D hh la i) := A
        clear A H eX hXn
        go_wp2_with fail
        refine HPut.out.mono ?_
        rintro e w5 ⟨rfl, hs5, hk5⟩
        have HK5 : Hid (KeepC w.heap.size stT wr w5) := (KeepC.of_below ((Below.refl _ wr).alloc (Nat.le_refl _) _)).trans hk5.out
        have HPd : Hid (Calls _ _ _ w5 _) := pending_any hs5.out
        clear HPut hk5 hc
        go_wp2_with fail
        refine HPd.out.mono ?_
        rintro e w6 ⟨rfl, hs6⟩
        have Hst6 : Hid (StAt w w6 p nb sb cv 90 D s mb hh [(kk, [X])] false) := hs5.out.still hs6
        have HK6 : Hid (KeepC w.heap.size stT wr w6) := HK5.out.trans (.of_still hs6)
        clear HPd hs5 hs6 HK5
        rw [show ([(kk, [X])] : List (Nat × List UInt8)).length = 1 from rfl]
        cases hkq : ((i : Int) % 4 == kp)
        · have HCm : Hid (Calls _ _ _ w6 _) := commit_ok Hst6.out HA.out.fl (HA.out.lm.mono (by omega)) (by omega) (by omega) (look_one kk X) (by have := HA.out.vr; omega)
          go_wp2_with fail
          refine HCm.out.mono ?_
          rintro e U0 ⟨rfl, cv2, hs7, hk7⟩
          obtain ⟨A2, ⟨z, cz⟩, fz⟩ := HA.out.commit kk hkk X hX0 (by omega) hs7.out (HK6.out.trans hk7.out)
          rw [HXn.out] at A2
          obtain ⟨D2, hD2⟩ : ∃ D2, nxD D hh [(kk, [X])] = D2 := ⟨_, rfl⟩
          obtain ⟨h2, hh2⟩ : ∃ h2, nxH hh [(kk, [X])] = h2 := ⟨_, rfl⟩
          obtain ⟨la2, hla2⟩ : ∃ la2, la.set kk X = la2 := ⟨_, rfl⟩
          rw [hD2, hh2, hla2] at A2
          have HA2' : Hid (Sa w (U0.setCell ⟨lb, kk, none⟩ (.int .u8 ((i : Int) + 1))) p nb sb s mb lb cv2 D2 h2 la2 (i + 1)) := A2
          have HP0' : Hid (Calls _ _ _ (U0.setCell ⟨lb, kk, none⟩ (.int .u8 ((i : Int) + 1))) _) := pending_any A2.st
          clear HCm A2 hs7 hk7 hD2 hh2 hla2 HA Hst6 HK6
          go_wp2_with fail
          refine HP0'.out.mono ?_
          rintro e U ⟨rfl, hs8⟩
          have A2 : Sa w U p nb sb s mb lb cv2 D2 h2 la2 (i + 1) := HA2'.out.below (hs8.below _)
          clear HP0' HA2' hs8 cz fz
          have HA3 : Hid (Sa w U p nb sb s mb lb cv2 D2 h2 la2 (i + 1)) := A2
          clear A2
          go_wp2
          go_loopw [14] (fun v wr => ∃ k : Nat, k ≤ 40 ∧ v = .int .i64 k ∧ Hid (Sa w wr p nb sb s mb lb cv2 D2 h2 la2 (i + 1))) (fun v _ => 40 - (intOf v).toNat)
          case atStart => exact ⟨0, by omega, rfl, HA3⟩
          case round =>
            rename World => wk
            obtain ⟨k, hk, rfl, HA⟩ := hrel
            have k0 : (0 : Int) ≤ k := by omega
            by_cases hlt : k < 40
            · have k1 : (k : Int) < 40 := by omega
              have HG : Hid (Calls _ _ _ wk _) := get_any HA.out.st k hlt (pgF la2 k) (HA.out.pg.2 k hlt) (fun j l e => by cases e)
              rw [show (look [] k).getD (pgF la2 k) = pgF la2 k from rfl] at HG
              by_cases hz : la2.getD k 0 = 0
              · rw [show pgF la2 k = [] by unfold pgF; rw [if_pos hz]] at HG
                go_wp2_with fail
                refine HG.out.mono ?_
                rintro e u2 ⟨ad, cp, rfl, hby, hb⟩
                have HB : Hid (Sa w u2 p nb sb s mb lb cv2 D2 h2 la2 (i + 1)) := HA.out.below hb.out
                have cl2 := HB.out.cell k hlt
                rw [hz] at cl2
                have cl3 : u2.cell? ⟨lb, k, none⟩ = some (.int .u8 0) := cl2
                clear HG hby hb cl2 HA
                go_wp2
                go_quiet (fail)
                rename Nat => nq
                have HN : Hid (Sa w (u2.drewN nq) p nb sb s mb lb cv2 D2 h2 la2 (i + 1)) := HB.out.below ⟨rfl, rfl, rfl, Nat.le_refl _, fun _ _ => rfl⟩
                go_wp2
                go_roundw
                case rel => exact ⟨k + 1, by omega, by go_num, HN⟩
                case measure => simp [intOf]; omega
              · rw [show pgF la2 k = [la2.getD k 0] by unfold pgF; rw [if_neg hz]] at HG
                go_wp2_with fail
                refine HG.out.mono ?_
                rintro e u2 ⟨ad, cp, rfl, hby, hb⟩
                have HB : Hid (Sa w u2 p nb sb s mb lb cv2 D2 h2 la2 (i + 1)) := HA.out.below hb.out
                have cl2 := HB.out.cell k hlt
                obtain ⟨b3, o3, e3, c3⟩ : ∃ b off, ad = some ⟨b, off, none⟩ ∧ u2.cell? ⟨b, off, none⟩ = some (.int .u8 ((la2.getD k 0).toNat : Int)) := by
                  rcases hby.out.lies with h | ⟨b, off, e, _, hc⟩
                  · cases h
                  · exact ⟨b, off, e, hc 0 (by simp)⟩
                subst e3
                have hzn : ((la2.getD k 0).toNat : Int) ≠ 0 := fun e => hz (UInt8.toNat_inj.1 (by
                  have h0 : (0 : UInt8).toNat = 0 := rfl
                  omega))
                have hz1 : (((la2.getD k 0).toNat : Int) == 0) = false := by rw [beq_eq_false_iff_ne]; exact hzn
                have hz2 : (((la2.getD k 0).toNat : Int) != 0) = true := by rw [bne_iff_ne]; exact hzn
                clear HG hby hb HA hz
                generalize ((la2.getD k 0).toNat : Int) = y at *
                rw [show ([la2.getD k 0] : List UInt8).length = 1 from rfl]
                go_wp2
                go_quiet (fail)
                rename Nat => nq
                have HN : Hid (Sa w (u2.drewN nq) p nb sb s mb lb cv2 D2 h2 la2 (i + 1)) := HB.out.below ⟨rfl, rfl, rfl, Nat.le_refl _, fun _ _ => rfl⟩
                go_wp2
                go_roundw
                case rel => exact ⟨k + 1, by omega, by go_num, HN⟩
                case measure => simp [intOf]; omega
            · have ek : k = 40 := by omega
              subst ek
              go_wp2
              go_roundw
              case rel => exact ⟨i + 1, by omega, by omega, by go_num, _, _, _, _, HA.out⟩
              case measure => simp [intOf]; omega
        · have HRb : Hid (Calls _ _ _ w6 _) := rollback_any Hst6.out
          go_wp2_with fail
          refine HRb.out.mono ?_
          rintro e U0 ⟨rfl, hs7, hk7, _⟩
          have hro : U0.heap[lb]? = _ := (HK6.out.trans hk7.out).row HA.out.ro (by decide)
          have A2' : Sa w U0 p nb sb s mb lb cv D hh la (i + 1) := ⟨hs7.out, HA.out.fl, HA.out.lm.mono (by omega), by have := HA.out.vr; omega, HA.out.pg, hro, HA.out.ln, HA.out.lo⟩
          have HA2' : Hid (Sa w U0 p nb sb s mb lb cv D hh la (i + 1)) := A2'
          have HP0' : Hid (Calls _ _ _ U0 _) := pending_any A2'.st
          rw [show ([(kk, [X])] : List (Nat × List UInt8)).length = 1 from rfl]
          clear HRb A2' hs7 hk7 hro HA Hst6 HK6
          go_wp2_with fail
          refine HP0'.out.mono ?_
          rintro e U ⟨rfl, hs8⟩
          obtain ⟨cv2, D2, h2, la2, A2⟩ : ∃ cv2 D2 h2 la2, Sa w U p nb sb s mb lb cv2 D2 h2 la2 (i + 1) := ⟨cv, D, hh, la, HA2'.out.below (hs8.below _)⟩
          clear HP0' HA2' hs8
          have HA3 : Hid (Sa w U p nb sb s mb lb cv2 D2 h2 la2 (i + 1)) := A2
          clear A2
          go_wp2
          go_loopw [14] (fun v wr => ∃ k : Nat, k ≤ 40 ∧ v = .int .i64 k ∧ Hid (Sa w wr p nb sb s mb lb cv2 D2 h2 la2 (i + 1))) (fun v _ => 40 - (intOf v).toNat)
          case atStart => exact ⟨0, by omega, rfl, HA3⟩
          case round =>
            rename World => wk
            obtain ⟨k, hk, rfl, HA⟩ := hrel
            have k0 : (0 : Int) ≤ k := by omega
            by_cases hlt : k < 40
            · have k1 : (k : Int) < 40 := by omega
              have HG : Hid (Calls _ _ _ wk _) := get_any HA.out.st k hlt (pgF la2 k) (HA.out.pg.2 k hlt) (fun j l e => by cases e)
              rw [show (look [] k).getD (pgF la2 k) = pgF la2 k from rfl] at HG
              by_cases hz : la2.getD k 0 = 0
              · rw [show pgF la2 k = [] by unfold pgF; rw [if_pos hz]] at HG
                go_wp2_with fail
                refine HG.out.mono ?_
                rintro e u2 ⟨ad, cp, rfl, hby, hb⟩
                have HB : Hid (Sa w u2 p nb sb s mb lb cv2 D2 h2 la2 (i + 1)) := HA.out.below hb.out
                have cl2 := HB.out.cell k hlt
                rw [hz] at cl2
                have cl3 : u2.cell? ⟨lb, k, none⟩ = some (.int .u8 0) := cl2
                clear HG hby hb cl2 HA
                go_wp2
                go_quiet (fail)
                rename Nat => nq
                have HN : Hid (Sa w (u2.drewN nq) p nb sb s mb lb cv2 D2 h2 la2 (i + 1)) := HB.out.below ⟨rfl, rfl, rfl, Nat.le_refl _, fun _ _ => rfl⟩
                go_wp2
                go_roundw
                case rel => exact ⟨k + 1, by omega, by go_num, HN⟩
                case measure => simp [intOf]; omega
              · rw [show pgF la2 k = [la2.getD k 0] by unfold pgF; rw [if_neg hz]] at HG
                go_wp2_with fail
                refine HG.out.mono ?_
                rintro e u2 ⟨ad, cp, rfl, hby, hb⟩
                have HB : Hid (Sa w u2 p nb sb s mb lb cv2 D2 h2 la2 (i + 1)) := HA.out.below hb.out
                have cl2 := HB.out.cell k hlt
                obtain ⟨b3, o3, e3, c3⟩ : ∃ b off, ad = some ⟨b, off, none⟩ ∧ u2.cell? ⟨b, off, none⟩ = some (.int .u8 ((la2.getD k 0).toNat : Int)) := by
                  rcases hby.out.lies with h | ⟨b, off, e, _, hc⟩
                  · cases h
                  · exact ⟨b, off, e, hc 0 (by simp)⟩
                subst e3
                have hzn : ((la2.getD k 0).toNat : Int) ≠ 0 := fun e => hz (UInt8.toNat_inj.1 (by
                  have h0 : (0 : UInt8).toNat = 0 := rfl
                  omega))
                have hz1 : (((la2.getD k 0).toNat : Int) == 0) = false := by rw [beq_eq_false_iff_ne]; exact hzn
                have hz2 : (((la2.getD k 0).toNat : Int) != 0) = true := by rw [bne_iff_ne]; exact hzn
                clear HG hby hb HA hz
                generalize ((la2.getD k 0).toNat : Int) = y at *
                rw [show ([la2.getD k 0] : List UInt8).length = 1 from rfl]
                go_wp2
                go_quiet (fail)
                rename Nat => nq
                have HN : Hid (Sa w (u2.drewN nq) p nb sb s mb lb cv2 D2 h2 la2 (i + 1)) := HB.out.below ⟨rfl, rfl, rfl, Nat.le_refl _, fun _ _ => rfl⟩
                go_wp2
                go_roundw
                case rel => exact ⟨k + 1, by omega, by go_num, HN⟩
                case measure => simp [intOf]; omega
            · have ek : k = 40 := by omega
              subst ek
              go_wp2
              go_roundw
              case rel => exact ⟨i + 1, by omega, by omega, by go_num, _, _, _, _, HA.out⟩
              case measure => simp [intOf]; omega
      · obtain ⟨kk, hkq0⟩ : ∃ kk : Nat, x.tmod 40 = (kk : Int) := ⟨(x.tmod 40).toNat, by omega⟩
        have hkk : kk < 40 := by omega
        have q0 : ¬ (kk : Int) < 0 := by omega
        have q1 : (kk : Int) < 40 := by omega
        clear hq1 hqn
        have HPut : Hid (Calls _ _ _ _ _) := put_ok (A.st.below ((Below.refl _ wr).alloc (Nat.le_refl _) (.cells (byC [UInt8.ofNat (i + 1)]).toArray 5))) kk hkk (some ⟨wr.heap.size, 0, none⟩) [UInt8.ofNat (i + 1)] 1 (isBy_new wr _) (.inr (by simp)) (by simp)
        have eX : (byC [UInt8.ofNat (i + 1)]).toArray = #[.int .u8 ((i : Int) + 1)] := by
          have : ((UInt8.ofNat (i + 1)).toNat : Int) = (i : Int) + 1 := by rw [UInt8.toNat_ofNat']; omega
          rw [← this]; rfl
        rw [eX, show ([UInt8.ofNat (i + 1)] : List UInt8).length = 1 from rfl, show upd [] kk [UInt8.ofNat (i + 1)] = [(kk, [UInt8.ofNat (i + 1)])] from rfl] at HPut
        have hXn : ((UInt8.ofNat (i + 1)).toNat : Int) = (i : Int) + 1 := by rw [UInt8.toNat_ofNat']; omega
        have hX0 : UInt8.ofNat (i + 1) ≠ 0 := fun e => by
          have := congrArg UInt8.toNat e
          have h0 : (0 : UInt8).toNat = 0 := rfl
          omega
        have HXn : Hid (((UInt8.ofNat (i + 1)).toNat : Int) = (i : Int) + 1) := hXn
        generalize UInt8.ofNat (i + 1) = X at *
        have HA : Hid (Sa w wr p nb sb s mb lb cv D hh la i) := A
        clear A H eX hXn
        go_wp2_with fail
        refine HPut.out.mono ?_
        rintro e w5 ⟨rfl, hs5, hk5⟩
        have HK5 : Hid (KeepC w.heap.size stT wr w5) := (KeepC.of_below ((Below.refl _ wr).alloc (Nat.le_refl _) _)).trans hk5.out
        have HPd : Hid (Calls _ _ _ w5 _) := pending_any hs5.out
        clear HPut hk5 hc
        go_wp2_with fail
        refine HPd.out.mono ?_
        rintro e w6 ⟨rfl, hs6⟩
        have Hst6 : Hid (StAt w w6 p nb sb cv 90 D s mb hh [(kk, [X])] false) := hs5.out.still hs6
        have HK6 : Hid (KeepC w.heap.size stT wr w6) := HK5.out.trans (.of_still hs6)
        clear HPd hs5 hs6 HK5
        rw [show ([(kk, [X])] : List (Nat × List UInt8)).length = 1 from rfl]
        cases hkq : ((i : Int) % 4 == kp)
        · have HCm : Hid (Calls _ _ _ w6 _) := commit_ok Hst6.out HA.out.fl (HA.out.lm.mono (by omega)) (by omega) (by omega) (look_one kk X) (by have := HA.out.vr; omega)
          go_wp2_with fail
          refine HCm.out.mono ?_
          rintro e U0 ⟨rfl, cv2, hs7, hk7⟩
          obtain ⟨A2, ⟨z, cz⟩, fz⟩ := HA.out.commit kk hkk X hX0 (by omega) hs7.out (HK6.out.trans hk7.out)
          rw [HXn.out] at A2
          obtain ⟨D2, hD2⟩ : ∃ D2, nxD D hh [(kk, [X])] = D2 := ⟨_, rfl⟩
          obtain ⟨h2, hh2⟩ : ∃ h2, nxH hh [(kk, [X])] = h2 := ⟨_, rfl⟩
          obtain ⟨la2, hla2⟩ : ∃ la2, la.set kk X = la2 := ⟨_, rfl⟩
          rw [hD2, hh2, hla2] at A2
          have HA2' : Hid (Sa w (U0.setCell ⟨lb, kk, none⟩ (.int .u8 ((i : Int) + 1))) p nb sb s mb lb cv2 D2 h2 la2 (i + 1)) := A2
          have HP0' : Hid (Calls _ _ _ (U0.setCell ⟨lb, kk, none⟩ (.int .u8 ((i : Int) + 1))) _) := pending_any A2.st
          clear HCm A2 hs7 hk7 hD2 hh2 hla2 HA Hst6 HK6
          go_wp2_with fail
          refine HP0'.out.mono ?_
          rintro e U ⟨rfl, hs8⟩
          have A2 : Sa w U p nb sb s mb lb cv2 D2 h2 la2 (i + 1) := HA2'.out.below (hs8.below _)
          clear HP0' HA2' hs8 cz fz
          have HA3 : Hid (Sa w U p nb sb s mb lb cv2 D2 h2 la2 (i + 1)) := A2
          clear A2
          go_wp2
          go_loopw [14] (fun v wr => ∃ k : Nat, k ≤ 40 ∧ v = .int .i64 k ∧ Hid (Sa w wr p nb sb s mb lb cv2 D2 h2 la2 (i + 1))) (fun v _ => 40 - (intOf v).toNat)
          case atStart => exact ⟨0, by omega, rfl, HA3⟩
          case round =>
            rename World => wk
            obtain ⟨k, hk, rfl, HA⟩ := hrel
            have k0 : (0 : Int) ≤ k := by omega
            by_cases hlt : k < 40
            · have k1 : (k : Int) < 40 := by omega
              have HG : Hid (Calls _ _ _ wk _) := get_any HA.out.st k hlt (pgF la2 k) (HA.out.pg.2 k hlt) (fun j l e => by cases e)
              rw [show (look [] k).getD (pgF la2 k) = pgF la2 k from rfl] at HG
              by_cases hz : la2.getD k 0 = 0
              · rw [show pgF la2 k = [] by unfold pgF; rw [if_pos hz]] at HG
                go_wp2_with fail
                refine HG.out.mono ?_
                rintro e u2 ⟨ad, cp, rfl, hby, hb⟩
                have HB : Hid (Sa w u2 p nb sb s mb lb cv2 D2 h2 la2 (i + 1)) := HA.out.below hb.out
                have cl2 := HB.out.cell k hlt
                rw [hz] at cl2
                have cl3 : u2.cell? ⟨lb, k, none⟩ = some (.int .u8 0) := cl2
                clear HG hby hb cl2 HA
                go_wp2
                go_quiet (fail)
                rename Nat => nq
                have HN : Hid (Sa w (u2.drewN nq) p nb sb s mb lb cv2 D2 h2 la2 (i + 1)) := HB.out.below ⟨rfl, rfl, rfl, Nat.le_refl _, fun _ _ => rfl⟩
                go_wp2
                go_roundw
                case rel => exact ⟨k + 1, by omega, by go_num, HN⟩
                case measure => simp [intOf]; omega
              · rw [show pgF la2 k = [la2.getD k 0] by unfold pgF; rw [if_neg hz]] at HG
                go_wp2_with fail
                refine HG.out.mono ?_
                rintro e u2 ⟨ad, cp, rfl, hby, hb⟩
                have HB : Hid (Sa w u2 p nb sb s mb lb cv2 D2 h2 la2 (i + 1)) := HA.out.below hb.out
                have cl2 := HB.out.cell k hlt
                obtain ⟨b3, o3, e3, c3⟩ : ∃ b off, ad = some ⟨b, off, none⟩ ∧ u2.cell? ⟨b, off, none⟩ = some (.int .u8 ((la2.getD k 0).toNat : Int)) := by
                  rcases hby.out.lies with h | ⟨b, off, e, _, hc⟩
                  · cases h
                  · exact ⟨b, off, e, hc 0 (by simp)⟩
                subst e3
                have hzn : ((la2.getD k 0).toNat : Int) ≠ 0 := fun e => hz (UInt8.toNat_inj.1 (by
                  have h0 : (0 : UInt8).toNat = 0 := rfl
                  omega))
                have hz1 : (((la2.getD k 0).toNat : Int) == 0) = false := by rw [beq_eq_false_iff_ne]; exact hzn
                have hz2 : (((la2.getD k 0).toNat : Int) != 0) = true := by rw [bne_iff_ne]; exact hzn
                clear HG hby hb HA hz
                generalize ((la2.getD k 0).toNat : Int) = y at *
                rw [show ([la2.getD k 0] : List UInt8).length = 1 from rfl]
                go_wp2
                go_quiet (fail)
                rename Nat => nq
                have HN : Hid (Sa w (u2.drewN nq) p nb sb s mb lb cv2 D2 h2 la2 (i + 1)) := HB.out.below ⟨rfl, rfl, rfl, Nat.le_refl _, fun _ _ => rfl⟩
                go_wp2
                go_roundw
                case rel => exact ⟨k + 1, by omega, by go_num, HN⟩
                case measure => simp [intOf]; omega
            · have ek : k = 40 := by omega
              subst ek
              go_wp2
              go_roundw
              case rel => exact ⟨i + 1, by omega, by omega, by go_num, _, _, _, _, HA.out⟩
              case measure => simp [intOf]; omega
        · have HRb : Hid (Calls _ _ _ w6 _) := rollback_any Hst6.out
          go_wp2_with fail
          refine HRb.out.mono ?_
          rintro e U0 ⟨rfl, hs7, hk7, _⟩
          have hro : U0.heap[lb]? = _ := (HK6.out.trans hk7.out).row HA.out.ro (by decide)
          have A2' : Sa w U0 p nb sb s mb lb cv D hh la (i + 1) := ⟨hs7.out, HA.out.fl, HA.out.lm.mono (by omega), by have := HA.out.vr; omega, HA.out.pg, hro, HA.out.ln, HA.out.lo⟩
          have HA2' : Hid (Sa w U0 p nb sb s mb lb cv D hh la (i + 1)) := A2'
          have HP0' : Hid (Calls _ _ _ U0 _) := pending_any A2'.st
          rw [show ([(kk, [X])] : List (Nat × List UInt8)).length = 1 from rfl]
          clear HRb A2' hs7 hk7 hro HA Hst6 HK6
          go_wp2_with fail
          refine HP0'.out.mono ?_
          rintro e U ⟨rfl, hs8⟩
          obtain ⟨cv2, D2, h2, la2, A2⟩ : ∃ cv2 D2 h2 la2, Sa w U p nb sb s mb lb cv2 D2 h2 la2 (i + 1) := ⟨cv, D, hh, la, HA2'.out.below (hs8.below _)⟩
          clear HP0' HA2' hs8
          have HA3 : Hid (Sa w U p nb sb s mb lb cv2 D2 h2 la2 (i + 1)) := A2
          clear A2
          go_wp2
          go_loopw [14] (fun v wr => ∃ k : Nat, k ≤ 40 ∧ v = .int .i64 k ∧ Hid (Sa w wr p nb sb s mb lb cv2 D2 h2 la2 (i + 1))) (fun v _ => 40 - (intOf v).toNat)
          case atStart => exact ⟨0, by omega, rfl, HA3⟩
          case round =>
            rename World => wk
            obtain ⟨k, hk, rfl, HA⟩ := hrel
            have k0 : (0 : Int) ≤ k := by omega
            by_cases hlt : k < 40
            · have k1 : (k : Int) < 40 := by omega
              have HG : Hid (Calls _ _ _ wk _) := get_any HA.out.st k hlt (pgF la2 k) (HA.out.pg.2 k hlt) (fun j l e => by cases e)
              rw [show (look [] k).getD (pgF la2 k) = pgF la2 k from rfl] at HG
              by_cases hz : la2.getD k 0 = 0
              · rw [show pgF la2 k = [] by unfold pgF; rw [if_pos hz]] at HG
                go_wp2_with fail
                refine HG.out.mono ?_
                rintro e u2 ⟨ad, cp, rfl, hby, hb⟩
                have HB : Hid (Sa w u2 p nb sb s mb lb cv2 D2 h2 la2 (i + 1)) := HA.out.below hb.out
                have cl2 := HB.out.cell k hlt
                rw [hz] at cl2
                have cl3 : u2.cell? ⟨lb, k, none⟩ = some (.int .u8 0) := cl2
                clear HG hby hb cl2 HA
                go_wp2
                go_quiet (fail)
                rename Nat => nq
                have HN : Hid (Sa w (u2.drewN nq) p nb sb s mb lb cv2 D2 h2 la2 (i + 1)) := HB.out.below ⟨rfl, rfl, rfl, Nat.le_refl _, fun _ _ => rfl⟩
                go_wp2
                go_roundw
                case rel => exact ⟨k + 1, by omega, by go_num, HN⟩
                case measure => simp [intOf]; omega
              · rw [show pgF la2 k = [la2.getD k 0] by unfold pgF; rw [if_neg hz]] at HG
                go_wp2_with fail
                refine HG.out.mono ?_
                rintro e u2 ⟨ad, cp, rfl, hby, hb⟩
                have HB : Hid (Sa w u2 p nb sb s mb lb cv2 D2 h2 la2 (i + 1)) := HA.out.below hb.out
                have cl2 := HB.out.cell k hlt
                obtain ⟨b3, o3, e3, c3⟩ : ∃ b off, ad = some ⟨b, off, none⟩ ∧ u2.cell? ⟨b, off, none⟩ = some (.int .u8 ((la2.getD k 0).toNat : Int)) := by
                  rcases hby.out.lies with h | ⟨b, off, e, _, hc⟩
                  · cases h
                  · exact ⟨b, off, e, hc 0 (by simp)⟩
                subst e3
                have hzn : ((la2.getD k 0).toNat : Int) ≠ 0 := fun e => hz (UInt8.toNat_inj.1 (by
                  have h0 : (0 : UInt8).toNat = 0 := rfl
                  omega))
                have hz1 : (((la2.getD k 0).toNat : Int) == 0) = false := by rw [beq_eq_false_iff_ne]; exact hzn
                have hz2 : (((la2.getD k 0).toNat : Int) != 0) = true := by rw [bne_iff_ne]; exact hzn
                clear HG hby hb HA hz
                generalize ((la2.getD k 0).toNat : Int) = y at *
                rw [show ([la2.getD k 0] : List UInt8).length = 1 from rfl]
                go_wp2
                go_quiet (fail)
                rename Nat => nq
                have HN : Hid (Sa w (u2.drewN nq) p nb sb s mb lb cv2 D2 h2 la2 (i + 1)) := HB.out.below ⟨rfl, rfl, rfl, Nat.le_refl _, fun _ _ => rfl⟩
                go_wp2
                go_roundw
                case rel => exact ⟨k + 1, by omega, by go_num, HN⟩
                case measure => simp [intOf]; omega
            · have ek : k = 40 := by omega
              subst ek
              go_wp2
              go_roundw
              case rel => exact ⟨i + 1, by omega, by omega, by go_num, _, _, _, _, HA.out⟩
              case measure => simp [intOf]; omega
    · have HE : Hid (Below w.heap.size w wr) := A.st.tn.2
      clear H A
      by_cases e1 : i < l.length
      · have i1 : (i : Int) < l.length := by omega
        have i2 : ¬ (i : Int) < 40 := by omega
        go_wp2
        go_ret
        exact ⟨rfl, HE.out⟩
      · have i1 : ¬ (i : Int) < l.length := by omega
        go_wp2
        go_ret
        exact ⟨rfl, HE.out⟩
end Go.Proofs.Ytcoobcfdilnkhaa
