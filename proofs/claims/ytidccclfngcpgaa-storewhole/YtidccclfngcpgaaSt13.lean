/-
  The walk of a store's writePages, where the disk does not fail.
-/
import Derived.Test.YtidccclfngcpgaaSt12
namespace Go.Proofs.Ytidccclfngcpgaa
set_option linter.unusedVariables false
set_option linter.unusedSimpArgs false
set_option maxRecDepth 100000
open Go.RowKit Go.Lib
theorem drewB (u : World) : Below u.heap.size u u.drew := ⟨rfl, rfl, rfl, Nat.le_refl _, fun _ _ => rfl⟩
theorem drewK (lo : Nat) (T : List TypeId) (u : World) : KeepC lo T u u.drew := .of_below (drewB u)
section
variable {w W : World} {p nb sb : Nat} {cv : Value} {n : Nat} {D : Dk} {s mb : Nat} {h : Hd} {P : List (Nat × List UInt8)} {lost : Bool}
/-- The state when the pages below k are written. -/
def WpSt (w W wr : World) (p nb sb n : Nat) (D : Dk) (s mb : Nat) (h : Hd) (P : List (Nat × List UInt8)) (nx : Nat) (y : Hd) (k : Nat) : Prop := ∃ cv', StAt w wr p nb sb cv' n (wpD h P D k) s mb h P false ∧ NxAt w wr nx { y with whr := wpW h P y.whr k } ∧ KeepC w.heap.size stT W wr
set_option maxHeartbeats 8000000 in
theorem writePages_ok (a : StAt w W p nb sb cv n D s mb h P false) (nx : Nat) (y : Hd) (hy : NxAt w W nx y) (hf : D.fail < 0) (hlim : D.lim 999000) (hn : 90 ≤ n) (hn2 : n ≤ 200) (hP : ∀ k l, look P k = some l → l.length ≤ 60) :
    Calls Try.prog 21 #[.pointer (some ⟨s, 0, none⟩), .pointer (some ⟨nx, 0, none⟩)] W fun e w' => e = .returned .nilIface ∧ Hid (WpSt w W w' p nb sb n D.flush s mb h P nx y 40) := by
  have c0 := a.c0
  have HF : Hid (Calls _ _ _ W _) := tn_flush a.tn (failing_neg hf) (by have := hlim.s; omega)
  have hfl : D.flush.lim 999001 := ⟨Nat.succ_le_succ hlim.s, by simp [Dk.flush]⟩
  have Hs : Hid (∀ U cv', Tn w U p nb sb cv' n D.flush → Keeps w.heap.size dkT W U → WpSt w W U p nb sb n D.flush s mb h P nx y 0) := fun U cv' h1 h2 => ⟨cv', a.disk h1 h2, hy.keeps h2, .of_keeps h2 dk_st⟩
  have Hf : Hid (∀ k, (wpD h P D.flush k).failing = false ∧ (k ≤ 40 → (wpD h P D.flush k).lim 999900)) := fun k => ⟨failing_neg (by rw [wpD_fail]; exact hf), fun hk => (wpD_lim hfl k).mono (by omega)⟩
  have HPl : Hid (∀ k l, look P k = some l → l.length ≤ 60) := hP
  have hsz := a.tn.2.size
  clear a hy hP hf hlim hfl
  generalize D.flush = D1 at *
  go_enter Try.func21, Try.ntmps21
  go_wp2_with fail
  refine HF.out.mono ?_
  rintro e w1 ⟨rfl, ht1, hk1⟩
  have H0 : Hid (WpSt w W w1 p nb sb n D1 s mb h P nx y 0) := Hs.out w1 _ ht1.out hk1.out
  clear HF Hs ht1 hk1 c0
  go_wp2
  go_loopw [18] (fun v wr => ∃ k : Nat, k ≤ 40 ∧ v = .int .i64 k ∧ Hid (WpSt w W wr p nb sb n D1 s mb h P nx y k)) (fun v _ => 40 - (intOf v).toNat)
  case atStart => exact ⟨0, by omega, rfl, H0⟩
  case round =>
    obtain ⟨k, hk, rfl, H⟩ := hrel
    by_cases hlt : k < 40
    · obtain ⟨cv', a, b, hkp⟩ := H.out
      have cm := a.cm
      obtain ⟨v, hrun, hv, hvn⟩ := run_look a.mp k
      have k0 : (0 : Int) ≤ k := by omega
      have k1 : (k : Int) < 40 := by omega
      cases hq : look P k with
      | none =>
        rw [hq] at hrun
        have HN : Hid (WpSt w W wr p nb sb n D1 s mb h P nx y (k + 1)) := by
          refine ⟨cv', ?_, ?_, hkp⟩
          · unfold wpD; rw [hq]; exact a
          · unfold wpW; rw [hq]; exact b
        have hvn' := hvn hq
        subst hvn'
        clear H a b hkp hv hvn
        go_wp2
        go_roundw
        case rel => exact ⟨k + 1, by omega, by go_num, HN⟩
        case measure => simp [intOf]; omega
      | some l =>
        rw [hq] at hrun hv
        obtain ⟨ad, cap, rfl, hcc, hby⟩ := hv.isBy
        have hl := HPl.out k l hq
        have hFr := free_any k (h.whr.getD k 0) wr.drew hlt
        have hfb := freeB_lt k (h.whr.getD k 0) hlt
        have hu8 := free_u8 k (h.whr.getD k 0) hlt
        have cwd : wr.drew.cell? ⟨s, 4 + k, none⟩ = some (.int .u8 ((h.whr.getD k 0).toNat : Int)) := a.cw k hlt
        have cnx : wr.drew.cell? ⟨nx, 3 + k, none⟩ = some (.int .u8 (((wpW h P y.whr k).getD k 0).toNat : Int)) := b.cw k hlt
        have fnx : wr.drew.frozen? ⟨nx, 3 + k, none⟩ = false := b.fz _
        have a1 : StAt w wr.drew p nb sb cv' n (wpD h P D1 k) s mb h P false := a.below ⟨rfl, rfl, rfl, Nat.le_refl _, fun _ _ => rfl⟩
        have b1 : NxAt w wr.drew nx { y with whr := wpW h P y.whr k } := b.below ⟨rfl, rfl, rfl, Nat.le_refl _, fun _ _ => rfl⟩
        have a2 := a1.setNx b1 (3 + k) (.int .u8 ((UInt8.ofNat (freeB k (h.whr.getD k 0))).toNat : Int))
        have b2 := b1.set k hlt (UInt8.ofNat (freeB k (h.whr.getD k 0)))
        have kp2 : KeepC w.heap.size stT W (wr.drew.setCell ⟨nx, 3 + k, none⟩ (.int .u8 ((UInt8.ofNat (freeB k (h.whr.getD k 0))).toNat : Int))) := (hkp.trans (drewK _ _ wr)).setCell b1.1 (by decide) b1.2.1 _
        have eW : wpW h P y.whr (k + 1) = (wpW h P y.whr k).set k (UInt8.ofNat (freeB k (h.whr.getD k 0))) := by
          show (match look P k with | none => wpW h P y.whr k | some l => (wpW h P y.whr k).set k (UInt8.ofNat (freeB k (h.whr.getD k 0)))) = _
          rw [hq]
        have eD : wpD h P D1 (k + 1) = (wpD h P D1 k).write (freeB k (h.whr.getD k 0)) (pgB l) := by
          show (match look P k with | none => wpD h P D1 k | some l => (wpD h P D1 k).write (freeB k (h.whr.getD k 0)) (pgB l)) = _
          rw [hq]
        rw [hu8] at a2 b2 kp2
        have b2' : NxAt w (wr.drew.setCell ⟨nx, 3 + k, none⟩ (.int .u8 ((freeB k (h.whr.getD k 0) : Nat) : Int))) nx { y with whr := wpW h P y.whr (k + 1) } := by rw [eW]; exact b2
        have hby2 : IsBy (wr.drew.setCell ⟨nx, 3 + k, none⟩ (.int .u8 ((freeB k (h.whr.getD k 0) : Nat) : Int))) ad l cap := by
          have := (hv.keep ((KeepC.refl w.heap.size stT wr).trans ((drewK w.heap.size stT wr).setCell (o := 3 + k) b1.1 (by decide) b1.2.1 (.int .u8 ((freeB k (h.whr.getD k 0) : Nat) : Int))))).isBy
          obtain ⟨_, _, e, _, h3⟩ := this
          cases e
          exact h3
        obtain ⟨X, hX⟩ : ∃ X, freeB k (h.whr.getD k 0) = X := ⟨_, rfl⟩
        rw [hX] at a2 b2' kp2 hby2 hFr hfb eD
        obtain ⟨W2, hW2⟩ : ∃ W2, wr.drew.setCell ⟨nx, 3 + k, none⟩ (.int .u8 (X : Int)) = W2 := ⟨_, rfl⟩
        rw [hW2] at a2 b2' kp2 hby2
        have hWp := writePage_any (W := W2.drew) (a2.tn.below ⟨rfl, rfl, rfl, Nat.le_refl _, fun _ _ => rfl⟩) X ad l cap (hby2.below ⟨rfl, rfl, rfl, Nat.le_refl _, fun _ _ => rfl⟩) hcc hl (Hf.out k).1 (by omega) hn2 (by have := ((Hf.out k).2 hk).s; omega) (by have := ((Hf.out k).2 hk).c; omega)
        have HWp : Hid (Calls _ _ _ W2.drew _) := hWp
        have HNext : Hid (∀ U cv2, Tn w U p nb sb cv2 n ((wpD h P D1 k).write X (pgB l)) → Keeps w.heap.size dkT W2.drew U → WpSt w W U p nb sb n D1 s mb h P nx y (k + 1)) := fun U cv2 h1 h2 => by
          have a3 : StAt w W2.drew p nb sb cv' n (wpD h P D1 k) s mb h P false := a2.below ⟨rfl, rfl, rfl, Nat.le_refl _, fun _ _ => rfl⟩
          have b3 : NxAt w W2.drew nx { y with whr := wpW h P y.whr (k + 1) } := b2'.below ⟨rfl, rfl, rfl, Nat.le_refl _, fun _ _ => rfl⟩
          exact ⟨cv2, by rw [eD]; exact a3.disk h1 h2, b3.keeps h2, (kp2.trans (drewK _ _ W2)).trans (.of_keeps h2 dk_st)⟩
        have c0d : W2.drew.cell? ⟨s, 0, none⟩ = some (.pointer (some ⟨p, 0, none⟩)) := a2.c0
        have cxd : W2.drew.cell? ⟨nx, 3 + k, none⟩ = some (.int .u8 (X : Int)) := by
          have := b2'.cw k hlt
          rw [eW, hX] at this
          have hlk : k < (wpW h P y.whr k).length := by rw [b1.2.2.w]; exact hlt
          rw [List.getD_eq_getElem?_getD, List.getElem?_set_self hlk, Option.getD_some, ← hX, hu8, hX] at this
          exact this
        have HFr : Hid (Calls _ _ _ wr.drew _) := hFr
        generalize (h.whr.getD k 0).toNat = Y at *
        generalize ((wpW h P y.whr k).getD k 0).toNat = Z at *
        have x0 : (0 : Int) ≤ X := by omega
        have x1 : (X : Int) < 256 := by omega
        have hwx : IntKind.i64.wrap (X : Int) = X := by rw [IntKind.wrap_i64]; omega
        clear H a b hkp hv hvn hby a1 b1 a2 b2 b2' kp2 eW eD hby2 hWp hFr hu8 hX
        go_wp2
        refine wp_region_drawn (by kernel_rfl) ?_
        refine wpAny_take (i := 0) (v := .pointer (some ⟨nx, 0, none⟩)) rfl (by kernel_rfl) (by kernel_rfl) (by kernel_rfl) (fun _ _ _ h => h) (Or.inl ⟨by rfl, fun w => by go_simp⟩) ?_
        simp only [Act.put, List.getElem_toArray, List.getElem_cons_succ, List.getElem_cons_zero, List.setIfInBounds_toArray, List.set_cons_zero, List.set_cons_succ]
        refine wpAny_take (i := 1) (v := .int .i64 k) rfl (by kernel_rfl) (by kernel_rfl) (by kernel_rfl) (fun _ _ _ h => h) (Or.inl ⟨by rfl, fun w => by go_simp⟩) ?_
        simp only [Act.put, List.getElem_toArray, List.getElem_cons_succ, List.getElem_cons_zero, List.setIfInBounds_toArray, List.set_cons_zero, List.set_cons_succ]
        refine wpAny_take (i := 2) (v := .int .i64 k) rfl (by kernel_rfl) (by kernel_rfl) (by kernel_rfl) (fun _ _ _ h => h) (Or.inl ⟨by rfl, fun w => by go_simp⟩) ?_
        simp only [Act.put, List.getElem_toArray, List.getElem_cons_succ, List.getElem_cons_zero, List.setIfInBounds_toArray, List.set_cons_zero, List.set_cons_succ]
        refine wpAny_take (i := 3) (v := .pointer (some ⟨s, 0, none⟩)) rfl (by kernel_rfl) (by kernel_rfl) (by kernel_rfl) (fun _ _ _ h => h) (Or.inl ⟨by rfl, fun w => by go_simp⟩) ?_
        simp only [Act.put, List.getElem_toArray, List.getElem_cons_succ, List.getElem_cons_zero, List.setIfInBounds_toArray, List.set_cons_zero, List.set_cons_succ]
        refine wpAny_take (i := 4) (v := .int .i64 k) rfl (by kernel_rfl) (by kernel_rfl) (by kernel_rfl) (fun _ _ _ h => h) (Or.inl ⟨by rfl, fun w => by go_simp⟩) ?_
        simp only [Act.put, List.getElem_toArray, List.getElem_cons_succ, List.getElem_cons_zero, List.setIfInBounds_toArray, List.set_cons_zero, List.set_cons_succ]
        refine wpAny_take (i := 5) (v := .pointer (some ⟨s, 0, none⟩)) rfl (by kernel_rfl) (by kernel_rfl) (by kernel_rfl) (fun _ _ _ h => h) (Or.inl ⟨by rfl, fun w => by go_simp⟩) ?_
        simp only [Act.put, List.getElem_toArray, List.getElem_cons_succ, List.getElem_cons_zero, List.setIfInBounds_toArray, List.set_cons_zero, List.set_cons_succ]
        refine wpAny_take (i := 6) (v := .pointer (some ⟨s, 1, none⟩)) rfl (by kernel_rfl) (by kernel_rfl) (by kernel_rfl) (fun _ _ _ h => h) (Or.inl ⟨by rfl, fun w => by go_simp⟩) ?_
        simp only [Act.put, List.getElem_toArray, List.getElem_cons_succ, List.getElem_cons_zero, List.setIfInBounds_toArray, List.set_cons_zero, List.set_cons_succ]
        refine wpAny_take (i := 7) (v := .pointer (some ⟨s, 4, none⟩)) rfl (by kernel_rfl) (by kernel_rfl) (by kernel_rfl) (fun _ _ _ h => h) (Or.inl ⟨by rfl, fun w => by go_simp⟩) ?_
        simp only [Act.put, List.getElem_toArray, List.getElem_cons_succ, List.getElem_cons_zero, List.setIfInBounds_toArray, List.set_cons_zero, List.set_cons_succ]
        refine wpAny_take (i := 8) (v := .pointer (some ⟨s, 4 + k, none⟩)) rfl (by kernel_rfl) (by kernel_rfl) (by kernel_rfl) (fun _ _ _ h => h) (Or.inl ⟨by rfl, fun w => by go_simp⟩) ?_
        simp only [Act.put, List.getElem_toArray, List.getElem_cons_succ, List.getElem_cons_zero, List.setIfInBounds_toArray, List.set_cons_zero, List.set_cons_succ]
        refine wpAny_take (i := 11) (v := .pointer (some ⟨nx, 0, none⟩)) rfl (by kernel_rfl) (by kernel_rfl) (by kernel_rfl) (fun _ _ _ h => h) (Or.inl ⟨by rfl, fun w => by go_simp⟩) ?_
        simp only [Act.put, List.getElem_toArray, List.getElem_cons_succ, List.getElem_cons_zero, List.setIfInBounds_toArray, List.set_cons_zero, List.set_cons_succ]
        refine wpAny_take (i := 12) (v := .pointer (some ⟨nx, 3, none⟩)) rfl (by kernel_rfl) (by kernel_rfl) (by kernel_rfl) (fun _ _ _ h => h) (Or.inl ⟨by rfl, fun w => by go_simp⟩) ?_
        simp only [Act.put, List.getElem_toArray, List.getElem_cons_succ, List.getElem_cons_zero, List.setIfInBounds_toArray, List.set_cons_zero, List.set_cons_succ]
        refine any_of_L (g := 10) (T := fun u => u = wr.drew) _ _ _ _ ?_
        refine L_take (i := 9) (v := .int .u8 Y) rfl rfl (by kernel_rfl) (by decide) (by kernel_rfl) (by kernel_rfl) (by kernel_rfl) (by kernel_rfl) (fun _ _ _ h => h) (Or.inl ⟨by rfl, fun w' hw' => by subst hw'; go_simp⟩) rfl ?_
        simp only [Act.put, List.getElem_toArray, List.getElem_cons_succ, List.getElem_cons_zero, List.setIfInBounds_toArray, List.set_cons_zero, List.set_cons_succ]
        refine L_go (by kernel_rfl) (by kernel_rfl) ?_
        refine wpOp_step rfl (fun K hK => ?_)
        rw [if_pos (by rfl)]
        go_wp2_with fail
        refine HFr.out.mono ?_
        rintro e u ⟨rfl, hu⟩
        rw [hu]
        refine hK _ _ ?_
        clear hK K HFr hu u cwd
        refine wpAny_take (i := 13) (v := .pointer (some ⟨nx, 3 + k, none⟩)) rfl (by kernel_rfl) (by kernel_rfl) (by kernel_rfl) (fun _ _ _ h => h) (Or.inl ⟨by rfl, fun w => by go_simp⟩) ?_
        simp only [Act.put, List.getElem_toArray, List.getElem_cons_succ, List.getElem_cons_zero, List.setIfInBounds_toArray, List.set_cons_zero, List.set_cons_succ]
        refine any_one (i := 14) (by kernel_rfl) ?_
        refine wpOp_step rfl ?_
        intro K hK
        rw [if_pos (by rfl)]
        have hK' : Shut (∀ a w, _ → K a w) := hK
        clear hK
        go_wp2
        refine hK'.out _ _ ?_
        clear hK' K
        refine wpAny_done (by kernel_rfl) ?_ _
        try rw [hW2]
        clear cnx fnx
        go_wp2
        refine wp_region_drawn (by kernel_rfl) ?_
        refine wpAny_take (i := 0) (v := .pointer (some ⟨s, 0, none⟩)) rfl (by kernel_rfl) (by kernel_rfl) (by kernel_rfl) (fun _ _ _ h => h) (Or.inl ⟨by rfl, fun w => by go_simp⟩) ?_
        simp only [Act.put, List.getElem_toArray, List.getElem_cons_succ, List.getElem_cons_zero, List.setIfInBounds_toArray, List.set_cons_zero, List.set_cons_succ]
        refine wpAny_take (i := 1) (v := .pointer (some ⟨s, 0, none⟩)) rfl (by kernel_rfl) (by kernel_rfl) (by kernel_rfl) (fun _ _ _ h => h) (Or.inl ⟨by rfl, fun w => by go_simp⟩) ?_
        simp only [Act.put, List.getElem_toArray, List.getElem_cons_succ, List.getElem_cons_zero, List.setIfInBounds_toArray, List.set_cons_zero, List.set_cons_succ]
        refine wpAny_take (i := 2) (v := .pointer (some ⟨s, 0, none⟩)) rfl (by kernel_rfl) (by kernel_rfl) (by kernel_rfl) (fun _ _ _ h => h) (Or.inl ⟨by rfl, fun w => by go_simp⟩) ?_
        simp only [Act.put, List.getElem_toArray, List.getElem_cons_succ, List.getElem_cons_zero, List.setIfInBounds_toArray, List.set_cons_zero, List.set_cons_succ]
        refine wpAny_take (i := 4) (v := .pointer (some ⟨nx, 0, none⟩)) rfl (by kernel_rfl) (by kernel_rfl) (by kernel_rfl) (fun _ _ _ h => h) (Or.inl ⟨by rfl, fun w => by go_simp⟩) ?_
        simp only [Act.put, List.getElem_toArray, List.getElem_cons_succ, List.getElem_cons_zero, List.setIfInBounds_toArray, List.set_cons_zero, List.set_cons_succ]
        refine wpAny_take (i := 5) (v := .int .i64 k) rfl (by kernel_rfl) (by kernel_rfl) (by kernel_rfl) (fun _ _ _ h => h) (Or.inl ⟨by rfl, fun w => by go_simp⟩) ?_
        simp only [Act.put, List.getElem_toArray, List.getElem_cons_succ, List.getElem_cons_zero, List.setIfInBounds_toArray, List.set_cons_zero, List.set_cons_succ]
        refine wpAny_take (i := 6) (v := .pointer (some ⟨nx, 0, none⟩)) rfl (by kernel_rfl) (by kernel_rfl) (by kernel_rfl) (fun _ _ _ h => h) (Or.inl ⟨by rfl, fun w => by go_simp⟩) ?_
        simp only [Act.put, List.getElem_toArray, List.getElem_cons_succ, List.getElem_cons_zero, List.setIfInBounds_toArray, List.set_cons_zero, List.set_cons_succ]
        refine wpAny_take (i := 7) (v := .pointer (some ⟨nx, 3, none⟩)) rfl (by kernel_rfl) (by kernel_rfl) (by kernel_rfl) (fun _ _ _ h => h) (Or.inl ⟨by rfl, fun w => by go_simp⟩) ?_
        simp only [Act.put, List.getElem_toArray, List.getElem_cons_succ, List.getElem_cons_zero, List.setIfInBounds_toArray, List.set_cons_zero, List.set_cons_succ]
        refine wpAny_take (i := 8) (v := .pointer (some ⟨nx, 3 + k, none⟩)) rfl (by kernel_rfl) (by kernel_rfl) (by kernel_rfl) (fun _ _ _ h => h) (Or.inl ⟨by rfl, fun w => by go_simp⟩) ?_
        simp only [Act.put, List.getElem_toArray, List.getElem_cons_succ, List.getElem_cons_zero, List.setIfInBounds_toArray, List.set_cons_zero, List.set_cons_succ]
        refine wpAny_take (i := 11) (v := .slice ad l.length cap) rfl (by kernel_rfl) (by kernel_rfl) (by kernel_rfl) (fun _ _ _ h => h) (Or.inl ⟨by rfl, fun w => by go_simp⟩) ?_
        simp only [Act.put, List.getElem_toArray, List.getElem_cons_succ, List.getElem_cons_zero, List.setIfInBounds_toArray, List.set_cons_zero, List.set_cons_succ]
        refine any_of_L (g := 12) (T := fun u => u = W2.drew) _ _ _ _ ?_
        refine L_take (i := 3) (v := .pointer (some ⟨p, 0, none⟩)) rfl rfl (by kernel_rfl) (by decide) (by kernel_rfl) (by kernel_rfl) (by kernel_rfl) (by kernel_rfl) (fun _ _ _ h => h) (Or.inl ⟨by rfl, fun w' hw' => by subst hw'; go_simp⟩) rfl ?_
        simp only [Act.put, List.getElem_toArray, List.getElem_cons_succ, List.getElem_cons_zero, List.setIfInBounds_toArray, List.set_cons_zero, List.set_cons_succ]
        refine L_take2 (i := 9) (m := 10) (v := .int .u8 (X : Int)) rfl rfl rfl (by kernel_rfl) (by kernel_rfl) (by decide) (by kernel_rfl) (by kernel_rfl) (by kernel_rfl) (by kernel_rfl) (by kernel_rfl) (fun _ _ _ h => h) (Or.inl ⟨by rfl, fun w' hw' => by subst hw'; go_simp⟩) rfl ?_
        simp only [Act.put, List.getElem_toArray, List.getElem_cons_succ, List.getElem_cons_zero, List.setIfInBounds_toArray, List.set_cons_zero, List.set_cons_succ]
        refine L_take (i := 10) (v := .int .i64 X) rfl rfl (by kernel_rfl) (by decide) (by kernel_rfl) (by kernel_rfl) (by kernel_rfl) (by kernel_rfl) (fun _ _ _ h => h) (Or.inl ⟨by rfl, fun w' hw' => by clear hw'; go_simp⟩) rfl ?_
        simp only [Act.put, List.getElem_toArray, List.getElem_cons_succ, List.getElem_cons_zero, List.setIfInBounds_toArray, List.set_cons_zero, List.set_cons_succ]
        refine L_go (by kernel_rfl) (by kernel_rfl) ?_
        refine wpOp_step rfl (fun K hK => ?_)
        rw [if_pos (by rfl)]
        go_wp2_with fail
        refine HWp.out.mono ?_
        rintro e w5 ⟨rfl, cv5, ht5, hk5⟩
        refine hK _ _ ?_
        have HN : Hid (WpSt w W w5 p nb sb n D1 s mb h P nx y (k + 1)) := HNext.out w5 cv5 ht5.out hk5.out
        clear hK K HWp HNext ht5 hk5 c0d cxd
        refine wpAny_take (i := 13) (v := .nilIface) rfl (by kernel_rfl) (by kernel_rfl) (by kernel_rfl) (fun _ _ _ h => h) (Or.inl ⟨by rfl, fun w => by go_simp⟩) ?_
        simp only [Act.put, List.getElem_toArray, List.getElem_cons_succ, List.getElem_cons_zero, List.setIfInBounds_toArray, List.set_cons_zero, List.set_cons_succ]
        refine wpAny_done (by kernel_rfl) ?_ _
        go_wp2
        go_roundw
        case rel => exact ⟨k + 1, by omega, by go_num, HN⟩
        case measure => simp [intOf]; omega
    · have ek : k = 40 := by omega
      subst ek
      go_wp2
      go_ret
      exact ⟨rfl, H⟩
end
end Go.Proofs.Ytidccclfngcpgaa
