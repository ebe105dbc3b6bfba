/-
  The contract of a store's writePages, whatever the disk does.
-/
import Derived.Test.YtidccclfngcpgaaSt16
namespace Go.Proofs.Ytidccclfngcpgaa
set_option linter.unusedVariables false
set_option linter.unusedSimpArgs false
set_option maxRecDepth 100000
open Go.RowKit Go.Lib
/-- How far it has come when it has looked at the pages below k: what it tells, the disk, where pages are. -/
def wpS (h : Hd) (P : List (Nat × List UInt8)) (D : Dk) (ws : List UInt8) : Nat → Int × Dk × List UInt8
  | 0 => (0, D, ws)
  | k + 1 =>
    let r := wpS h P D ws k
    if r.1 = 0 then
      match look P k with
      | none => r
      | some l => ((wrR r.2.1 (freeB k (h.whr.getD k 0)) (pgB l)).1, (wrR r.2.1 (freeB k (h.whr.getD k 0)) (pgB l)).2, r.2.2.set k (UInt8.ofNat (freeB k (h.whr.getD k 0))))
    else r
theorem wpS_stop {h : Hd} {P : List (Nat × List UInt8)} {D : Dk} {ws : List UInt8} {k : Nat} (hk : (wpS h P D ws k).1 ≠ 0) : ∀ j, wpS h P D ws (k + j) = wpS h P D ws k
  | 0 => rfl
  | j + 1 => by
    have ih := wpS_stop hk j
    rw [← Nat.add_assoc]
    show (if (wpS h P D ws (k + j)).1 = 0 then _ else wpS h P D ws (k + j)) = _
    rw [ih, if_neg hk]
theorem wpS_lim {h : Hd} {P : List (Nat × List UInt8)} {D : Dk} {ws : List UInt8} {j : Nat} (hd : D.lim j) (k : Nat) : (wpS h P D ws k).2.1.lim (j + k) := by
  induction k with
  | zero => exact hd
  | succ k ih =>
    unfold wpS
    simp only
    split
    · split
      · exact ih.mono (Nat.le_succ _)
      · exact wrR_lim ih _ _
    · exact ih.mono (Nat.le_succ _)
theorem wpS_len (h : Hd) (P : List (Nat × List UInt8)) (D : Dk) (ws : List UInt8) (k : Nat) : (wpS h P D ws k).2.2.length = ws.length := by
  induction k with
  | zero => rfl
  | succ k ih =>
    unfold wpS
    simp only
    split
    · split
      · exact ih
      · simp [ih]
    · exact ih
/-- What writePages leaves. -/
def wpR (h : Hd) (P : List (Nat × List UInt8)) (D : Dk) (ws : List UInt8) : Int × Dk × List UInt8 := if (flR D).1 = 0 then wpS h P (flR D).2 ws 40 else ((flR D).1, (flR D).2, ws)
section
variable {w W : World} {p nb sb : Nat} {cv : Value} {n : Nat} {D : Dk} {s mb : Nat} {h : Hd} {P : List (Nat × List UInt8)} {lost : Bool}
theorem writePage_R (a : Tn w W p nb sb cv n D) (i : Nat) (ad : Option Addr) (l : List UInt8) (cap : Nat) (hB : IsBy W ad l cap) (hc : cap = 0 ∨ ad ≠ none) (hl : l.length ≤ 60) (hi : i < n) (hn : n ≤ 200) (hs : D.lim 1000000) :
    Calls Try.prog 29 #[.pointer (some ⟨p, 0, none⟩), .int .i64 (i : Int), .slice ad l.length cap] W fun e w' => e = .returned (enE (wrR D i (pgB l)).1) ∧ ∃ cv', Hid (Tn w w' p nb sb cv' n (wrR D i (pgB l)).2) ∧ Hid (Keeps w.heap.size dkT W w') := by
  unfold wrR
  by_cases hf : D.failing = true
  · rw [if_pos hf]
    refine (writePage_bad a i ad l cap hB hc hl hf).mono ?_
    rintro e w' ⟨rfl, h1, h2⟩
    exact ⟨rfl, cv, h1, Keeps.of_below h2.out⟩
  · rw [if_neg hf]
    refine (writePage_any a i ad l cap hB hc hl (by simpa using hf) hi hn hs.s hs.c).mono ?_
    rintro e w' ⟨rfl, h1⟩
    exact ⟨rfl, h1⟩
/-- The state of the loop. -/
def WpSR (w W wr : World) (p nb sb n : Nat) (r : Int × Dk × List UInt8) (s mb : Nat) (h : Hd) (P : List (Nat × List UInt8)) (nx : Nat) (y : Hd) : Prop := ∃ cv', StAt w wr p nb sb cv' n r.2.1 s mb h P false ∧ NxAt w wr nx { y with whr := r.2.2 } ∧ KeepC w.heap.size stT W wr
set_option maxHeartbeats 8000000 in
theorem writePages_any (a : StAt w W p nb sb cv n D s mb h P false) (nx : Nat) (y : Hd) (hy : NxAt w W nx y) (hlim : D.lim 999000) (hn : 90 ≤ n) (hn2 : n ≤ 200) (hP : ∀ k l, look P k = some l → l.length ≤ 60) :
    Calls Try.prog 21 #[.pointer (some ⟨s, 0, none⟩), .pointer (some ⟨nx, 0, none⟩)] W fun e w' => e = .returned (enE (wpR h P D y.whr).1) ∧ Hid (WpSR w W w' p nb sb n (wpR h P D y.whr) s mb h P nx y) := by
  have c0 := a.c0
  have HF : Hid (Calls _ _ _ W _) := tn_fl a.tn (hlim.mono (by omega))
  have hfl := flR_lim hlim
  have Hs : Hid (∀ U cv', Tn w U p nb sb cv' n (flR D).2 → Keeps w.heap.size dkT W U → ∀ c, WpSR w W U p nb sb n (c, (flR D).2, y.whr) s mb h P nx y) := fun U cv' h1 h2 c => ⟨cv', a.disk h1 h2, hy.keeps h2, .of_keeps h2 dk_st⟩
  have Hf : Hid (∀ k, k ≤ 40 → (wpS h P (flR D).2 y.whr k).2.1.lim 999900) := fun k hk => (wpS_lim hfl k).mono (by omega)
  have HPl : Hid (∀ k l, look P k = some l → l.length ≤ 60) := hP
  have hsz := a.tn.2.size
  have hyw : y.whr.length = 40 := hy.2.2.w
  have HR0 : Hid ((flR D).1 ≠ 0 → wpR h P D y.whr = ((flR D).1, (flR D).2, y.whr)) := fun e => by unfold wpR; rw [if_neg e]
  have HR1 : Hid ((flR D).1 = 0 → wpR h P D y.whr = wpS h P (flR D).2 y.whr 40) := fun e => by unfold wpR; rw [if_pos e]
  clear a hy hP hlim hfl
  have hcode := flR_code D
  generalize wpR h P D y.whr = RR at *
  generalize (flR D).1 = c1 at *
  generalize (flR D).2 = D1 at *
  rcases hcode with rfl | rfl
  · have hRR := HR1.out rfl
    subst hRR
    clear HR0 HR1
    go_enter Try.func21, Try.ntmps21
    go_wp2_with fail
    refine HF.out.mono ?_
    rintro e w1 ⟨rfl, cv1, ht1, hk1⟩
    have H0 : Hid (WpSR w W w1 p nb sb n (wpS h P D1 y.whr 0) s mb h P nx y) := Hs.out w1 _ ht1.out hk1.out 0
    rw [enE_zero]
    clear HF Hs ht1 hk1 c0
    go_wp2
    go_loopw [18] (fun v wr => ∃ k : Nat, k ≤ 40 ∧ v = .int .i64 k ∧ Hid (WpSR w W wr p nb sb n (wpS h P D1 y.whr k) s mb h P nx y ∧ (wpS h P D1 y.whr k).1 = 0)) (fun v _ => 40 - (intOf v).toNat)
    case atStart => exact ⟨0, by omega, rfl, H0.out, rfl⟩
    case round =>
      obtain ⟨k, hk, rfl, H⟩ := hrel
      by_cases hlt : k < 40
      · obtain ⟨⟨cv', a, b, hkp⟩, hz⟩ := H.out
        have cm := a.cm
        obtain ⟨v, hrun, hv, hvn⟩ := run_look a.mp k
        have k0 : (0 : Int) ≤ k := by omega
        have k1 : (k : Int) < 40 := by omega
        cases hq : look P k with
        | none =>
          rw [hq] at hrun
          have eS : wpS h P D1 y.whr (k + 1) = wpS h P D1 y.whr k := by
            show (if (wpS h P D1 y.whr k).1 = 0 then (match look P k with | none => wpS h P D1 y.whr k | some l => _) else wpS h P D1 y.whr k) = _
            rw [if_pos hz, hq]
          have HN : Hid (WpSR w W wr p nb sb n (wpS h P D1 y.whr (k + 1)) s mb h P nx y ∧ (wpS h P D1 y.whr (k + 1)).1 = 0) := by
            rw [eS]
            exact ⟨⟨cv', a, b, hkp⟩, hz⟩
          clear eS
          have hvn' := hvn hq
          subst hvn'
          clear H a b hkp hv hvn hz
          go_wp2
          go_roundw
          case rel => exact ⟨k + 1, by omega, by go_num, HN⟩
          case measure => simp [intOf]; omega
        | some l =>
          rw [hq] at hrun hv
          have Hlim : Hid ((wpS h P D1 y.whr k).2.1.lim 999900) := Hf.out k hk
          have eS0 : wpS h P D1 y.whr (k + 1) = ((wrR (wpS h P D1 y.whr k).2.1 (freeB k (h.whr.getD k 0)) (pgB l)).1, (wrR (wpS h P D1 y.whr k).2.1 (freeB k (h.whr.getD k 0)) (pgB l)).2, (wpS h P D1 y.whr k).2.2.set k (UInt8.ofNat (freeB k (h.whr.getD k 0)))) := by
            show (if (wpS h P D1 y.whr k).1 = 0 then (match look P k with | none => wpS h P D1 y.whr k | some l => _) else wpS h P D1 y.whr k) = _
            rw [if_pos hz, hq]
          have Hst40 : Hid ((wpS h P D1 y.whr (k + 1)).1 ≠ 0 → wpS h P D1 y.whr 40 = wpS h P D1 y.whr (k + 1)) := fun e => by
            have := wpS_stop e (40 - (k + 1))
            rwa [show k + 1 + (40 - (k + 1)) = 40 by omega] at this
          have HeS : Hid (_ = _) := eS0
          clear eS0
          generalize wpS h P D1 y.whr k = R at *
          obtain ⟨ad, cap, rfl, hcc, hby⟩ := hv.isBy
          have hl := HPl.out k l hq
          have hFr := free_any k (h.whr.getD k 0) wr.drew hlt
          have hfb := freeB_lt k (h.whr.getD k 0) hlt
          have hu8 := free_u8 k (h.whr.getD k 0) hlt
          have cwd : wr.drew.cell? ⟨s, 4 + k, none⟩ = some (.int .u8 ((h.whr.getD k 0).toNat : Int)) := a.cw k hlt
          have cnx : wr.drew.cell? ⟨nx, 3 + k, none⟩ = some (.int .u8 (((R.2.2).getD k 0).toNat : Int)) := b.cw k hlt
          have fnx : wr.drew.frozen? ⟨nx, 3 + k, none⟩ = false := b.fz _
          have a1 : StAt w wr.drew p nb sb cv' n (R.2.1) s mb h P false := a.below ⟨rfl, rfl, rfl, Nat.le_refl _, fun _ _ => rfl⟩
          have b1 : NxAt w wr.drew nx { y with whr := R.2.2 } := b.below ⟨rfl, rfl, rfl, Nat.le_refl _, fun _ _ => rfl⟩
          have a2 := a1.setNx b1 (3 + k) (.int .u8 ((UInt8.ofNat (freeB k (h.whr.getD k 0))).toNat : Int))
          have b2 := b1.set k hlt (UInt8.ofNat (freeB k (h.whr.getD k 0)))
          have kp2 : KeepC w.heap.size stT W (wr.drew.setCell ⟨nx, 3 + k, none⟩ (.int .u8 ((UInt8.ofNat (freeB k (h.whr.getD k 0))).toNat : Int))) := (hkp.trans (drewK _ _ wr)).setCell b1.1 (by decide) b1.2.1 _
          rw [hu8] at a2 b2 kp2
          have b2' : NxAt w (wr.drew.setCell ⟨nx, 3 + k, none⟩ (.int .u8 ((freeB k (h.whr.getD k 0) : Nat) : Int))) nx { y with whr := R.2.2.set k (UInt8.ofNat (freeB k (h.whr.getD k 0))) } := b2
          have hby2 : IsBy (wr.drew.setCell ⟨nx, 3 + k, none⟩ (.int .u8 ((freeB k (h.whr.getD k 0) : Nat) : Int))) ad l cap := by
            have := (hv.keep ((KeepC.refl w.heap.size stT wr).trans ((drewK w.heap.size stT wr).setCell (o := 3 + k) b1.1 (by decide) b1.2.1 (.int .u8 ((freeB k (h.whr.getD k 0) : Nat) : Int))))).isBy
            obtain ⟨_, _, e, _, h3⟩ := this
            cases e
            exact h3
          obtain ⟨X, hX⟩ : ∃ X, freeB k (h.whr.getD k 0) = X := ⟨_, rfl⟩
          rw [hX] at a2 b2' kp2 hby2 hFr hfb HeS
          obtain ⟨W2, hW2⟩ : ∃ W2, wr.drew.setCell ⟨nx, 3 + k, none⟩ (.int .u8 (X : Int)) = W2 := ⟨_, rfl⟩
          rw [hW2] at a2 b2' kp2 hby2
          have HWp : Hid (Calls _ _ _ W2.drew _) := writePage_R (W := W2.drew) (a2.tn.below ⟨rfl, rfl, rfl, Nat.le_refl _, fun _ _ => rfl⟩) X ad l cap (hby2.below ⟨rfl, rfl, rfl, Nat.le_refl _, fun _ _ => rfl⟩) hcc hl (by omega) hn2 (Hlim.out.mono (by omega))
          have hcode := wrR_code R.2.1 X (pgB l)
          have HNext : Hid (∀ U cv2, Tn w U p nb sb cv2 n (wrR R.2.1 X (pgB l)).2 → Keeps w.heap.size dkT W2.drew U → WpSR w W U p nb sb n (wpS h P D1 y.whr (k + 1)) s mb h P nx y) := fun U cv2 h1 h2 => by
            have a3 : StAt w W2.drew p nb sb cv' n R.2.1 s mb h P false := a2.below ⟨rfl, rfl, rfl, Nat.le_refl _, fun _ _ => rfl⟩
            have b3 : NxAt w W2.drew nx { y with whr := R.2.2.set k (UInt8.ofNat X) } := b2'.below ⟨rfl, rfl, rfl, Nat.le_refl _, fun _ _ => rfl⟩
            rw [HeS.out]
            exact ⟨cv2, a3.disk h1 h2, b3.keeps h2, (kp2.trans (drewK _ _ W2)).trans (.of_keeps h2 dk_st)⟩
          have Hc1 : Hid ((wpS h P D1 y.whr (k + 1)).1 = (wrR R.2.1 X (pgB l)).1) := by unfold Hid; rw [HeS.out]
          have c0d : W2.drew.cell? ⟨s, 0, none⟩ = some (.pointer (some ⟨p, 0, none⟩)) := a2.c0
          have cxd : W2.drew.cell? ⟨nx, 3 + k, none⟩ = some (.int .u8 (X : Int)) := by
            have := b2'.cw k hlt
            have hlk : k < (R.2.2).length := by rw [b1.2.2.w]; exact hlt
            rw [List.getD_eq_getElem?_getD, List.getElem?_set_self hlk, Option.getD_some, ← hX, hu8, hX] at this
            exact this
          have HFr : Hid (Calls _ _ _ wr.drew _) := hFr
          generalize (h.whr.getD k 0).toNat = Y at *
          generalize ((R.2.2).getD k 0).toNat = Z at *
          have x0 : (0 : Int) ≤ X := by omega
          have x1 : (X : Int) < 256 := by omega
          have hwx : IntKind.i64.wrap (X : Int) = X := by rw [IntKind.wrap_i64]; omega
          clear H a b hkp hv hvn hby a1 b1 a2 b2 b2' kp2 hby2 hFr hu8 hX hz HeS Hlim
          go_wp2
          refine wp_region_drawn (by kernel_rfl) ?_
          refine wpAny_take (i := 0) (v := .pointer (some ⟨nx, 0, none⟩)) rfl (by kernel_rfl) (by kernel_rfl) (by kernel_rfl) (fun _ _ _ h => h) (Or.inl ⟨by rfl, fun w => by go_simp⟩) ?_
          simp only [Act.put, List.getElem_toArray, List.getElem_cons_succ, List.getElem_cons_zero, List.setIfInBounds_toArray, List.set_cons_zero, List.set_cons_succ]
          refine wpAny_take (i := 1) (v := .int .i64 k) rfl (by kernel_rfl) (by kernel_rfl) (by kernel_rfl) (fun _ _ _ h => h) (Or.inl ⟨by rfl, fun w => by go_simp⟩) ?_
          simp only [Act.put, List.getElem_toArray, List.getElem_cons_succ, List.getElem_cons_zero, List.setIfInBounds_toArray, List.set_cons_zero, List.set_cons_succ]
          refine wpAny_take (i := 2) (v := .int .i64 k) rfl (by kernel_rfl) (by kernel_rfl) (by kernel_rfl) (fun _ _ _ h => h) (Or.inl ⟨by rfl, fun w => by go_simp⟩) ?_
          simp only [Act.put, List.getElem_toArray, List.getElem_cons_succ, List.getElem_cons_zero, List.setIfInBounds_toArray, List.set_cons_zero, List.set_cons_succ]
          refine wpAny_take (i := 3) (v := .pointer (some ⟨s, 0, none⟩)) rfl (by kernel_rfl) (by kernel_rfl) (by kernel_rfl) (fun _ _ _ h => h) (Or.inl ⟨by rfl, fun w => by go_simp⟩) ?_
          simp only [Act.put, List.getElem_toArray, List.getElem_cons_succ, List.getElem_cons_zero, List.setIfInBounds_toArray, List.set_cons_zero, List.set_cons_succ]
          refine wpAny_take (i := 4) (v := .int .i64 k) rfl (by kernel_rfl) (by kernel_rfl) (by kernel_rfl) (fun _ _ _ h => h) (Or.inl ⟨by rfl, fun w => by go_simp⟩) ?_
          simp only [Act.put, List.getElem_toArray, List.getElem_cons_succ, List.getElem_cons_zero, List.setIfInBounds_toArray, List.set_cons_zero, List.set_cons_succ]
          refine wpAny_take (i := 5) (v := .pointer (some ⟨s, 0, none⟩)) rfl (by kernel_rfl) (by kernel_rfl) (by kernel_rfl) (fun _ _ _ h => h) (Or.inl ⟨by rfl, fun w => by go_simp⟩) ?_
          simp only [Act.put, List.getElem_toArray, List.getElem_cons_succ, List.getElem_cons_zero, List.setIfInBounds_toArray, List.set_cons_zero, List.set_cons_succ]
          refine wpAny_take (i := 6) (v := .pointer (some ⟨s, 1, none⟩)) rfl (by kernel_rfl) (by kernel_rfl) (by kernel_rfl) (fun _ _ _ h => h) (Or.inl ⟨by rfl, fun w => by go_simp⟩) ?_
          simp only [Act.put, List.getElem_toArray, List.getElem_cons_succ, List.getElem_cons_zero, List.setIfInBounds_toArray, List.set_cons_zero, List.set_cons_succ]
          refine wpAny_take (i := 7) (v := .pointer (some ⟨s, 4, none⟩)) rfl (by kernel_rfl) (by kernel_rfl) (by kernel_rfl) (fun _ _ _ h => h) (Or.inl ⟨by rfl, fun w => by go_simp⟩) ?_
          simp only [Act.put, List.getElem_toArray, List.getElem_cons_succ, List.getElem_cons_zero, List.setIfInBounds_toArray, List.set_cons_zero, List.set_cons_succ]
          refine wpAny_take (i := 8) (v := .pointer (some ⟨s, 4 + k, none⟩)) rfl (by kernel_rfl) (by kernel_rfl) (by kernel_rfl) (fun _ _ _ h => h) (Or.inl ⟨by rfl, fun w => by go_simp⟩) ?_
          simp only [Act.put, List.getElem_toArray, List.getElem_cons_succ, List.getElem_cons_zero, List.setIfInBounds_toArray, List.set_cons_zero, List.set_cons_succ]
          refine wpAny_take (i := 11) (v := .pointer (some ⟨nx, 0, none⟩)) rfl (by kernel_rfl) (by kernel_rfl) (by kernel_rfl) (fun _ _ _ h => h) (Or.inl ⟨by rfl, fun w => by go_simp⟩) ?_
          simp only [Act.put, List.getElem_toArray, List.getElem_cons_succ, List.getElem_cons_zero, List.setIfInBounds_toArray, List.set_cons_zero, List.set_cons_succ]
          refine wpAny_take (i := 12) (v := .pointer (some ⟨nx, 3, none⟩)) rfl (by kernel_rfl) (by kernel_rfl) (by kernel_rfl) (fun _ _ _ h => h) (Or.inl ⟨by rfl, fun w => by go_simp⟩) ?_
          simp only [Act.put, List.getElem_toArray, List.getElem_cons_succ, List.getElem_cons_zero, List.setIfInBounds_toArray, List.set_cons_zero, List.set_cons_succ]
          refine any_of_L (g := 10) (T := fun u => u = wr.drew) _ _ _ _ ?_
          refine L_take (i := 9) (v := .int .u8 Y) rfl rfl (by kernel_rfl) (by decide) (by kernel_rfl) (by kernel_rfl) (by kernel_rfl) (by kernel_rfl) (fun _ _ _ h => h) (Or.inl ⟨by rfl, fun w' hw' => by subst hw'; go_simp⟩) rfl ?_
          simp only [Act.put, List.getElem_toArray, List.getElem_cons_succ, List.getElem_cons_zero, List.setIfInBounds_toArray, List.set_cons_zero, List.set_cons_succ]
          refine L_go (by kernel_rfl) (by kernel_rfl) ?_
          refine wpOp_step rfl (fun K hK => ?_)
          rw [if_pos (by rfl)]
          go_wp2_with fail
          refine HFr.out.mono ?_
          rintro e u ⟨rfl, hu⟩
          rw [hu]
          refine hK _ _ ?_
          clear hK K HFr hu u cwd
          refine wpAny_take (i := 13) (v := .pointer (some ⟨nx, 3 + k, none⟩)) rfl (by kernel_rfl) (by kernel_rfl) (by kernel_rfl) (fun _ _ _ h => h) (Or.inl ⟨by rfl, fun w => by go_simp⟩) ?_
          simp only [Act.put, List.getElem_toArray, List.getElem_cons_succ, List.getElem_cons_zero, List.setIfInBounds_toArray, List.set_cons_zero, List.set_cons_succ]
          refine any_one (i := 14) (by kernel_rfl) ?_
          refine wpOp_step rfl ?_
          intro K hK
          rw [if_pos (by rfl)]
          have hK' : Shut (∀ a w, _ → K a w) := hK
          clear hK
          go_wp2
          refine hK'.out _ _ ?_
          clear hK' K
          refine wpAny_done (by kernel_rfl) ?_ _
          try rw [hW2]
          clear cnx fnx
          go_wp2
          refine wp_region_drawn (by kernel_rfl) ?_
          refine wpAny_take (i := 0) (v := .pointer (some ⟨s, 0, none⟩)) rfl (by kernel_rfl) (by kernel_rfl) (by kernel_rfl) (fun _ _ _ h => h) (Or.inl ⟨by rfl, fun w => by go_simp⟩) ?_
          simp only [Act.put, List.getElem_toArray, List.getElem_cons_succ, List.getElem_cons_zero, List.setIfInBounds_toArray, List.set_cons_zero, List.set_cons_succ]
          refine wpAny_take (i := 1) (v := .pointer (some ⟨s, 0, none⟩)) rfl (by kernel_rfl) (by kernel_rfl) (by kernel_rfl) (fun _ _ _ h => h) (Or.inl ⟨by rfl, fun w => by go_simp⟩) ?_
          simp only [Act.put, List.getElem_toArray, List.getElem_cons_succ, List.getElem_cons_zero, List.setIfInBounds_toArray, List.set_cons_zero, List.set_cons_succ]
          refine wpAny_take (i := 2) (v := .pointer (some ⟨s, 0, none⟩)) rfl (by kernel_rfl) (by kernel_rfl) (by kernel_rfl) (fun _ _ _ h => h) (Or.inl ⟨by rfl, fun w => by go_simp⟩) ?_
          simp only [Act.put, List.getElem_toArray, List.getElem_cons_succ, List.getElem_cons_zero, List.setIfInBounds_toArray, List.set_cons_zero, List.set_cons_succ]
          refine wpAny_take (i := 4) (v := .pointer (some ⟨nx, 0, none⟩)) rfl (by kernel_rfl) (by kernel_rfl) (by kernel_rfl) (fun _ _ _ h => h) (Or.inl ⟨by rfl, fun w => by go_simp⟩) ?_
          simp only [Act.put, List.getElem_toArray, List.getElem_cons_succ, List.getElem_cons_zero, List.setIfInBounds_toArray, List.set_cons_zero, List.set_cons_succ]
          refine wpAny_take (i := 5) (v := .int .i64 k) rfl (by kernel_rfl) (by kernel_rfl) (by kernel_rfl) (fun _ _ _ h => h) (Or.inl ⟨by rfl, fun w => by go_simp⟩) ?_
          simp only [Act.put, List.getElem_toArray, List.getElem_cons_succ, List.getElem_cons_zero, List.setIfInBounds_toArray, List.set_cons_zero, List.set_cons_succ]
          refine wpAny_take (i := 6) (v := .pointer (some ⟨nx, 0, none⟩)) rfl (by kernel_rfl) (by kernel_rfl) (by kernel_rfl) (fun _ _ _ h => h) (Or.inl ⟨by rfl, fun w => by go_simp⟩) ?_
          simp only [Act.put, List.getElem_toArray, List.getElem_cons_succ, List.getElem_cons_zero, List.setIfInBounds_toArray, List.set_cons_zero, List.set_cons_succ]
          refine wpAny_take (i := 7) (v := .pointer (some ⟨nx, 3, none⟩)) rfl (by kernel_rfl) (by kernel_rfl) (by kernel_rfl) (fun _ _ _ h => h) (Or.inl ⟨by rfl, fun w => by go_simp⟩) ?_
          simp only [Act.put, List.getElem_toArray, List.getElem_cons_succ, List.getElem_cons_zero, List.setIfInBounds_toArray, List.set_cons_zero, List.set_cons_succ]
          refine wpAny_take (i := 8) (v := .pointer (some ⟨nx, 3 + k, none⟩)) rfl (by kernel_rfl) (by kernel_rfl) (by kernel_rfl) (fun _ _ _ h => h) (Or.inl ⟨by rfl, fun w => by go_simp⟩) ?_
          simp only [Act.put, List.getElem_toArray, List.getElem_cons_succ, List.getElem_cons_zero, List.setIfInBounds_toArray, List.set_cons_zero, List.set_cons_succ]
          refine wpAny_take (i := 11) (v := .slice ad l.length cap) rfl (by kernel_rfl) (by kernel_rfl) (by kernel_rfl) (fun _ _ _ h => h) (Or.inl ⟨by rfl, fun w => by go_simp⟩) ?_
          simp only [Act.put, List.getElem_toArray, List.getElem_cons_succ, List.getElem_cons_zero, List.setIfInBounds_toArray, List.set_cons_zero, List.set_cons_succ]
          refine any_of_L (g := 12) (T := fun u => u = W2.drew) _ _ _ _ ?_
          refine L_take (i := 3) (v := .pointer (some ⟨p, 0, none⟩)) rfl rfl (by kernel_rfl) (by decide) (by kernel_rfl) (by kernel_rfl) (by kernel_rfl) (by kernel_rfl) (fun _ _ _ h => h) (Or.inl ⟨by rfl, fun w' hw' => by subst hw'; go_simp⟩) rfl ?_
          simp only [Act.put, List.getElem_toArray, List.getElem_cons_succ, List.getElem_cons_zero, List.setIfInBounds_toArray, List.set_cons_zero, List.set_cons_succ]
          refine L_take2 (i := 9) (m := 10) (v := .int .u8 (X : Int)) rfl rfl rfl (by kernel_rfl) (by kernel_rfl) (by decide) (by kernel_rfl) (by kernel_rfl) (by kernel_rfl) (by kernel_rfl) (by kernel_rfl) (fun _ _ _ h => h) (Or.inl ⟨by rfl, fun w' hw' => by subst hw'; go_simp⟩) rfl ?_
          simp only [Act.put, List.getElem_toArray, List.getElem_cons_succ, List.getElem_cons_zero, List.setIfInBounds_toArray, List.set_cons_zero, List.set_cons_succ]
          refine L_take (i := 10) (v := .int .i64 X) rfl rfl (by kernel_rfl) (by decide) (by kernel_rfl) (by kernel_rfl) (by kernel_rfl) (by kernel_rfl) (fun _ _ _ h => h) (Or.inl ⟨by rfl, fun w' hw' => by clear hw'; go_simp⟩) rfl ?_
          simp only [Act.put, List.getElem_toArray, List.getElem_cons_succ, List.getElem_cons_zero, List.setIfInBounds_toArray, List.set_cons_zero, List.set_cons_succ]
          refine L_go (by kernel_rfl) (by kernel_rfl) ?_
          refine wpOp_step rfl (fun K hK => ?_)
          rw [if_pos (by rfl)]
          go_wp2_with fail
          refine HWp.out.mono ?_
          rintro e w5 ⟨rfl, cv5, ht5, hk5⟩
          refine hK _ _ ?_
          have HN : Hid (WpSR w W w5 p nb sb n (wpS h P D1 y.whr (k + 1)) s mb h P nx y) := HNext.out w5 cv5 ht5.out hk5.out
          clear hK K HWp HNext ht5 hk5 c0d cxd
          rcases hcode with e2 | e2
          · have HN2 : Hid (WpSR w W w5 p nb sb n (wpS h P D1 y.whr (k + 1)) s mb h P nx y ∧ (wpS h P D1 y.whr (k + 1)).1 = 0) := ⟨HN.out, Hc1.out.trans e2⟩
            rw [e2, enE_zero]
            clear HN Hc1 e2 Hst40
            refine wpAny_take (i := 13) (v := .nilIface) rfl (by kernel_rfl) (by kernel_rfl) (by kernel_rfl) (fun _ _ _ h => h) (Or.inl ⟨by rfl, fun w => by go_simp⟩) ?_
            simp only [Act.put, List.getElem_toArray, List.getElem_cons_succ, List.getElem_cons_zero, List.setIfInBounds_toArray, List.set_cons_zero, List.set_cons_succ]
            refine wpAny_done (by kernel_rfl) ?_ _
            go_wp2
            go_roundw
            case rel => exact ⟨k + 1, by omega, by go_num, HN2⟩
            case measure => simp [intOf]; omega
          · have hne : (wpS h P D1 y.whr (k + 1)).1 = 7 := Hc1.out.trans e2
            have e40 := Hst40.out (by rw [hne]; decide)
            have HN2 : Hid (WpSR w W w5 p nb sb n (wpS h P D1 y.whr 40) s mb h P nx y ∧ (wpS h P D1 y.whr 40).1 = 7) := by rw [e40]; exact ⟨HN.out, hne⟩
            rw [e2, enE_ne (show (7 : Int) ≠ 0 by decide)]
            clear HN Hc1 e2 Hst40 hne e40
            refine wpAny_take (i := 13) (v := .iface 43 (.int .i64 7)) rfl (by kernel_rfl) (by kernel_rfl) (by kernel_rfl) (fun _ _ _ h => h) (Or.inl ⟨by rfl, fun w => by go_simp⟩) ?_
            simp only [Act.put, List.getElem_toArray, List.getElem_cons_succ, List.getElem_cons_zero, List.setIfInBounds_toArray, List.set_cons_zero, List.set_cons_succ]
            refine wpAny_done (by kernel_rfl) ?_ _
            go_wp2
            go_ret
            refine ⟨?_, HN2.out.1⟩
            rw [HN2.out.2]
            rfl
      · have ek : k = 40 := by omega
        subst ek
        go_wp2
        go_ret
        refine ⟨?_, H.out.1⟩
        rw [H.out.2]
        rfl
  · have hRR := HR0.out (by decide)
    subst hRR
    rw [enE_ne (show (7 : Int) ≠ 0 by decide)]
    rw [enE_ne (show (7 : Int) ≠ 0 by decide)] at HF
    clear HR0 HR1 Hf
    go_enter Try.func21, Try.ntmps21
    go_wp2_with fail
    refine HF.out.mono ?_
    rintro e w1 ⟨rfl, cv1, ht1, hk1⟩
    have HE : Hid (WpSR w W w1 p nb sb n (7, D1, y.whr) s mb h P nx y) := Hs.out w1 _ ht1.out hk1.out 7
    clear HF Hs ht1 hk1
    go_wp2
    go_ret
    exact ⟨rfl, HE⟩
end
end Go.Proofs.Ytidccclfngcpgaa
