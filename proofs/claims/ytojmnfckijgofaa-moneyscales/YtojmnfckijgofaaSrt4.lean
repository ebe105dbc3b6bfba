/-
  The walk of slices.insertionSortCmpFunc by money.byCut's function.
-/
import Derived.Test.YtojmnfckijgofaaSrt3
import Derived.Shelf.Abstract
namespace Go.Proofs.Ytojmnfckijgofaa
set_option linter.unusedVariables false
set_option linter.unusedSimpArgs false
set_option maxRecDepth 100000
open Go.RowKit Go.Lib

def byF (cb : Nat) : Value := .func (.func 20) #[] #[.pointer (some ⟨cb, 0, none⟩)]

theorem insSort_none (g cap L a : Nat) (f : Value) (w : World) (ha : a ≤ 1000000) :
    Calls Try.prog 27 #[.slice (some ⟨g, 0, none⟩) L cap, .int .i64 (a : Int), .int .i64 (a : Int), f] w fun e w' => e = .returned (.tuple #[]) ∧ w' = w := by
  have a1 : (a : Int) ≤ 1000000 := by omega
  have a2 : (0 : Int) ≤ a := by omega
  go_enter Try.func27, Try.ntmps27
  go_wp2
  refine wp_loop_rounds 1 ?_
  rw [rounds_succ]
  go_wp2
  go_end0
  exact ⟨rfl, rfl⟩

/-- The round's state: x stands behind P, what is less than all of Q. -/
def InsSt (wq w : World) (g : Nat) (cut : List Int) (A T R : List Nat) (x q : Nat) : Prop := ∃ P Q : List Nat, P.length = q ∧ P ++ Q = T ∧ (∀ z ∈ Q, LT cut x z) ∧ NRow wq g (toI (A ++ (P ++ (x :: (Q ++ R))))) ∧ But g w wq

theorem ins_done {cut : List Int} {s T P Q : List Nat} {x k : Nat} (hT1 : T.Perm (s.take k)) (hT2 : T.Pairwise (LT cut)) (hPQ : P ++ Q = T) (htk : s.take (k + 1) = s.take k ++ [x]) (hQx : ∀ z ∈ Q, LT cut x z) (hPx : ∀ z ∈ P, LT cut z x) :
    (P ++ (x :: Q)).Perm (s.take (k + 1)) ∧ (P ++ (x :: Q)).Pairwise (LT cut) := by
  subst hPQ
  refine ⟨?_, put_sorted hT2 hQx hPx⟩
  rw [htk]
  refine List.perm_middle.trans ?_
  refine (List.Perm.cons x hT1).trans ?_
  exact (List.perm_append_singleton x _).symm
theorem But.drewN {g : Nat} {A B : World} (h : But g A B) (n : Nat) : But g A (B.drewN n) := h.trans ⟨rfl, rfl, rfl, rfl, fun _ _ => rfl⟩

set_option maxHeartbeats 8000000 in
theorem insSort_any (g cap cb gc ccap : Nat) (cut : List Int) (A s Z : List Nat) (w : World) (h : NRow w g (toI (A ++ (s ++ Z)))) (hl : (A ++ (s ++ Z)).length ≤ 1000000) (hc : CutAt w cb gc cut ccap) (h1 : cb ≠ g) (h2 : gc ≠ g) (hb : ∀ z ∈ s, z < cut.length) (hs : s.Pairwise (· < ·)) (hne : 0 < s.length) :
    Calls Try.prog 27 #[.slice (some ⟨g, 0, none⟩) (A ++ (s ++ Z)).length cap, .int .i64 (A.length : Int), .int .i64 ((A.length + s.length : Nat) : Int), byF cb] w fun e w' => e = .returned (.tuple #[]) ∧ Hid (∃ s' : List Nat, s'.Perm s ∧ s'.Pairwise (LT cut) ∧ NRow w' g (toI (A ++ (s' ++ Z))) ∧ But g w w') := by
  have H0 : Hid (∃ T : List Nat, T.Perm (s.take 1) ∧ T.Pairwise (LT cut) ∧ NRow w g (toI (A ++ (T ++ (s.drop 1 ++ Z)))) ∧ But g w w) := by
    refine ⟨s.take 1, List.Perm.refl _, ?_, ?_, But.refl _ _⟩
    · rcases s with _ | ⟨y, ys⟩
      · simp
      · simp
    · rw [← List.append_assoc (s.take 1), List.take_append_drop]; exact h
  have HCu : Hid (∀ W, But g w W → ∀ x y, x < cut.length → y < cut.length → Calls Try.prog 20 #[.int .i64 (x : Int), .int .i64 (y : Int), .pointer (some ⟨cb, 0, none⟩)] W fun e w' => e = .returned (.int .i64 (cutC cut x y)) ∧ ∃ k, w' = W.drewN k) := fun W hW x y hx hy => byCut1_any x y cb gc cut ccap W (hc.but hW h1 h2) hx hy
  have HB : Hid (∀ z ∈ s, z < cut.length) := hb
  have HS : Hid (s.Pairwise (· < ·)) := hs
  obtain ⟨L, hL⟩ : ∃ L, (A ++ (s ++ Z)).length = L := ⟨_, rfl⟩
  rw [hL] at hl ⊢
  have hLs : A.length + s.length ≤ L := by rw [← hL]; simp only [List.length_append]; omega
  rw [show ((A.length + s.length : Nat) : Int) = (A.length : Int) + s.length by omega]
  obtain ⟨a, ha⟩ : ∃ a, A.length = a := ⟨_, rfl⟩
  rw [ha] at hLs ⊢
  have a0 : (0 : Int) ≤ a := by omega
  have aL : (a : Int) + s.length ≤ L := by omega
  have lL : (L : Int) ≤ 1000000 := by omega
  have Hlen : Hid (∀ X : List Nat, X.length = s.length → (A ++ (X ++ Z)).length = L) := fun X hX => by rw [← hL]; simp only [List.length_append]; omega
  have s0 : (0 : Int) ≤ s.length := by omega
  have HA : Hid (A.length = a) := ha
  clear h hc hb hs hL ha
  unfold byF
  go_enter Try.func27, Try.ntmps27
  go_wp2
  go_loopw [8] (fun t wr => ∃ k : Nat, 1 ≤ k ∧ k ≤ s.length ∧ t = .int .i64 ((a : Int) + k) ∧ Hid (∃ T : List Nat, T.Perm (s.take k) ∧ T.Pairwise (LT cut) ∧ NRow wr g (toI (A ++ (T ++ (s.drop k ++ Z)))) ∧ But g w wr)) (fun t _ => a + s.length - (intOf t).toNat)
  case atStart => exact ⟨1, by omega, by omega, by first | rfl | simp, H0⟩
  case round =>
    obtain ⟨k, hk1, hk, rfl, H⟩ := hrel
    obtain ⟨T, hT1, hT2, hR, hBt⟩ := H.out
    by_cases hlt : k < s.length
    · have k1 : (k : Int) < s.length := by omega
      have k2 : (a : Int) + k < (a : Int) + s.length := by omega
      have k3 : (0 : Int) ≤ k := by omega
      have hTl : T.length = k := by rw [hT1.length_eq, List.length_take]; omega
      obtain ⟨x, hx⟩ : ∃ x, s[k] = x := ⟨_, rfl⟩
      have hxs : x ∈ s := by rw [← hx]; exact List.getElem_mem hlt
      have hdr : s.drop k = x :: s.drop (k + 1) := by rw [List.drop_eq_getElem_cons hlt, hx]
      rw [hdr] at hR
      have hTm : ∀ z ∈ T, z < x ∧ z < cut.length := fun z hz => by
        have hz' : z ∈ s.take k := hT1.mem_iff.1 hz
        refine ⟨?_, HB.out z (List.mem_of_mem_take hz')⟩
        have hp := HS.out
        rw [← List.take_append_drop k s, hdr] at hp
        exact (List.pairwise_append.1 hp).2.2 z hz' x (by simp)
      have hxc : x < cut.length := HB.out x hxs
      have HI : Hid (InsSt wr w g cut A T (s.drop (k + 1) ++ Z) x k) := ⟨T, [], hTl, by simp, by simp, hR, hBt⟩
      have HT1 : Hid (T.Perm (s.take k)) := hT1
      have HT2 : Hid (T.Pairwise (LT cut)) := hT2
      have HTm : Hid (∀ z ∈ T, z < x ∧ z < cut.length) := hTm
      have Htk : Hid (s.take (k + 1) = s.take k ++ [x]) := by
        unfold Hid
        rw [List.take_add_one, List.getElem?_eq_getElem hlt, hx]; rfl
      have HLL : Hid (∀ P Q : List Nat, P ++ Q = T → (A ++ (P ++ (x :: (Q ++ (s.drop (k + 1) ++ Z))))).length = L) := fun P Q hPQ => by
        have := Hlen.out (P ++ (x :: (Q ++ s.drop (k + 1)))) (by
          have h3 := congrArg List.length hPQ
          simp only [List.length_append, List.length_cons, List.length_drop] at h3 ⊢
          omega)
        rw [← this]
        simp only [List.length_append, List.length_cons]
        omega
      clear hT1 hT2 hR hBt H hTm hdr hxs hTl
      go_wp2
      go_loopw [9] (fun t wq => ∃ q : Nat, q ≤ k ∧ t = .int .i64 ((a : Int) + q) ∧ Hid (InsSt wq w g cut A T (s.drop (k + 1) ++ Z) x q)) (fun t _ => (intOf t).toNat)
      case atStart => exact ⟨k, Nat.le_refl _, rfl, HI⟩
      case round =>
        rename World => wq
        obtain ⟨q, hq, rfl, HQ⟩ := hrel
        obtain ⟨P, Q, hPl, hPQ, hQx, hRow, hBq⟩ := HQ.out
        have q0 : (0 : Int) ≤ q := by omega
        have q1 : (q : Int) ≤ k := by omega
        rcases List.eq_nil_or_concat P with hP | ⟨P', y, hP⟩
        · subst hP
          have eq0 : q = 0 := by rw [← hPl]; rfl
          subst eq0
          obtain ⟨d1, d2⟩ := ins_done HT1.out HT2.out hPQ Htk.out hQx (by simp)
          have hd0 : decide ((a : Int) < (a : Int) + (0 : Nat)) = false := decide_eq_false (by omega)
          have HE : Hid (∃ T : List Nat, T.Perm (s.take (k + 1)) ∧ T.Pairwise (LT cut) ∧ NRow wq g (toI (A ++ (T ++ (s.drop (k + 1) ++ Z)))) ∧ But g w wq) := ⟨_, d1, d2, by simpa using hRow, hBq⟩
          clear d1 d2 hRow hBq hQx HQ
          go_wp2
          go_quiet (fail)
          rename Nat => nk
          have HE2 : Hid (∃ T : List Nat, T.Perm (s.take (k + 1)) ∧ T.Pairwise (LT cut) ∧ NRow (wq.drewN nk) g (toI (A ++ (T ++ (s.drop (k + 1) ++ Z)))) ∧ But g w (wq.drewN nk)) := by
            obtain ⟨T', e1, e2, e3, e4⟩ := HE.out
            exact ⟨T', e1, e2, e3, e4.drewN nk⟩
          clear HE
          go_wp2
          refine ⟨⟨k + 1, by omega, by omega, by first | (congr 1; omega) | (congr 1), HE2⟩, ?_⟩
          simp [intOf]; omega
        · rw [List.concat_eq_append] at hP
          subst hP
          obtain ⟨p, hp⟩ : ∃ p, P'.length = p := ⟨_, rfl⟩
          have hqp : q = p + 1 := by rw [← hPl, List.length_append, hp]; rfl
          subst hqp
          have hyT : y ∈ T := by rw [← hPQ]; simp
          obtain ⟨hyx, hyc⟩ := HTm.out y hyT
          have hLL := HLL.out _ _ hPQ
          have hsh : A ++ ((P' ++ [y]) ++ (x :: (Q ++ (s.drop (k + 1) ++ Z)))) = (A ++ P') ++ (y :: x :: (Q ++ (s.drop (k + 1) ++ Z))) := by simp
          rw [hsh] at hRow hLL
          have hAP : (A ++ P').length = a + p := by rw [List.length_append, HA.out, hp]
          have hlen2 : (toI ((A ++ P') ++ (y :: x :: (Q ++ (s.drop (k + 1) ++ Z))))).length = L := by rw [toI_len]; exact hLL
          have hapL : a + p + 2 ≤ L := by rw [← hLL]; simp only [List.length_append, List.length_cons] at hAP ⊢; omega
          have cy : wq.cell? ⟨g, a + p, none⟩ = some (.int .i64 (y : Int)) := by
            have := hRow.cell (i := a + p) (by omega)
            rw [← hAP, toI_at] at this
            rw [← hAP]; exact this
          have cx : wq.cell? ⟨g, a + p + 1, none⟩ = some (.int .i64 (x : Int)) := by
            have := hRow.cell (i := a + p + 1) (by omega)
            rw [show (A ++ P') ++ (y :: x :: (Q ++ (s.drop (k + 1) ++ Z))) = ((A ++ P') ++ [y]) ++ (x :: (Q ++ (s.drop (k + 1) ++ Z))) by simp] at this
            have e2 : a + p + 1 = ((A ++ P') ++ [y]).length := by rw [List.length_append, hAP]; rfl
            rw [e2, toI_at] at this
            rw [e2]; exact this
          have hdec : decide ((a : Int) < (a : Int) + ((p + 1 : Nat) : Int)) = true := decide_eq_true (by omega)
          have HCc : Hid (Calls _ _ _ _ _) := HCu.out wq.drew hBq.drew x y hxc hyc
          have i1 : (0 : Int) ≤ (a : Int) + ((p + 1 : Nat) : Int) := by omega
          have i2 : (a : Int) + ((p + 1 : Nat) : Int) < L := by omega
          have i3 : (0 : Int) ≤ (a : Int) + ((p + 1 : Nat) : Int) - 1 := by omega
          have i4 : (a : Int) + ((p + 1 : Nat) : Int) - 1 < L := by omega
          have t1 : ((a : Int) + ((p + 1 : Nat) : Int)).toNat = a + p + 1 := by omega
          have t2 : ((a : Int) + ((p + 1 : Nat) : Int) - 1).toNat = a + p := by omega
          have wr1 : IntKind.i64.wrap ((a : Int) + ((p + 1 : Nat) : Int) - 1) = (a : Int) + ((p + 1 : Nat) : Int) - 1 := by rw [IntKind.wrap_i64]; omega
          obtain ⟨J, hJ⟩ : ∃ J : Int, (a : Int) + ((p + 1 : Nat) : Int) = J := ⟨_, rfl⟩
          rw [hJ] at hdec i1 i2 i3 i4 t1 t2 wr1 ⊢
          have HJ : Hid ((a : Int) + ((p + 1 : Nat) : Int) = J) := hJ
          obtain ⟨M, hM⟩ : ∃ M : Int, J - 1 = M := ⟨_, rfl⟩
          have wr1' : IntKind.i64.wrap (J - 1) = M := wr1.trans hM
          rw [hM] at i3 i4 t2
          clear wr1
          have HM : Hid (J - 1 = M) := hM
          clear hM
          have cxd : wq.drew.cell? ⟨g, a + p + 1, none⟩ = some (.int .i64 (x : Int)) := cx
          have cyd : wq.drew.cell? ⟨g, a + p, none⟩ = some (.int .i64 (y : Int)) := cy
          clear hJ hsh
          have HCx : Hid (∀ n, (wq.drewN n).cell? ⟨g, a + p + 1, none⟩ = some (.int .i64 (x : Int)) ∧ (wq.drewN n).cell? ⟨g, a + p, none⟩ = some (.int .i64 (y : Int))) := fun n => ⟨cx, cy⟩
          have HRow : Hid (NRow wq g _) := hRow
          have HBq : Hid (But g w wq) := hBq
          have HAP : Hid ((A ++ P').length = a + p) := hAP
          by_cases hless : cutC cut x y < 0
          · have hd1 : decide (cutC cut x y < 0) = true := decide_eq_true hless
            have hxy : LT cut x y := Or.inl ((cutC_neg cut x y).1 hless)
            have HE : Hid (∀ W : World, W.heap = wq.heap → But g w W → NRow W g (toI ((A ++ P') ++ (y :: x :: (Q ++ (s.drop (k + 1) ++ Z)))))) := fun W hW _ => by
              unfold NRow
              rw [hW]
              exact HRow.out
            have HF : Hid (∀ W : World, NRow W g (((toI ((A ++ P') ++ (y :: x :: (Q ++ (s.drop (k + 1) ++ Z))))).set (a + p + 1) (y : Int)).set (a + p) (x : Int)) → But g w W → InsSt W w g cut A T (s.drop (k + 1) ++ Z) x p) := fun W hW hB => by
              rw [← HAP.out, adj_swap] at hW
              refine ⟨P', y :: Q, hp, by rw [← hPQ]; simp, ?_, by simpa using hW, hB⟩
              intro z hz
              rcases List.mem_cons.1 hz with rfl | hz
              · exact hxy
              · exact hQx z hz
            generalize cutC cut x y = r at *
            clear hRow hBq hAP hQx HQ hxy hless cx cy
            go_wp2
            go_region_held3 (fun u => u.cell? ⟨g, a + p + 1, none⟩ = some (.int .i64 (x : Int)) ∧ u.cell? ⟨g, a + p, none⟩ = some (.int .i64 (y : Int))) ((first | exact HCx.out _ | exact ⟨cxd, cyd⟩ | go_keep)) ((go_at_call 20; refine HCc.out.mono ?_; rintro e w' ⟨rfl, kk, rfl⟩))
            rename Nat => nk
            obtain ⟨W2, hW2⟩ : ∃ W2, wq.drewN (1 + nk) = W2 := ⟨_, rfl⟩
            have hB2 : But g w W2 := by rw [← hW2]; exact HBq.out.drewN _
            have hR2 := HE.out W2 (by rw [← hW2]; rfl) hB2
            rw [hW2]
            clear hW2 HE
            have e1 : (toI ((A ++ P') ++ (y :: x :: (Q ++ (s.drop (k + 1) ++ Z))))).getD (a + p + 1) 0 = x := by
              rw [show (A ++ P') ++ (y :: x :: (Q ++ (s.drop (k + 1) ++ Z))) = ((A ++ P') ++ [y]) ++ (x :: (Q ++ (s.drop (k + 1) ++ Z))) by simp, show a + p + 1 = ((A ++ P') ++ [y]).length by rw [List.length_append, HAP.out]; rfl, toI_at]
            have e2 : (toI ((A ++ P') ++ (y :: x :: (Q ++ (s.drop (k + 1) ++ Z))))).getD (a + p) 0 = y := by rw [← HAP.out, toI_at]
            have ca : W2.drew.cell? ⟨g, a + p + 1, none⟩ = some (.int .i64 (x : Int)) := by rw [← e1]; exact hR2.cell (by omega)
            have cb2 : W2.drew.cell? ⟨g, a + p, none⟩ = some (.int .i64 (y : Int)) := by rw [← e2]; exact hR2.cell (by omega)
            have fa : W2.drew.frozen? ⟨g, a + p + 1, none⟩ = false := hR2.frozen _
            have R1 : NRow (W2.drew.setCell ⟨g, a + p + 1, none⟩ (.int .i64 (y : Int))) g _ := (show NRow W2.drew g _ from hR2).set (a + p + 1) _
            have cb1 := R1.cell (i := a + p) (by rw [List.length_set]; omega)
            have fb1 := R1.frozen (a + p)
            have R2 := R1.set (a + p) (x : Int)
            have HR2 : Hid (InsSt ((W2.drew.setCell ⟨g, a + p + 1, none⟩ (.int .i64 (y : Int))).setCell ⟨g, a + p, none⟩ (.int .i64 (x : Int))) w g cut A T (s.drop (k + 1) ++ Z) x p) := HF.out _ R2 ((hB2.drew.set (a + p + 1) _).set (a + p) _)
            generalize (((toI ((A ++ P') ++ (y :: x :: (Q ++ (s.drop (k + 1) ++ Z))))).set (a + p + 1) (y : Int)).getD (a + p) 0) = z0 at *
            clear R1 R2 hR2 hB2 e1 e2 HF HCx HRow HBq HAP
            go_wp2
            refine wp_region_drawn (by kernel_rfl) ?_
            refine wpAny_take (i := 0) (v := .slice (some ⟨g, 0, none⟩) L cap) rfl (by kernel_rfl) (by kernel_rfl) (by kernel_rfl) (fun _ _ _ h => h) (Or.inl ⟨by rfl, fun w => by go_simp⟩) ?_
            simp only [Act.put, List.getElem_toArray, List.getElem_cons_succ, List.getElem_cons_zero, List.setIfInBounds_toArray, List.set_cons_zero, List.set_cons_succ]
            refine wpAny_take (i := 1) (v := .int .i64 J) rfl (by kernel_rfl) (by kernel_rfl) (by kernel_rfl) (fun _ _ _ h => h) (Or.inl ⟨by rfl, fun w => by go_simp⟩) ?_
            simp only [Act.put, List.getElem_toArray, List.getElem_cons_succ, List.getElem_cons_zero, List.setIfInBounds_toArray, List.set_cons_zero, List.set_cons_succ]
            refine wpAny_take (i := 2) (v := .slice (some ⟨g, 0, none⟩) L cap) rfl (by kernel_rfl) (by kernel_rfl) (by kernel_rfl) (fun _ _ _ h => h) (Or.inl ⟨by rfl, fun w => by go_simp⟩) ?_
            simp only [Act.put, List.getElem_toArray, List.getElem_cons_succ, List.getElem_cons_zero, List.setIfInBounds_toArray, List.set_cons_zero, List.set_cons_succ]
            refine wpAny_take (i := 3) (v := .int .i64 J) rfl (by kernel_rfl) (by kernel_rfl) (by kernel_rfl) (fun _ _ _ h => h) (Or.inl ⟨by rfl, fun w => by go_simp⟩) ?_
            simp only [Act.put, List.getElem_toArray, List.getElem_cons_succ, List.getElem_cons_zero, List.setIfInBounds_toArray, List.set_cons_zero, List.set_cons_succ]
            refine wpAny_take (i := 4) (v := .int .i64 M) rfl (by kernel_rfl) (by kernel_rfl) (by kernel_rfl) (fun _ _ _ h => h) (Or.inl ⟨by rfl, fun w => by go_simp⟩) ?_
            simp only [Act.put, List.getElem_toArray, List.getElem_cons_succ, List.getElem_cons_zero, List.setIfInBounds_toArray, List.set_cons_zero, List.set_cons_succ]
            refine wpAny_take (i := 5) (v := .slice (some ⟨g, 0, none⟩) L cap) rfl (by kernel_rfl) (by kernel_rfl) (by kernel_rfl) (fun _ _ _ h => h) (Or.inl ⟨by rfl, fun w => by go_simp⟩) ?_
            simp only [Act.put, List.getElem_toArray, List.getElem_cons_succ, List.getElem_cons_zero, List.setIfInBounds_toArray, List.set_cons_zero, List.set_cons_succ]
            refine wpAny_take (i := 6) (v := .int .i64 J) rfl (by kernel_rfl) (by kernel_rfl) (by kernel_rfl) (fun _ _ _ h => h) (Or.inl ⟨by rfl, fun w => by go_simp⟩) ?_
            simp only [Act.put, List.getElem_toArray, List.getElem_cons_succ, List.getElem_cons_zero, List.setIfInBounds_toArray, List.set_cons_zero, List.set_cons_succ]
            refine wpAny_take (i := 7) (v := .int .i64 M) rfl (by kernel_rfl) (by kernel_rfl) (by kernel_rfl) (fun _ _ _ h => h) (Or.inl ⟨by rfl, fun w => by go_simp⟩) ?_
            simp only [Act.put, List.getElem_toArray, List.getElem_cons_succ, List.getElem_cons_zero, List.setIfInBounds_toArray, List.set_cons_zero, List.set_cons_succ]
            refine wpAny_take (i := 8) (v := .pointer (some ⟨g, a + p, none⟩)) rfl (by kernel_rfl) (by kernel_rfl) (by kernel_rfl) (fun _ _ _ h => h) (Or.inl ⟨by rfl, fun w => by go_simp⟩) ?_
            simp only [Act.put, List.getElem_toArray, List.getElem_cons_succ, List.getElem_cons_zero, List.setIfInBounds_toArray, List.set_cons_zero, List.set_cons_succ]
            refine wpAny_take (i := 10) (v := .slice (some ⟨g, 0, none⟩) L cap) rfl (by kernel_rfl) (by kernel_rfl) (by kernel_rfl) (fun _ _ _ h => h) (Or.inl ⟨by rfl, fun w => by go_simp⟩) ?_
            simp only [Act.put, List.getElem_toArray, List.getElem_cons_succ, List.getElem_cons_zero, List.setIfInBounds_toArray, List.set_cons_zero, List.set_cons_succ]
            refine wpAny_take (i := 11) (v := .int .i64 J) rfl (by kernel_rfl) (by kernel_rfl) (by kernel_rfl) (fun _ _ _ h => h) (Or.inl ⟨by rfl, fun w => by go_simp⟩) ?_
            simp only [Act.put, List.getElem_toArray, List.getElem_cons_succ, List.getElem_cons_zero, List.setIfInBounds_toArray, List.set_cons_zero, List.set_cons_succ]
            refine wpAny_take (i := 12) (v := .pointer (some ⟨g, a + p + 1, none⟩)) rfl (by kernel_rfl) (by kernel_rfl) (by kernel_rfl) (fun _ _ _ h => h) (Or.inl ⟨by rfl, fun w => by go_simp⟩) ?_
            simp only [Act.put, List.getElem_toArray, List.getElem_cons_succ, List.getElem_cons_zero, List.setIfInBounds_toArray, List.set_cons_zero, List.set_cons_succ]
            refine any_of_L (g := 15) (T := fun u => u = W2.drew) _ _ _ _ ?_
            refine L_take (i := 9) (v := .int .i64 y) rfl rfl (by kernel_rfl) (by decide) (by kernel_rfl) (by kernel_rfl) (by kernel_rfl) (by kernel_rfl) (fun _ _ _ h => h) (Or.inl ⟨by rfl, fun w' hw' => by subst hw'; go_simp⟩) rfl ?_
            simp only [Act.put, List.getElem_toArray, List.getElem_cons_succ, List.getElem_cons_zero, List.setIfInBounds_toArray, List.set_cons_zero, List.set_cons_succ]
            refine L_take (i := 13) (v := .int .i64 x) rfl rfl (by kernel_rfl) (by decide) (by kernel_rfl) (by kernel_rfl) (by kernel_rfl) (by kernel_rfl) (fun _ _ _ h => h) (Or.inl ⟨by rfl, fun w' hw' => by subst hw'; go_simp⟩) rfl ?_
            simp only [Act.put, List.getElem_toArray, List.getElem_cons_succ, List.getElem_cons_zero, List.setIfInBounds_toArray, List.set_cons_zero, List.set_cons_succ]
            refine L_take (i := 14) (v := .pointer (some ⟨g, a + p + 1, none⟩)) rfl rfl (by kernel_rfl) (by decide) (by kernel_rfl) (by kernel_rfl) (by kernel_rfl) (by kernel_rfl) (fun _ _ _ h => h) (Or.inl ⟨by rfl, fun w' hw' => by subst hw'; go_simp⟩) rfl ?_
            simp only [Act.put, List.getElem_toArray, List.getElem_cons_succ, List.getElem_cons_zero, List.setIfInBounds_toArray, List.set_cons_zero, List.set_cons_succ]
            refine L_go (by kernel_rfl) (by kernel_rfl) ?_
            refine wpOp_step rfl ?_
            intro K hK
            rw [if_pos (by rfl)]
            have hK' : Shut (∀ a w, _ → K a w) := hK
            clear hK
            go_wp2
            refine hK'.out _ _ ?_
            clear hK' K
            have eW : W2.drew.setCell ⟨g, a + p + 1, none⟩ (.int .i64 (y : Int)) = (W2.setCell ⟨g, a + p + 1, none⟩ (.int .i64 (y : Int))).drew := rfl
            rw [eW] at cb1 fb1 HR2
            clear eW ca cb2 fa
            generalize (W2.setCell ⟨g, a + p + 1, none⟩ (.int .i64 (y : Int))).drew = W1 at *
            refine any_one (i := 16) (by kernel_rfl) ?_
            refine wpOp_step rfl ?_
            intro K hK
            rw [if_pos (by rfl)]
            have hK' : Shut (∀ a w, _ → K a w) := hK
            clear hK
            go_wp2
            refine hK'.out _ _ ?_
            clear hK' K
            refine any_one (i := 17) (by kernel_rfl) ?_
            refine wpOp_step rfl ?_
            intro K hK
            rw [if_pos (by rfl)]
            have hK' : Shut (∀ a w, _ → K a w) := hK
            clear hK
            go_wp2
            refine hK'.out _ _ ?_
            clear hK' K
            refine wpAny_done (by kernel_rfl) ?_ _
            go_wp2
            go_roundw
            case rel => exact ⟨p, by omega, by have := HJ.out; have := HM.out; first | (congr 1; omega) | go_num, HR2⟩
            case measure => have := HJ.out; have := HM.out; simp [intOf]; omega
          · have hd1 : decide (cutC cut x y < 0) = false := decide_eq_false hless
            have hle : ¬ cut.getD y 0 < cut.getD x 0 := fun e => hless ((cutC_neg cut x y).2 e)
            have hyx2 : LT cut y x := by unfold LT; omega
            have hpp : ∀ z ∈ P' ++ [y], LT cut z x := all_ahead (by have := HT2.out; rw [← hPQ] at this; exact (List.pairwise_append.1 this).1) hyx2
            obtain ⟨d1, d2⟩ := ins_done HT1.out HT2.out hPQ Htk.out hQx hpp
            have HE : Hid (∀ W : World, W.heap = wq.heap → But g w W → ∃ T : List Nat, T.Perm (s.take (k + 1)) ∧ T.Pairwise (LT cut) ∧ NRow W g (toI (A ++ (T ++ (s.drop (k + 1) ++ Z)))) ∧ But g w W) := fun W hW hB => ⟨_, d1, d2, by
              unfold NRow
              rw [hW]
              have := HRow.out
              unfold NRow at this
              simpa using this, hB⟩
            generalize cutC cut x y = r at *
            clear hRow hBq hAP hQx HQ d1 d2 hpp hyx2 hle hless cx cy
            go_wp2
            go_region_held3 (fun u => u.cell? ⟨g, a + p + 1, none⟩ = some (.int .i64 (x : Int)) ∧ u.cell? ⟨g, a + p, none⟩ = some (.int .i64 (y : Int))) ((first | exact HCx.out _ | exact ⟨cxd, cyd⟩ | go_keep)) ((go_at_call 20; refine HCc.out.mono ?_; rintro e w' ⟨rfl, kk, rfl⟩))
            rename Nat => nk
            have HE2 : Hid _ := HE.out (wq.drewN (1 + nk)) rfl (HBq.out.drewN _)
            clear HE
            go_wp2
            go_roundw
            case rel => exact ⟨k + 1, by omega, by omega, by first | (congr 1; omega) | (congr 1) | go_num, HE2⟩
            case measure => simp [intOf]; omega
    · have ek : k = s.length := by omega
      subst ek
      have k2 : ¬ (a : Int) + s.length < (a : Int) + s.length := by omega
      have HE : Hid (∃ s' : List Nat, s'.Perm s ∧ s'.Pairwise (LT cut) ∧ NRow wr g (toI (A ++ (s' ++ Z))) ∧ But g w wr) := by
        rw [List.take_length] at hT1
        rw [List.drop_length] at hR
        exact ⟨T, hT1, hT2, by simpa using hR, hBt⟩
      clear hT1 hT2 hR hBt H
      go_wp2
      go_end0
      exact ⟨rfl, HE⟩
end Go.Proofs.Ytojmnfckijgofaa
