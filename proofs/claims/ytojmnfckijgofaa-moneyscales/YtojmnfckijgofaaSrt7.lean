/-
  The contract of slices.symMergeCmpFunc where the second row has one number.
-/
import Derived.Test.YtojmnfckijgofaaSrt6
import Derived.Shelf.Abstract
namespace Go.Proofs.Ytojmnfckijgofaa
set_option linter.unusedVariables false
set_option linter.unusedSimpArgs false
set_option maxRecDepth 100000
open Go.RowKit Go.Lib

set_option maxHeartbeats 8000000 in
theorem sym_right (g cap cb gc ccap : Nat) (cut : List Int) (A u Z : List Nat) (y : Nat) (w : World) (h : NRow w g (toI (A ++ (u ++ ([y] ++ Z))))) (hl : (A ++ (u ++ ([y] ++ Z))).length ≤ 1000000) (hc : CutAt w cb gc cut ccap) (h1 : cb ≠ g) (h2 : gc ≠ g) (hM : MG cut u [y]) (hu2 : u.length ≠ 1) :
    Calls Try.prog 28 #[.slice (some ⟨g, 0, none⟩) (A ++ (u ++ ([y] ++ Z))).length cap, .int .i64 (A.length : Int), .int .i64 ((A.length + u.length : Nat) : Int), .int .i64 ((A.length + u.length + 1 : Nat) : Int), byF cb] w fun e w' => e = .returned (.tuple #[]) ∧ Hid (MOut cut w w' g A u [y] Z) := by
  have HR : Hid (NRow w g (toI (A ++ (u ++ ([y] ++ Z))))) := h
  have HCu : Hid (∀ W, But g w W → ∀ x y, x < cut.length → y < cut.length → Calls Try.prog 20 #[.int .i64 (x : Int), .int .i64 (y : Int), .pointer (some ⟨cb, 0, none⟩)] W fun e w' => e = .returned (.int .i64 (cutC cut x y)) ∧ ∃ k, w' = W.drewN k) := fun W hW x y hx hy => byCut1_any x y cb gc cut ccap W (hc.but hW h1 h2) hx hy
  have HM : Hid (MG cut u [y]) := hM
  have HL : Hid ((A ++ (u ++ ([y] ++ Z))).length = A.length + u.length + 1 + Z.length) := by unfold Hid; simp only [List.length_append, List.length_cons, List.length_nil]; omega
  obtain ⟨L, hL⟩ : ∃ L, (A ++ (u ++ ([y] ++ Z))).length = L := ⟨_, rfl⟩
  rw [hL] at hl HL ⊢
  have HLr : Hid ((toI (A ++ (u ++ ([y] ++ Z)))).length = L) := by unfold Hid; rw [toI_len]; exact hL
  obtain ⟨a, ha⟩ : ∃ a, A.length = a := ⟨_, rfl⟩
  obtain ⟨n, hn⟩ : ∃ n, u.length = n := ⟨_, rfl⟩
  obtain ⟨m, hm⟩ : ∃ m, a + n = m := ⟨_, rfl⟩
  obtain ⟨b, hb⟩ : ∃ b, m + 1 = b := ⟨_, rfl⟩
  rw [ha, hn, hm, hb] at HL ⊢
  rw [hn] at hu2
  have HA : Hid (A.length = a ∧ u.length = n) := ⟨ha, hn⟩
  have hbL : b ≤ L := by have := HL.out; omega
  have cx0 : w.cell? ⟨g, m, none⟩ = some (.int .i64 (y : Int)) := by
    have := h.cell (i := m) (by rw [toI_len, hL]; omega)
    rw [show A ++ (u ++ ([y] ++ Z)) = (A ++ u) ++ (y :: Z) by simp] at this
    have e : m = (A ++ u).length := by rw [List.length_append, ha, hn]; exact hm.symm
    rw [e, toI_at] at this
    rw [e]; exact this
  have ma : ((m : Int) - a == 1) = false := by rw [beq_eq_false_iff_ne]; omega
  have ma2 : ¬ (m : Int) - a = 1 := by omega
  have bm : (b : Int) - m = 1 := by omega
  have a0 : (0 : Int) ≤ a := by omega
  have bL : (b : Int) ≤ L := by omega
  have lL : (L : Int) ≤ 1000000 := by omega
  have m0 : (0 : Int) ≤ m := by omega
  have am : (a : Int) ≤ m := by omega
  have mb : (m : Int) < b := by omega
  have mL : (m : Int) < L := by omega
  have HCx : Hid (∀ k, (w.drewN k).cell? ⟨g, m, none⟩ = some (.int .i64 (y : Int))) := fun k => cx0
  clear h hc hM hL ha hn h1 h2 cx0
  unfold byF
  go_enter Try.func28, Try.ntmps28
  go_wp2
  go_loopw [14, 15] (fun ti tj wr => ∃ I J : Nat, a ≤ I ∧ I ≤ J ∧ J ≤ m ∧ ti = .int .i64 I ∧ tj = .int .i64 J ∧ Hid ((∀ z ∈ u.take (I - a), LT cut z y) ∧ (∀ z ∈ u.drop (J - a), LT cut y z)) ∧ Hid (∃ k, wr = w.drewN k)) (fun ti tj _ => (intOf tj).toNat - (intOf ti).toNat)
  case atStart =>
    refine ⟨a, m, Nat.le_refl _, by omega, Nat.le_refl _, rfl, rfl, ⟨by simp, ?_⟩, ⟨0, rfl⟩⟩
    rw [List.drop_eq_nil_of_le (by rw [HA.out.2]; omega)]; simp
  case round =>
    obtain ⟨I, J, hI, hIJ, hJ, rfl, rfl, HLo, HW⟩ := hrel
    obtain ⟨k, hk⟩ := HW.out
    have HkB : Hid (But g w wr) := by unfold Hid; rw [hk]; exact (But.refl g w).drewN k
    have HkN : Hid (∀ n, ∃ q, wr.drewN n = w.drewN q) := fun n => ⟨k + n, by rw [hk]; exact World.drewN_drewN _ _ _⟩
    by_cases hlt : I < J
    · obtain ⟨h, hh⟩ : ∃ h, (I + J) / 2 = h := ⟨_, rfl⟩
      have rm : ((I : Int) + (J : Int)) / 2 = (h : Int) := by omega
      have h0 : (0 : Int) ≤ h := by omega
      have hL2 : (h : Int) < L := by omega
      have i1 : (I : Int) < J := by omega
      have i2 : (0 : Int) ≤ I := by omega
      have i3 : (J : Int) ≤ 1000000 := by omega
      have hv : h - a < u.length := by rw [HA.out.2]; omega
      have hym : u.getD (h - a) 0 ∈ u := getD_mem0 hv
      have cy : wr.cell? ⟨g, h, none⟩ = some (.int .i64 ((u.getD (h - a) 0 : Nat) : Int)) := by
        have := HR.out.cell (i := h) (by rw [HLr.out]; omega)
        have e : h = A.length + (h - a) := by rw [HA.out.1]; omega
        rw [e, row_at A u ([y] ++ Z) hv] at this
        rw [← e] at this
        rw [hk]
        exact this
      have cx : wr.cell? ⟨g, m, none⟩ = some (.int .i64 (y : Int)) := by rw [hk]; exact HCx.out k
      have HCc : Hid (∀ n, Calls Try.prog 20 #[.int .i64 (y : Int), .int .i64 ((u.getD (h - a) 0 : Nat) : Int), .pointer (some ⟨cb, 0, none⟩)] (wr.drewN n) fun e w' => e = .returned (.int .i64 (cutC cut y (u.getD (h - a) 0))) ∧ ∃ q, w' = (wr.drewN n).drewN q) := fun n => HCu.out _ (HkB.out.drewN n) _ _ (HM.out.bv y (by simp)) (HM.out.bu _ hym)
      by_cases hless : cutC cut y (u.getD (h - a) 0) < 0
      · have hhi : ∀ z ∈ u.drop (h - a), LT cut y z := drop_hi HM.out.su hv (HM.out.less hym (by simp) hless)
        have HN : Hid ((∀ z ∈ u.take (I - a), LT cut z y) ∧ (∀ z ∈ u.drop (h - a), LT cut y z)) := ⟨HLo.out.1, hhi⟩
        have hd : decide (cutC cut y (u.getD (h - a) 0) < 0) = true := decide_eq_true hless
        generalize cutC cut y (u.getD (h - a) 0) = r at *
        generalize u.getD (h - a) 0 = x at *
        clear hhi hym HLo HW hless hk
        go_wp2
        go_quiet ((go_at_call 20; exact Calls.quiet_of (HCc.out _)))
        go_wp2
        go_roundw
        case rel => exact ⟨I, h, hI, by omega, by omega, rfl, by go_num, HN, HkN.out _⟩
        case measure => simp [intOf]; omega
      · have hlo : ∀ z ∈ u.take (h - a + 1), LT cut z y := take_lo HM.out.su hv (HM.out.more hym (by simp) hless)
        have HN : Hid ((∀ z ∈ u.take (h + 1 - a), LT cut z y) ∧ (∀ z ∈ u.drop (J - a), LT cut y z)) := ⟨by rw [show h + 1 - a = h - a + 1 by omega]; exact hlo, HLo.out.2⟩
        have hd : decide (cutC cut y (u.getD (h - a) 0) < 0) = false := decide_eq_false hless
        generalize cutC cut y (u.getD (h - a) 0) = r at *
        generalize u.getD (h - a) 0 = x at *
        clear hlo hym HLo HW hless hk
        go_wp2
        go_quiet ((go_at_call 20; exact Calls.quiet_of (HCc.out _)))
        go_wp2
        go_roundw
        case rel => exact ⟨h + 1, J, by omega, by omega, hJ, by go_num, rfl, HN, HkN.out _⟩
        case measure => simp [intOf]; omega
    · have eJ : J = I := by omega
      subst eJ
      have i1 : ¬ (J : Int) < J := by omega
      obtain ⟨i, hi⟩ : ∃ i, J - a = i := ⟨_, rfl⟩
      rw [hi] at HLo
      have HS : Hid ((u.take i ++ ([y] ++ u.drop i)).Perm (u ++ [y]) ∧ (u.take i ++ ([y] ++ u.drop i)).Pairwise (LT cut)) := by
        refine ⟨?_, ?_⟩
        · have := List.perm_middle (a := y) (l₁ := u.take i) (l₂ := u.drop i)
          rw [List.take_append_drop] at this
          exact this.trans (List.perm_append_singleton y u).symm
        · exact put_sorted (P := u.take i) (Q := u.drop i) (by rw [List.take_append_drop]; exact HM.out.su) HLo.out.2 HLo.out.1
      have in' : i ≤ n := by omega
      have ia : (J : Int) = (a : Int) + i := by omega
      have iL : (a : Int) + i < L := by omega
      have mn : (m : Int) = (a : Int) + n := by omega
      have HR2 : Hid (NRow wr g (toI (A ++ (u.take n ++ (y :: (u.drop n ++ Z))))) ∧ But g w wr) := by
        refine ⟨?_, HkB.out⟩
        rw [hk, ← HA.out.2, List.take_length, List.drop_length]
        exact HR.out
      have J0 : (0 : Int) ≤ J := by omega
      have J1 : (J : Int) ≤ 1000000 := by omega
      clear HLo HW HR hi hk HkN HkB
      go_wp2
      go_loopw [17] (fun t wr => ∃ q : Nat, i ≤ q ∧ q ≤ n ∧ t = .int .i64 ((a : Int) + q) ∧ Hid (NRow wr g (toI (A ++ (u.take q ++ (y :: (u.drop q ++ Z))))) ∧ But g w wr)) (fun t _ => (intOf t).toNat)
      case atStart => exact ⟨n, in', Nat.le_refl _, by first | rfl | (congr 1), HR2⟩
      case round =>
        rename World => wr
        obtain ⟨q, hq, hqn, rfl, HQ⟩ := hrel
        by_cases hqi : i < q
        · obtain ⟨p, rfl⟩ : ∃ p, q = p + 1 := ⟨q - 1, by omega⟩
          have k1 : (J : Int) < (a : Int) + ((p + 1 : Nat) : Int) := by omega
          have hqv : p < u.length := by rw [HA.out.2]; omega
          obtain ⟨x, hx⟩ : ∃ x, u.getD p 0 = x := ⟨_, rfl⟩
          obtain ⟨R, B⟩ := HQ.out
          have hAq : (A ++ u.take p).length = a + p := by rw [List.length_append, HA.out.1, List.length_take]; omega
          rw [take_one hqv, hx] at R
          rw [show A ++ ((u.take p ++ [x]) ++ (y :: (u.drop (p + 1) ++ Z))) = (A ++ u.take p) ++ (x :: y :: (u.drop (p + 1) ++ Z)) by simp] at R
          have hlen : (toI ((A ++ u.take p) ++ (x :: y :: (u.drop (p + 1) ++ Z)))).length = L := by
            rw [toI_len, HL.out]
            simp only [List.length_append, List.length_cons, List.length_take, List.length_drop]
            have := HA.out
            omega
          have hR2 : NRow wr g (toI ((A ++ u.take p) ++ (x :: y :: (u.drop (p + 1) ++ Z)))) := R
          have e1 : (toI ((A ++ u.take p) ++ (x :: y :: (u.drop (p + 1) ++ Z)))).getD (a + p) 0 = x := by rw [← hAq, toI_at]
          have e2 : (toI ((A ++ u.take p) ++ (x :: y :: (u.drop (p + 1) ++ Z)))).getD (a + p + 1) 0 = y := by
            rw [show (A ++ u.take p) ++ (x :: y :: (u.drop (p + 1) ++ Z)) = ((A ++ u.take p) ++ [x]) ++ (y :: (u.drop (p + 1) ++ Z)) by simp, show a + p + 1 = ((A ++ u.take p) ++ [x]).length by rw [List.length_append, hAq]; rfl, toI_at]
          have hapL : a + p + 1 < L := by omega
          have ca : wr.drew.cell? ⟨g, a + p + 1, none⟩ = some (.int .i64 (y : Int)) := by rw [← e2]; exact hR2.cell (by omega)
          have cb2 : wr.drew.cell? ⟨g, a + p, none⟩ = some (.int .i64 (x : Int)) := by rw [← e1]; exact hR2.cell (by omega)
          have fa : wr.drew.frozen? ⟨g, a + p + 1, none⟩ = false := hR2.frozen _
          have R1 : NRow (wr.drew.setCell ⟨g, a + p + 1, none⟩ (.int .i64 (x : Int))) g _ := (show NRow wr.drew g _ from hR2).set (a + p + 1) _
          have cb1 := R1.cell (i := a + p) (by rw [List.length_set]; omega)
          have fb1 := R1.frozen (a + p)
          have R2 := R1.set (a + p) (y : Int)
          have HR3 : Hid (NRow ((wr.drew.setCell ⟨g, a + p + 1, none⟩ (.int .i64 (x : Int))).setCell ⟨g, a + p, none⟩ (.int .i64 (y : Int))) g (toI (A ++ (u.take p ++ (y :: (u.drop p ++ Z))))) ∧ But g w ((wr.drew.setCell ⟨g, a + p + 1, none⟩ (.int .i64 (x : Int))).setCell ⟨g, a + p, none⟩ (.int .i64 (y : Int)))) := by
            refine ⟨?_, (B.drew.set (a + p + 1) _).set (a + p) _⟩
            rw [drop_one hqv, hx]
            have e3 := adj_swap (A ++ u.take p) x y (u.drop (p + 1) ++ Z)
            rw [hAq] at e3
            rw [e3] at R2
            rw [show A ++ (u.take p ++ (y :: ((x :: u.drop (p + 1)) ++ Z))) = (A ++ u.take p) ++ (y :: x :: (u.drop (p + 1) ++ Z)) by simp]
            exact R2
          generalize (((toI ((A ++ u.take p) ++ (x :: y :: (u.drop (p + 1) ++ Z)))).set (a + p + 1) (x : Int)).getD (a + p) 0) = z0 at *
          clear R1 R2 hR2 R B e1 e2 HQ hlen hAq HR2
          obtain ⟨K, hK⟩ : ∃ K : Int, (a : Int) + ((p + 1 : Nat) : Int) = K := ⟨_, rfl⟩
          obtain ⟨M, hM⟩ : ∃ M : Int, K - 1 = M := ⟨_, rfl⟩
          have n1 : (0 : Int) ≤ K := by omega
          have n2 : K < L := by omega
          have n3 : (0 : Int) ≤ M := by omega
          have n4 : M < L := by omega
          have t1 : K.toNat = a + p + 1 := by omega
          have t2 : M.toNat = a + p := by omega
          have wr1 : IntKind.i64.wrap (K - 1) = M := by rw [IntKind.wrap_i64]; omega
          rw [hK] at k1 ⊢
          have HK : Hid ((a : Int) + ((p + 1 : Nat) : Int) = K ∧ K - 1 = M) := ⟨hK, hM⟩
          clear hK hM ia mn
          go_wp2
          refine wp_region_drawn (by kernel_rfl) ?_
          refine wpAny_take (i := 0) (v := .slice (some ⟨g, 0, none⟩) L cap) rfl (by kernel_rfl) (by kernel_rfl) (by kernel_rfl) (fun _ _ _ h => h) (Or.inl ⟨by rfl, fun w => by go_simp⟩) ?_
          simp only [Act.put, List.getElem_toArray, List.getElem_cons_succ, List.getElem_cons_zero, List.setIfInBounds_toArray, List.set_cons_zero, List.set_cons_succ]
          refine wpAny_take (i := 1) (v := .int .i64 K) rfl (by kernel_rfl) (by kernel_rfl) (by kernel_rfl) (fun _ _ _ h => h) (Or.inl ⟨by rfl, fun w => by go_simp⟩) ?_
          simp only [Act.put, List.getElem_toArray, List.getElem_cons_succ, List.getElem_cons_zero, List.setIfInBounds_toArray, List.set_cons_zero, List.set_cons_succ]
          refine wpAny_take (i := 2) (v := .slice (some ⟨g, 0, none⟩) L cap) rfl (by kernel_rfl) (by kernel_rfl) (by kernel_rfl) (fun _ _ _ h => h) (Or.inl ⟨by rfl, fun w => by go_simp⟩) ?_
          simp only [Act.put, List.getElem_toArray, List.getElem_cons_succ, List.getElem_cons_zero, List.setIfInBounds_toArray, List.set_cons_zero, List.set_cons_succ]
          refine wpAny_take (i := 3) (v := .int .i64 K) rfl (by kernel_rfl) (by kernel_rfl) (by kernel_rfl) (fun _ _ _ h => h) (Or.inl ⟨by rfl, fun w => by go_simp⟩) ?_
          simp only [Act.put, List.getElem_toArray, List.getElem_cons_succ, List.getElem_cons_zero, List.setIfInBounds_toArray, List.set_cons_zero, List.set_cons_succ]
          refine wpAny_take (i := 4) (v := .int .i64 M) rfl (by kernel_rfl) (by kernel_rfl) (by kernel_rfl) (fun _ _ _ h => h) (Or.inl ⟨by rfl, fun w => by go_simp⟩) ?_
          simp only [Act.put, List.getElem_toArray, List.getElem_cons_succ, List.getElem_cons_zero, List.setIfInBounds_toArray, List.set_cons_zero, List.set_cons_succ]
          refine wpAny_take (i := 5) (v := .slice (some ⟨g, 0, none⟩) L cap) rfl (by kernel_rfl) (by kernel_rfl) (by kernel_rfl) (fun _ _ _ h => h) (Or.inl ⟨by rfl, fun w => by go_simp⟩) ?_
          simp only [Act.put, List.getElem_toArray, List.getElem_cons_succ, List.getElem_cons_zero, List.setIfInBounds_toArray, List.set_cons_zero, List.set_cons_succ]
          refine wpAny_take (i := 6) (v := .int .i64 K) rfl (by kernel_rfl) (by kernel_rfl) (by kernel_rfl) (fun _ _ _ h => h) (Or.inl ⟨by rfl, fun w => by go_simp⟩) ?_
          simp only [Act.put, List.getElem_toArray, List.getElem_cons_succ, List.getElem_cons_zero, List.setIfInBounds_toArray, List.set_cons_zero, List.set_cons_succ]
          refine wpAny_take (i := 7) (v := .int .i64 M) rfl (by kernel_rfl) (by kernel_rfl) (by kernel_rfl) (fun _ _ _ h => h) (Or.inl ⟨by rfl, fun w => by go_simp⟩) ?_
          simp only [Act.put, List.getElem_toArray, List.getElem_cons_succ, List.getElem_cons_zero, List.setIfInBounds_toArray, List.set_cons_zero, List.set_cons_succ]
          refine wpAny_take (i := 8) (v := .pointer (some ⟨g, a + p, none⟩)) rfl (by kernel_rfl) (by kernel_rfl) (by kernel_rfl) (fun _ _ _ h => h) (Or.inl ⟨by rfl, fun w => by go_simp⟩) ?_
          simp only [Act.put, List.getElem_toArray, List.getElem_cons_succ, List.getElem_cons_zero, List.setIfInBounds_toArray, List.set_cons_zero, List.set_cons_succ]
          refine wpAny_take (i := 10) (v := .slice (some ⟨g, 0, none⟩) L cap) rfl (by kernel_rfl) (by kernel_rfl) (by kernel_rfl) (fun _ _ _ h => h) (Or.inl ⟨by rfl, fun w => by go_simp⟩) ?_
          simp only [Act.put, List.getElem_toArray, List.getElem_cons_succ, List.getElem_cons_zero, List.setIfInBounds_toArray, List.set_cons_zero, List.set_cons_succ]
          refine wpAny_take (i := 11) (v := .int .i64 K) rfl (by kernel_rfl) (by kernel_rfl) (by kernel_rfl) (fun _ _ _ h => h) (Or.inl ⟨by rfl, fun w => by go_simp⟩) ?_
          simp only [Act.put, List.getElem_toArray, List.getElem_cons_succ, List.getElem_cons_zero, List.setIfInBounds_toArray, List.set_cons_zero, List.set_cons_succ]
          refine wpAny_take (i := 12) (v := .pointer (some ⟨g, a + p + 1, none⟩)) rfl (by kernel_rfl) (by kernel_rfl) (by kernel_rfl) (fun _ _ _ h => h) (Or.inl ⟨by rfl, fun w => by go_simp⟩) ?_
          simp only [Act.put, List.getElem_toArray, List.getElem_cons_succ, List.getElem_cons_zero, List.setIfInBounds_toArray, List.set_cons_zero, List.set_cons_succ]
          refine any_of_L (g := 15) (T := fun u => u = wr.drew) _ _ _ _ ?_
          refine L_take (i := 9) (v := .int .i64 x) rfl rfl (by kernel_rfl) (by decide) (by kernel_rfl) (by kernel_rfl) (by kernel_rfl) (by kernel_rfl) (fun _ _ _ h => h) (Or.inl ⟨by rfl, fun w' hw' => by subst hw'; go_simp⟩) rfl ?_
          simp only [Act.put, List.getElem_toArray, List.getElem_cons_succ, List.getElem_cons_zero, List.setIfInBounds_toArray, List.set_cons_zero, List.set_cons_succ]
          refine L_take (i := 13) (v := .int .i64 y) rfl rfl (by kernel_rfl) (by decide) (by kernel_rfl) (by kernel_rfl) (by kernel_rfl) (by kernel_rfl) (fun _ _ _ h => h) (Or.inl ⟨by rfl, fun w' hw' => by subst hw'; go_simp⟩) rfl ?_
          simp only [Act.put, List.getElem_toArray, List.getElem_cons_succ, List.getElem_cons_zero, List.setIfInBounds_toArray, List.set_cons_zero, List.set_cons_succ]
          refine L_take (i := 14) (v := .pointer (some ⟨g, a + p + 1, none⟩)) rfl rfl (by kernel_rfl) (by decide) (by kernel_rfl) (by kernel_rfl) (by kernel_rfl) (by kernel_rfl) (fun _ _ _ h => h) (Or.inl ⟨by rfl, fun w' hw' => by subst hw'; go_simp⟩) rfl ?_
          simp only [Act.put, List.getElem_toArray, List.getElem_cons_succ, List.getElem_cons_zero, List.setIfInBounds_toArray, List.set_cons_zero, List.set_cons_succ]
          refine L_go (by kernel_rfl) (by kernel_rfl) ?_
          refine wpOp_step rfl ?_
          intro K hK
          rw [if_pos (by rfl)]
          have hK' : Shut (∀ a w, _ → K a w) := hK
          clear hK
          go_wp2
          refine hK'.out _ _ ?_
          clear hK' K
          have eW : wr.drew.setCell ⟨g, a + p + 1, none⟩ (.int .i64 (x : Int)) = (wr.setCell ⟨g, a + p + 1, none⟩ (.int .i64 (x : Int))).drew := rfl
          rw [eW] at cb1 fb1 HR3
          clear eW ca cb2 fa
          generalize (wr.setCell ⟨g, a + p + 1, none⟩ (.int .i64 (x : Int))).drew = W1 at *
          refine any_one (i := 16) (by kernel_rfl) ?_
          refine wpOp_step rfl ?_
          intro K hK
          rw [if_pos (by rfl)]
          have hK' : Shut (∀ a w, _ → K a w) := hK
          clear hK
          go_wp2
          refine hK'.out _ _ ?_
          clear hK' K
          refine any_one (i := 17) (by kernel_rfl) ?_
          refine wpOp_step rfl ?_
          intro K hK
          rw [if_pos (by rfl)]
          have hK' : Shut (∀ a w, _ → K a w) := hK
          clear hK
          go_wp2
          refine hK'.out _ _ ?_
          clear hK' K
          refine wpAny_done (by kernel_rfl) ?_ _
          go_wp2
          go_roundw
          case rel => exact ⟨p, by omega, by omega, by have := HK.out; first | (congr 1; omega) | go_num, HR3⟩
          case measure => have := HK.out; simp [intOf]; omega
        · have eq : q = i := by omega
          subst eq
          have k1 : ¬ (J : Int) < (a : Int) + q := by omega
          have HE : Hid (MOut cut w wr g A u [y] Z) := ⟨u.take q ++ ([y] ++ u.drop q), HS.out.1, HS.out.2, by
            have := HQ.out.1
            rw [show A ++ (u.take q ++ (y :: (u.drop q ++ Z))) = A ++ ((u.take q ++ ([y] ++ u.drop q)) ++ Z) by simp] at this
            exact this, HQ.out.2⟩
          clear HQ HS HR2 ia
          go_wp2
          first | go_end0 | ((try simp only [Exit.inBlock, Exit.then]); refine bodyPost_ret (results_none rfl _ _ _) rfl ?_)
          exact ⟨rfl, HE⟩
end Go.Proofs.Ytojmnfckijgofaa
