/-
  The contract of dayref1's Shares, where something is wrong.
-/
import Derived.Test.YtiolkeipgpkbmaaGreatDoorZg11
import Derived.Deep.LoopGhost
import Derived.Deep.QuietTactic
import Derived.BigQuiet
namespace Go.Proofs.YtiolkeipgpkbmaaGreatDoor
set_option linter.unusedVariables false
set_option linter.unusedSimpArgs false
set_option maxRecDepth 100000
open Go.RowKit Go.Lib Big

theorem cutL_take (T : Int) (l : List Int) {k : Nat} (h : k < l.length) : (cutL T l).take (k + 1) = (cutL T l).take k ++ [T * l.getD k 0 % l.sum] := by
  have e : (cutL T l).getD k 0 = T * l.getD k 0 % l.sum := cutL_at T l h
  rw [← e]
  exact w_take (cutL T l) k (by rw [cutL_len]; exact h)
theorem outP_take (t : Int) (l : List Int) {k : Nat} (h : k < l.length) : ((partL (sizeI t) l).map (sgS t * ·)).take (k + 1) = ((partL (sizeI t) l).map (sgS t * ·)).take k ++ [sgS t * (sizeI t * l.getD k 0 / l.sum)] := by
  have e : (partL (sizeI t) l).getD k 0 = sizeI t * l.getD k 0 / l.sum := partL_at (sizeI t) l h
  rw [← e, w_take _ k (by simp [partL_len]; exact h)]
  congr 2
  rw [List.getD_eq_getElem?_getD, List.getElem?_map, List.getD_eq_getElem?_getD]
  rw [List.getElem?_eq_getElem (by rw [partL_len]; exact h)]
  rfl
theorem left_step (t : Int) (l : List Int) {k : Nat} (h : k < l.length) : sgS t * leftK (sizeI t) l (k + 1) = sgS t * leftK (sizeI t) l k - sgS t * (sizeI t * l.getD k 0 / l.sum) := by
  rw [leftK_succ, partL_at (sizeI t) l h, Int.mul_sub]
theorem size_le {t : Int} (h1 : -9223372036854775808 ≤ t) (h2 : t ≤ 9223372036854775807) : sizeI t ≤ 9223372036854775808 := by unfold sizeI; split <;> omega
theorem sgS_bd {t a : Int} (h1 : -9223372036854775808 ≤ t) (h2 : t ≤ 9223372036854775807) (h3 : 0 ≤ a) (h4 : a ≤ sizeI t) : -9223372036854775808 ≤ sgS t * a ∧ sgS t * a ≤ 9223372036854775807 := by
  unfold sgS sizeI at *
  split <;> rename_i hc
  · rw [if_pos hc] at h4; omega
  · rw [if_neg hc] at h4; omega

theorem pn_wrapS {x : Int} (h1 : -9223372036854775808 ≤ x) (h2 : x ≤ 9223372036854775807) : IntKind.i64.wrap x = x := by
  simp only [IntKind.wrap, IntKind.bits, IntKind.signed]
  simp
  omega
theorem drew_n2 (w : World) (a b : Nat) : (w.drewN a).drewN b = w.drewN (a + b) := by simp [World.drewN, Nat.add_assoc]
set_option maxHeartbeats 8000000 in
theorem refShares_ok (t : Int) (a : Option Addr) (l : List Int) (cap : Nat) (w : World) (h : IsW w a l cap) (hg : GoodW l) (t1 : -9223372036854775808 ≤ t) (t2 : t ≤ 9223372036854775807) :
    Calls Tryz.prog 16 #[.int .i64 t, .slice a l.length cap] w fun e w' => ∃ g c, e = .returned (.tuple #[.slice (some ⟨g, 0, none⟩) l.length c, .int .i64 0]) ∧ Hid (Below w.heap.size w w' ∧ w.heap.size ≤ g ∧ g < w'.heap.size ∧ l.length ≤ c ∧ ∀ i, i < l.length → w'.cell? ⟨g, i, none⟩ = some (.int .i64 (shareI t l i))) := by
  have HG : Hid (GoodW l) := hg
  obtain ⟨g1, g2, g3⟩ := hg
  have Hb : Hid (∀ k, k ≤ l.length → 0 ≤ (l.take k).sum ∧ (l.take k).sum ≤ 40000000000) := fun k hk => by
    refine ⟨sum_nonneg fun z hz => (g2 z (List.mem_of_mem_take hz)).1, ?_⟩
    have := sum_le (l := l.take k) (M := 1000000000) fun z hz => (g2 z (List.mem_of_mem_take hz)).2
    rw [List.length_take] at this
    omega
  have Hx : Hid (∀ k, k < l.length → 0 ≤ l.getD k 0 ∧ l.getD k 0 ≤ 1000000000 ∧ l.getD k 0 ≤ l.sum) := fun k hk => ⟨(g2 _ (w_mem l k hk)).1, (g2 _ (w_mem l k hk)).2, mem_le_sum (fun z hz => (g2 z hz).1) (w_mem l k hk)⟩
  have Hc : Hid (∀ W, Below w.heap.size w W → ∀ k, k < l.length → ∃ b off, a = some ⟨b, off, none⟩ ∧ b < W.heap.size ∧ W.cell? ⟨b, off + k, none⟩ = some (.int .i64 (l.getD k 0))) := fun W hW k hk => (h.below hW).at hk
  have HB : Hid (∀ (x : Int) W, -9223372036854775808 ≤ x → x ≤ 9223372036854775807 → Calls Tryz.prog 39 #[.int .i64 x] W fun e w' => e = .returned (.pointer (some ⟨W.heap.size, 0, none⟩)) ∧ Hid (BigIs w' W.heap.size x ∧ W.grownBy w' none)) := fun x W a b => by
    refine (big_any x W a b).mono ?_
    rintro e w' ⟨rfl, h1, h2⟩
    exact ⟨rfl, h1, h2⟩
  have Ht : Hid (-9223372036854775808 ≤ t ∧ t ≤ 9223372036854775807) := ⟨t1, t2⟩
  have n0 : (0 : Int) ≤ l.length := by omega
  have n1 : (l.length : Int) ≤ 40 := by omega
  have n2 : ¬ (40 : Int) < l.length := by omega
  have hs0 : (l.sum == 0) = false := by simp; omega
  have Hs : Hid (0 < l.sum ∧ l.sum ≤ 40000000000) := by
    have := (Hb.out l.length (Nat.le_refl _)).2
    rw [List.take_length] at this
    exact ⟨g3, this⟩
  clear h g1 g2 g3 t1 t2
  go_enter Tryz.func16, Tryz.ntmps16
  go_wp2
  go_loop [6, 7] (fun s i => ∃ k : Nat, k ≤ l.length ∧ i = .int .i64 k ∧ s = .int .i64 (l.take k).sum) (fun _ i => l.length - (RowKit.intOf i).toNat)
  case atStart => exact ⟨0, Nat.zero_le _, rfl, rfl⟩
  case round =>
    obtain ⟨k, hk, rfl, rfl⟩ := hrel
    by_cases hlt : k < l.length
    · obtain ⟨b, off, rfl, hb, hc⟩ := Hc.out w (Below.refl _ _) k hlt
      have Htk : Hid ((l.take (k + 1)).sum = (l.take k).sum + l.getD k 0) := take_sum l k hlt
      obtain ⟨x0, x1, _⟩ := Hx.out k hlt
      obtain ⟨s0, s1⟩ := Hb.out k hk
      generalize l.getD k 0 = x at *
      generalize (l.take k).sum = s at *
      have i0 : (0 : Int) ≤ k := by omega
      have i1 : (k : Int) < l.length := by omega
      have x2 : ¬ x < 0 := by omega
      have x3 : ¬ (1000000000 : Int) < x := by omega
      go_wp2
      go_round
      case rel => exact ⟨k + 1, by omega, by go_num, by rw [Htk.out]⟩
      case measure => simp [RowKit.intOf]; omega
    · have hk2 : k = l.length := by omega
      subst hk2
      rw [List.take_length]
      obtain ⟨S, hS⟩ : ∃ S, l.sum = S := ⟨_, rfl⟩
      have HS : Hid (l.sum = S) := hS
      rw [hS] at hs0 Hs ⊢
      clear hS hk hlt
      go_wp2_with fail
      refine (HB.out t w Ht.out.1 Ht.out.2).mono ?_
      rintro e w1 ⟨rfl, h1⟩
      obtain ⟨T, hT⟩ : ∃ T, sizeI t = T := ⟨_, rfl⟩
      have HT : Hid (sizeI t = T) := hT
      have H1 : Hid (Shs w w1 w1.heap.size (.slice none 0 0) (.slice none 0 0) (((partL T l).map (sgS t * ·)).take 0) [] ((cutL T l).take 0) w.heap.size (sgS t * leftK T l 0)) := by
        unfold Hid
        rw [leftK_zero, ← hT, sgS_size]
        exact ⟨(Below.refl _ _).grown h1.out.2 (Nat.le_refl _) (by simp), Nat.le_refl _, KRow.nil _ _ _ _, KRow.nil _ _ _ _, h1.out.1, Nat.le_refl _, h1.out.1.lt, rfl, fun i hi => by simp at hi⟩
      clear h1 hT
      go_wp2
      go_loopw [8, 9, 11] (fun v1 v2 i wr => ∃ (k : Nat) (ps : List Nat) (vo vc : Value), vo = v1 ∧ vc = v2 ∧ k ≤ l.length ∧ i = .int .i64 k ∧ ps.length = k ∧ Hid (Shs w wr wr.heap.size vo vc (((partL T l).map (sgS t * ·)).take k) ps ((cutL T l).take k) w.heap.size (sgS t * leftK T l k))) (fun _ _ i _ => l.length - (RowKit.intOf i).toNat)
      case atStart => exact ⟨0, [], _, _, rfl, rfl, Nat.zero_le _, rfl, rfl, H1⟩
      case round =>
        obtain ⟨k, ps, vo, vc, e8, e9, hk, rfl, hps, HI⟩ := hrel
        subst e8 e9
        clear H1
        by_cases hlt : k < l.length
        · obtain ⟨b, off, ea, hb, hc⟩ := Hc.out wr HI.out.below k hlt
          obtain ⟨x, hx⟩ : ∃ x, l.getD k 0 = x := ⟨_, rfl⟩
          have Hxx : Hid (0 ≤ x ∧ x ≤ 1000000000 ∧ x ≤ S) := by
            have := Hx.out k hlt
            rw [hx, HS.out] at this
            exact this
          have Hp : Hid (0 ≤ T * x / S ∧ T * x / S ≤ T) := part_le (by rw [← HT.out]; exact size_nonneg t) Hxx.out.1 Hs.out.1 Hxx.out.2.2
          have Hq : Hid ((t * x).tdiv S = sgS t * (T * x / S)) := by
            have := quot_sg t x S Hxx.out.1 Hs.out.1
            rw [HT.out] at this
            exact this
          have Hr : Hid ((if (t * x).tmod S < 0 then -(t * x).tmod S else (t * x).tmod S) = T * x % S) := by
            have := rem_sg t x S Hxx.out.1 Hs.out.1
            rw [HT.out] at this
            exact this
          have Hqb : Hid (-9223372036854775808 ≤ sgS t * (T * x / S) ∧ sgS t * (T * x / S) ≤ 9223372036854775807) := sgS_bd Ht.out.1 Ht.out.2 Hp.out.1 (by rw [HT.out]; exact Hp.out.2)
          have Hm : Hid (-9223372036854775808000000000 ≤ t * x ∧ t * x ≤ 9223372036854775808000000000) := by
            have := shs_mul (t := t) (x := x) (M := 9223372036854775808) (X := 1000000000) Ht.out.1 (by have := Ht.out.2; omega) Hxx.out.1 Hxx.out.2.1 (by omega)
            unfold Hid; omega
          have Hlb : Hid (-9223372036854775808 ≤ sgS t * leftK T l k ∧ sgS t * leftK T l k ≤ 9223372036854775807) := by
            have := leftK_bd (T := sizeI t) (size_nonneg t) HG.out k hk
            rw [HT.out] at this
            exact sgS_bd Ht.out.1 Ht.out.2 this.1 (by rw [HT.out]; exact this.2)
          have Hn1 : Hid (((partL T l).map (sgS t * ·)).take (k + 1) = ((partL T l).map (sgS t * ·)).take k ++ [sgS t * (T * x / S)]) := by
            have := outP_take t l hlt
            rw [HT.out, hx, HS.out] at this
            exact this
          have Hn2 : Hid ((cutL T l).take (k + 1) = (cutL T l).take k ++ [T * x % S]) := by
            have := cutL_take T l hlt
            rw [hx, HS.out] at this
            exact this
          have Hn3 : Hid (sgS t * leftK T l (k + 1) = sgS t * leftK T l k - sgS t * (T * x / S)) := by
            have := left_step t l hlt
            rw [HT.out, hx, HS.out] at this
            exact this
          have Hol : Hid ((((partL T l).map (sgS t * ·)).take k).length ≤ 100000 ∧ ps.length ≤ 100000) := by
            refine ⟨?_, by omega⟩
            rw [List.length_take]; omega
          have Htm : Hid (Few ((t * x).tmod S)) := (few_tdiv (by have := Hm.out; unfold Few; omega) Hs.out.1).2
          rw [hx] at hc
          have Hlx : Hid (l.getD k 0 = x) := hx
          clear hx
          generalize ((partL T l).map (sgS t * ·)).take k = os at *
          generalize (cutL T l).take k = cs at *
          generalize sgS t * leftK T l k = L at *
          generalize sgS t * (T * x / S) = Q at *
          subst ea
          have i0 : (0 : Int) ≤ k := by omega
          have i1 : (k : Int) < l.length := by omega
          have Hhb : Hid (b < wr.heap.size) := hb
          clear hb
          go_wp2_with fail
          refine (HB.out t wr Ht.out.1 Ht.out.2).mono ?_
          rintro e w2 ⟨rfl, h2⟩
          have H2 : Hid (Shs w w2 wr.heap.size vo vc os ps cs w.heap.size L ∧ BigIs w2 wr.heap.size t ∧ wr.heap.size < w2.heap.size) := ⟨HI.out.none_ h2.out.2, h2.out.1, h2.out.1.lt⟩
          obtain ⟨b', off', eb, hb, hc'⟩ := Hc.out w2 H2.out.1.below k hlt
          cases eb
          rw [Hlx.out] at hc'
          clear hc h2 Hhb Hlx
          go_wp2_with fail
          refine (HB.out x w2 (by have := Hxx.out; omega) (by have := Hxx.out; omega)).mono ?_
          rintro e w3 ⟨rfl, h3⟩
          have H3 : Hid (Shs w w3 wr.heap.size vo vc os ps cs w.heap.size L ∧ BigIs w3 wr.heap.size t ∧ BigIs w3 w2.heap.size x) := ⟨H2.out.1.none_ h3.out.2, H2.out.2.1.growBy h3.out.2, h3.out.1⟩
          clear h3 H2 hc' hb
          go_wp2_with fail
          refine (mul_big wr.heap.size wr.heap.size w2.heap.size t t x w3 H3.out.2.1 H3.out.2.1 H3.out.2.2 (by have := Ht.out; unfold Few; omega) (by have := Hxx.out; unfold Few; omega)).mono ?_
          rintro e w4 ⟨rfl, h4⟩
          have H4 : Hid (Shs w w4 wr.heap.size vo vc os ps cs w.heap.size L ∧ BigIs w4 wr.heap.size (t * x) ∧ wr.heap.size < w4.heap.size) := ⟨H3.out.1.some_ H3.out.2.1 (Nat.le_refl _) h4.out.2, h4.out.1, h4.out.1.lt⟩
          clear h4 H3
          obtain ⟨w5, hw5⟩ : ∃ w5, (w4.alloc (.cells #[.bool false, .slice none 0 0] 83)).alloc (.cells #[.bool false, .slice none 0 0] 83) = w5 := ⟨_, rfl⟩
          have sz5 : w5.heap.size = w4.heap.size + 1 + 1 := by rw [← hw5]; simp
          have H5 : Hid (Shs w w5 wr.heap.size vo vc os ps cs w.heap.size L ∧ BigIs w5 wr.heap.size (t * x) ∧ BigIs w5 w4.heap.size 0 ∧ BigIs w5 (w4.heap.size + 1) 0 ∧ wr.heap.size < w4.heap.size) := by
            have ga := World.grownBy_alloc w4 (.cells #[.bool false, .slice none 0 0] 83) none
            have gb := World.grownBy_alloc (w4.alloc (.cells #[.bool false, .slice none 0 0] 83)) (.cells #[.bool false, .slice none 0 0] 83) none
            have n2 := bigis_new (w4.alloc (.cells #[.bool false, .slice none 0 0] 83))
            rw [show (w4.alloc (.cells #[.bool false, .slice none 0 0] 83)).heap.size = w4.heap.size + 1 by simp] at n2
            rw [← hw5]
            exact ⟨(H4.out.1.none_ ga).none_ gb, (H4.out.2.1.growBy ga).growBy gb, (bigis_new w4).growBy gb, n2, H4.out.2.2⟩
          have S5 : Hid (Calls Tryz.prog 39 #[.int .i64 S] w5 fun e w' => e = .returned (.pointer (some ⟨w4.heap.size + 1 + 1, 0, none⟩)) ∧ Hid (BigIs w' (w4.heap.size + 1 + 1) S ∧ w5.grownBy w' none)) := by
            refine (HB.out S w5 (by have := Hs.out; omega) (by have := Hs.out; omega)).mono ?_
            rintro e w' ⟨rfl, hb⟩
            rw [sz5] at hb ⊢
            exact ⟨rfl, hb⟩
          clear H4
          go_wp2_with fail
          refine S5.out.mono ?_
          rintro e w6 ⟨rfl, h6⟩
          have H6 : Hid (Shs w w6 wr.heap.size vo vc os ps cs w.heap.size L ∧ BigIs w6 wr.heap.size (t * x) ∧ BigIs w6 w4.heap.size 0 ∧ BigIs w6 (w4.heap.size + 1) 0 ∧ BigIs w6 (w4.heap.size + 1 + 1) S ∧ wr.heap.size < w4.heap.size) := by
            obtain ⟨a1, a2, a3, a4, a5⟩ := H5.out
            exact ⟨a1.none_ h6.out.2, a2.growBy h6.out.2, a3.growBy h6.out.2, a4.growBy h6.out.2, h6.out.1, a5⟩
          clear h6 S5 H5 hw5 sz5 w5
          go_wp2_with fail
          refine (quoRem_long w4.heap.size wr.heap.size (w4.heap.size + 1 + 1) (w4.heap.size + 1) 0 0 (t * x) S w6 H6.out.2.2.1 H6.out.2.2.2.1 (by omega) H6.out.2.1 H6.out.2.2.2.2.1 (by have := Hm.out; omega) Hs.out.1 (by have := Hs.out; omega)).mono ?_
          rintro e w7 ⟨rfl, h7⟩
          have H7 : Hid (Shs w w7 wr.heap.size vo vc os ps cs w.heap.size L ∧ BigIs w7 w4.heap.size Q ∧ BigIs w7 (w4.heap.size + 1) ((t * x).tmod S) ∧ wr.heap.size < w4.heap.size) := by
            obtain ⟨a1, a2, a3, a4, a5, a6⟩ := H6.out
            have b1 := h7.out.1
            rw [Hq.out] at b1
            exact ⟨a1.two_ (by omega) (by omega) a3 a4 h7.out, b1, h7.out.2.1, a6⟩
          clear h7 H6
          go_wp2_with fail
          refine (absJ_big (w4.heap.size + 1) _ w7 H7.out.2.2.1 Htm.out).mono ?_
          rintro e w8 ⟨rfl, h8⟩
          have H8 : Hid (Shs w w8 wr.heap.size vo vc os ps cs w.heap.size L ∧ BigIs w8 w4.heap.size Q ∧ BigIs w8 (w4.heap.size + 1) (T * x % S) ∧ wr.heap.size < w4.heap.size) := by
            obtain ⟨a1, a2, a3, a4⟩ := H7.out
            have b1 := h8.out.1
            rw [Hr.out] at b1
            exact ⟨a1.some_ a3 (by omega) h8.out.2, a2.kept (by omega) a3 h8.out.2, b1, a4⟩
          clear h8 H7
          go_wp2_with fail
          refine (sub_big w.heap.size w.heap.size w4.heap.size L L Q w8 H8.out.1.left H8.out.1.left H8.out.2.1 (by have := Hlb.out; unfold Few; omega) (by have := Hqb.out; unfold Few; omega)).mono ?_
          rintro e w9 ⟨rfl, h9⟩
          have H9 : Hid (Shs w w9 wr.heap.size vo vc os ps cs w.heap.size (L - Q) ∧ BigIs w9 w4.heap.size Q ∧ BigIs w9 (w4.heap.size + 1) (T * x % S) ∧ wr.heap.size < w4.heap.size) := by
            obtain ⟨a1, a2, a3, a4⟩ := H8.out
            have := a1.hi
            exact ⟨a1.left_ h9.out.1 h9.out.2, a2.kept (by omega) a1.left h9.out.2, a3.kept (by omega) a1.left h9.out.2, a4⟩
          clear h9 H8
          have Sm : Hid (Calls Tryz.prog 44 #[.pointer (some ⟨w4.heap.size, 0, none⟩)] w9 fun e w' => e = .returned (.tuple #[.int .i64 Q, .int .i64 0]) ∧ w' = w9) := by
            have := small_any w4.heap.size Q w9 H9.out.2.1 (by have := Hqb.out; omega) (by have := Hqb.out; omega)
            rw [show rV Q = Q from if_pos Hqb.out, show rE Q = 0 from if_pos Hqb.out] at this
            exact this
          go_wp2_with fail
          refine Sm.out.mono ?_
          rintro e w' ⟨rfl, hw⟩
          rw [hw]; clear hw w' Sm
          obtain ⟨vo', w10, run1, S10, gr1⟩ := app_out H9.out.1 Q Hol.out.1
          have H10 : Hid (Shs w w10 wr.heap.size vo' vc (os ++ [Q]) ps cs w.heap.size (L - Q) ∧ BigIs w10 (w4.heap.size + 1) (T * x % S) ∧ wr.heap.size < w4.heap.size) :=
            ⟨S10, H9.out.2.2.1.keepK H9.out.1.out (by decide) ki_not gr1, H9.out.2.2.2⟩
          clear S10 gr1 H9
          obtain ⟨vc', w11, run2, S11⟩ := app_cut H10.out.1 (w4.heap.size + 1) _ H10.out.2.1 (by have := H10.out.2.2; omega) Hol.out.2
          have H11 : Hid (Shs w w11 w11.heap.size vo' vc' (os ++ [Q]) (ps ++ [w4.heap.size + 1]) (cs ++ [T * x % S]) w.heap.size (L - Q)) := S11
          clear S11 H10
          go_wp2_with (first | (at_builtin; refine wpList_append_run rfl (.tmp 87) (.tmp 89) 43 43 (by rfl) vo (.slice (some ⟨w9.heap.size, 0, none⟩) 1 1) (by rfl) (by rfl) run1 ?_; clear run1) | (at_builtin; refine wpList_append_run rfl (.tmp 91) (.tmp 93) 77 77 (by rfl) vc (.slice (some ⟨w10.heap.size, 0, none⟩) 1 1) (by rfl) (by rfl) run2 ?_; clear run2))
          go_roundw
          case rel => exact ⟨k + 1, ps ++ [w4.heap.size + 1], vo', vc', rfl, rfl, by omega, by go_num, by simp [hps], by unfold Hid; rw [Hn1.out, Hn2.out, Hn3.out]; exact H11.out⟩
          case measure => simp [RowKit.intOf]; omega
        · have hk2 : k = l.length := by omega
          subst hk2
          have hnk : ¬ (l.length : Int) < l.length := by omega
          obtain ⟨s, os1, os2⟩ := order_ex (cutL T l)
          rw [cutL_len] at os1
          obtain ⟨n, hn⟩ : ∃ n, l.length = n := ⟨_, rfl⟩
          have Hos : Hid (s.Perm (List.range l.length) ∧ s.Pairwise (LT (cutL T l)) ∧ s.Nodup ∧ s.length = l.length) := ⟨os1, os2, os1.nodup_iff.2 List.nodup_range, by rw [os1.length_eq]; simp⟩
          have hpos : 0 < l.length := by
            rcases Nat.eq_zero_or_pos l.length with h0 | h0
            · have := HG.out.2.2
              rw [List.eq_nil_of_length_eq_zero h0] at this
              simp at this
            · exact h0
          have HI1 : Hid (Shs w wr wr.heap.size vo vc (outK t l s 0) ps (markK (cutL T l) s 0) w.heap.size (sgS t * leftI T l)) := by
            have := HI.out
            rw [List.take_of_length_le (by simp [partL_len]), List.take_of_length_le (by simp [cutL_len]), leftK_all] at this
            unfold Hid
            rw [outK_zero, markK_zero, HT.out]
            exact this
          obtain ⟨g, c, ev, hg1, hg2, hg3⟩ := HI1.out.out.shape (by simp [ints, outK_len]; exact hpos)
          obtain ⟨gc, cc, ec, _, _, _⟩ := HI1.out.cut.shape (by simp [ptrs]; omega)
          rw [show (ints (outK t l s 0)).length = l.length by simp [ints, outK_len]] at ev hg3
          rw [show (ptrs ps).length = l.length by simp [ptrs, hps]] at ec
          subst ev ec
          obtain ⟨Lf, hLf⟩ : ∃ Lf : Nat, leftI T l = Lf := ⟨(leftI T l).toNat, by have := left_nonneg (T := T) HG.out; omega⟩
          have HLf : Hid (leftI T l = Lf ∧ Lf ≤ l.length) := ⟨hLf, by have := left_le (T := T) HG.out; omega⟩
          have Hgc : Hid (w.heap.size ≤ g ∧ l.length ≤ c) := ⟨hg1, hg3⟩
          rw [hLf] at HI1
          clear HI hlt hk hn n os1 os2 hg1 hg2 hg3 hLf
          go_wp2_with fail
          go_loopg [] Lf (fun gk wx => ∃ (m : Nat) (qs : List Nat), m + gk = Lf ∧ qs.length = l.length ∧ Hid (Shs w wx wx.heap.size (.slice (some ⟨g, 0, none⟩) l.length c) (.slice (some ⟨gc, 0, none⟩) l.length cc) (outK t l s m) qs (markK (cutL T l) s m) w.heap.size (sgS t * (gk : Int))))
          case atStart => exact ⟨0, ps, by omega, hps, HI1⟩
          case round =>
            obtain ⟨m, qs, hm, hqs, HJ⟩ := hrel
            clear HI1
            rcases Nat.eq_zero_or_pos gk with h0 | h0
            · subst h0
              have hm' : m = Lf := by omega
              subst hm'
              have HR : Hid (Below w.heap.size w wr ∧ w.heap.size ≤ g ∧ g < wr.heap.size ∧ l.length ≤ c ∧ ∀ i, i < l.length → wr.cell? ⟨g, i, none⟩ = some (.int .i64 (shareI t l i))) := by
                have hL := HLf.out.1
                have e := outK_all (t := t) HG.out Hos.out.1 (by rw [HT.out]; exact Hos.out.2.1)
                rw [HT.out, show (leftI T l).toNat = m by omega] at e
                have hS := HJ.out
                rw [e] at hS
                have hlt2 := (hS.out.lt g rfl).2
                refine ⟨hS.below, Hgc.out.1, hlt2, Hgc.out.2, fun i hi => ?_⟩
                have h3 := (hS.outCell (i := i) (by simpa using hi)).1
                rw [h3]
                simp [List.getD_eq_getElem?_getD, hi]
              have SG : Hid (Calls Tryz.prog 45 #[.pointer (some ⟨w.heap.size, 0, none⟩)] wr fun e w' => e = .returned (.int .i64 0) ∧ w' = wr) := by
                have := signJ_big w.heap.size _ wr HJ.out.left
                rw [show sgnJ (sgS t * ((0 : Nat) : Int)) = 0 by simp [sgnJ]] at this
                exact this
              clear HJ
              go_wp2_with fail
              refine SG.out.mono ?_
              rintro e w' ⟨rfl, hw⟩
              rw [hw]; clear hw w' SG
              go_wp2
              go_ret2
              exact ⟨g, c, rfl, HR⟩
            · obtain ⟨gk', rfl⟩ : ∃ gk', gk = gk' + 1 := ⟨gk - 1, by omega⟩
              have Hml : Hid (m < s.length ∧ m < l.length) := by
                have := HLf.out.2
                have := Hos.out.2.2.2
                unfold Hid; omega
              have Hsm : Hid (s.getD m 0 < l.length) := by
                have h1 : s.getD m 0 ∈ s := by
                  rw [List.getD_eq_getElem?_getD, List.getElem?_eq_getElem Hml.out.1]; exact List.getElem_mem _
                exact List.mem_range.1 (Hos.out.1.mem_iff.1 h1)
              have Hone : Hid (sgnJ (sgS t * ((gk' : Int) + 1)) = sgS t ∧ sgS t ≠ 0) := sgnJ_left t gk'
              have SG : Hid (∀ nd, Calls Tryz.prog 45 #[.pointer (some ⟨w.heap.size, 0, none⟩)] (wr.drewN nd) fun e w' => e = .returned (.int .i64 (sgS t)) ∧ w' = wr.drewN nd) := fun nd => by
                have := signJ_big w.heap.size _ (wr.drewN nd) (HJ.out.drewN nd).left
                rw [show ((gk' + 1 : Nat) : Int) = (gk' : Int) + 1 by omega, Hone.out.1] at this
                exact this
              have Hcp : Hid (∀ p q W, p < l.length → q < l.length → (∃ n, W = wr.drewN n) → W.cell? ⟨gc, p, none⟩ = some (.pointer (some ⟨qs.getD p 0, 0, none⟩)) ∧ Calls Tryz.prog 46 #[.pointer (some ⟨qs.getD q 0, 0, none⟩), .pointer (some ⟨qs.getD p 0, 0, none⟩)] W fun e w' => e = .returned (.int .i64 (cmpJ ((markK (cutL T l) s m).getD q 0) ((markK (cutL T l) s m).getD p 0))) ∧ ∃ n, w' = wr.drewN n) := fun p q W hp hq hW => by
                obtain ⟨n, rfl⟩ := hW
                have hS := HJ.out.drewN n
                refine ⟨(hS.cutCell (i := p) (by omega)).1, (cmp_mark _ _ _ _ _ (hS.cuts q (by omega)).1 (hS.cuts p (by omega)).1 (mark_bd HG.out s m hq) (mark_bd HG.out s m hp)).mono ?_⟩
                rintro e w' ⟨rfl, n2, rfl⟩
                exact ⟨rfl, _, drew_n2 wr n n2⟩
              have sne : (sgS t != 0) = true := by simpa using Hone.out.2
              obtain ⟨one, hone⟩ : ∃ one, sgS t = one := ⟨_, rfl⟩
              have Hon : Hid (sgS t = one) := hone
              rw [hone] at SG sne
              clear hone
              have hlp : (1 : Int) ≤ l.length := by omega
              go_wp2_with fail
              refine (SG.out 0).mono ?_
              rintro e w' ⟨rfl, hw⟩
              rw [hw, show wr.drewN 0 = wr from rfl]; clear hw w'
              go_wp2
              go_loopw [17, 18] (fun v1 v2 wx => ∃ p q : Nat, v1 = .int .i64 p ∧ v2 = .int .i64 q ∧ p < q ∧ q ≤ l.length ∧ Hid (Best (markK (cutL T l) s m) p q) ∧ ∃ nd, wx = wr.drewN nd) (fun _ v2 _ => l.length - (RowKit.intOf v2).toNat)
              case atStart => exact ⟨0, 1, rfl, rfl, by omega, by omega, fun j hj hne => by omega, 0, rfl⟩
              case round =>
                obtain ⟨p, q, rfl, rfl, hpq, hql, HBe, nd, rfl⟩ := hrel
                by_cases hqn : q < l.length
                · obtain ⟨c1, CC⟩ := Hcp.out p q wr (by omega) hqn ⟨0, rfl⟩
                  obtain ⟨c2, _⟩ := Hcp.out q p wr hqn (by omega) ⟨0, rfl⟩
                  have HCp : Hid (∀ W, (∃ n, W = wr.drewN n) → Calls Tryz.prog 46 #[.pointer (some ⟨qs.getD q 0, 0, none⟩), .pointer (some ⟨qs.getD p 0, 0, none⟩)] W fun e w' => e = .returned (.int .i64 (cmpJ ((markK (cutL T l) s m).getD q 0) ((markK (cutL T l) s m).getD p 0))) ∧ ∃ n, w' = wr.drewN n) := fun W hW => (Hcp.out p q W (by omega) hqn hW).2
                  have Hyes : Hid (0 < cmpJ ((markK (cutL T l) s m).getD q 0) ((markK (cutL T l) s m).getD p 0) → Best (markK (cutL T l) s m) q (q + 1)) := fun hc => best_new HBe.out hpq ((cmpJ_pos _ _).1 hc)
                  have Hno : Hid (¬ 0 < cmpJ ((markK (cutL T l) s m).getD q 0) ((markK (cutL T l) s m).getD p 0) → Best (markK (cutL T l) s m) p (q + 1)) := fun hc => best_keep HBe.out hpq (fun hh => hc ((cmpJ_pos _ _).2 hh))
                  generalize cmpJ ((markK (cutL T l) s m).getD q 0) ((markK (cutL T l) s m).getD p 0) = cv at *
                  generalize qs.getD q 0 = aq at *
                  generalize qs.getD p 0 = ap at *
                  have i0 : (0 : Int) ≤ q := by omega
                  have i1 : (q : Int) < l.length := by omega
                  have i2 : (0 : Int) ≤ p := by omega
                  have i3 : (p : Int) < l.length := by omega
                  clear CC Hcp SG HJ HBe Hone Hsm Hml HLf Hgc
                  by_cases hcv : 0 < cv
                  · have HY := Hyes.out hcv
                    have HY2 : Hid (Best (markK (cutL T l) s m) q (q + 1)) := HY
                    clear HY Hyes Hno
                    go_wp2_with fail
                    go_region_with (go_at_call 46; refine (HCp.out _ ⟨_, rfl⟩).mono ?_; rintro e w3 ⟨rfl, hw3⟩)
                    all_goals
                      go_wp2
                      go_roundw
                      case rel => exact ⟨q, q + 1, rfl, by go_num, by omega, by omega, HY2, hw3⟩
                      case measure => simp [RowKit.intOf]; omega
                  · have HY := Hno.out hcv
                    have HY2 : Hid (Best (markK (cutL T l) s m) p (q + 1)) := HY
                    clear HY Hyes Hno
                    go_wp2_with fail
                    go_region_with (go_at_call 46; refine (HCp.out _ ⟨_, rfl⟩).mono ?_; rintro e w3 ⟨rfl, hw3⟩)
                    all_goals
                      go_wp2
                      go_roundw
                      case rel => exact ⟨p, q + 1, rfl, by go_num, by omega, by omega, HY2, hw3⟩
                      case measure => simp [RowKit.intOf]; omega
                · have hqe : q = l.length := by omega
                  subst hqe
                  have hqn' : ¬ (l.length : Int) < l.length := by omega
                  have hpm : p = s.getD m 0 := mark_first (cut := cutL T l) (by rw [cutL_len]; exact Hos.out.1) Hos.out.2.1 (fun x hx => (cut_bounds HG.out x hx).1) (by rw [cutL_len]; exact Hml.out.2) (by rw [cutL_len]; exact hpq) (by rw [cutL_len]; exact HBe.out)
                  have Hn1 : Hid ((outK t l s m).set p ((outK t l s m).getD p 0 + one) = outK t l s (m + 1)) := by
                    have := outK_step t l s m Hos.out.2.2.1 Hml.out.1 Hsm.out
                    rw [← hpm, Hon.out] at this
                    exact this
                  have Hn2 : Hid ((markK (cutL T l) s m).set p (-1) = markK (cutL T l) s (m + 1)) := by
                    have := markK_step (cutL T l) s m Hml.out.1
                    rw [← hpm] at this
                    exact this
                  have Hn3 : Hid (sgS t * ((gk' + 1 : Nat) : Int) - one = sgS t * (gk' : Int)) := by
                    unfold Hid
                    rw [← Hon.out, show ((gk' + 1 : Nat) : Int) = (gk' : Int) + 1 by omega, Int.mul_add, Int.mul_one]
                    omega
                  have Hob : Hid (-9223372036854775808 ≤ (outK t l s m).getD p 0 + one ∧ (outK t l s m).getD p 0 + one ≤ 9223372036854775807) := by
                    have h1 := outK_at (t := t) (ws := l) Hos.out.2.2.1 Hml.out.1 Hsm.out
                    have h2 := part_fit (t := t) HG.out (by rw [HT.out]; have := HLf.out.1; omega) Hsm.out
                    rw [← hpm] at h1 h2
                    have h3 := sgS_bd (a := (partL (sizeI t) l).getD p 0 + 1) Ht.out.1 Ht.out.2 (by omega) h2.2
                    rw [Int.mul_add, Int.mul_one, ← h1, Hon.out] at h3
                    exact h3
                  have Hlb : Hid (-9223372036854775808 ≤ sgS t * ((gk' + 1 : Nat) : Int) ∧ sgS t * ((gk' + 1 : Nat) : Int) ≤ 9223372036854775807) := by
                    have := HLf.out.2
                    unfold Hid
                    rcases sgS_two t with e | e <;> rw [e] <;> omega
                  have Ho1 : Hid (one = -1 ∨ one = 1) := by
                    have := sgS_two t
                    rw [Hon.out] at this
                    exact this
                  have HJ2 : Hid (Shs w (wr.drewN nd) wr.heap.size (.slice (some ⟨g, 0, none⟩) l.length c) (.slice (some ⟨gc, 0, none⟩) l.length cc) (outK t l s m) qs (markK (cutL T l) s m) w.heap.size (sgS t * ((gk' + 1 : Nat) : Int))) := HJ.out.drewN nd
                  obtain ⟨c1, z1⟩ := HJ.out.outCell (i := p) (by rw [outK_len]; exact hpq)
                  obtain ⟨o, ho⟩ : ∃ o, (outK t l s m).getD p 0 = o := ⟨_, rfl⟩
                  rw [ho] at c1 Hn1 Hob
                  obtain ⟨W1, hW1⟩ : ∃ W1, (wr.drewN nd).setCell ⟨g, p, none⟩ (.int .i64 (o + one)) = W1 := ⟨_, rfl⟩
                  have H1 : Hid (Shs w W1 wr.heap.size (.slice (some ⟨g, 0, none⟩) l.length c) (.slice (some ⟨gc, 0, none⟩) l.length cc) (outK t l s (m + 1)) qs (markK (cutL T l) s m) w.heap.size (sgS t * ((gk' + 1 : Nat) : Int))) := by
                    have := HJ2.out.setOut (i := p) (by rw [outK_len]; exact hpq) (o + one)
                    rw [Hn1.out, hW1] at this
                    exact this
                  have HW1 : Hid ((wr.drewN nd).setCell ⟨g, p, none⟩ (.int .i64 (o + one)) = W1) := hW1
                  have wr1 : IntKind.i64.wrap (o + one) = o + one := by
                    have := Hob.out
                    exact pn_wrapS this.1 this.2
                  have i2 : (0 : Int) ≤ p := by omega
                  have i3 : (p : Int) < l.length := by omega
                  have HpL : Hid (p < l.length) := hpq
                  clear hW1 ho HJ HJ2 Hn1 Hob Hone Hsm Hml HLf Hcp hpm HBe hqn
                  go_wp2_with fail
                  refine (SG.out nd).mono ?_
                  rintro e w' ⟨rfl, hw⟩
                  rw [hw]; clear hw w' SG
                  go_upto_region 37 with fail
                  rw [HW1.out]
                  clear HW1 c1 z1 wr1
                  go_wp2_with fail
                  refine (HB.out one W1 (by have := Ho1.out; omega) (by have := Ho1.out; omega)).mono ?_
                  rintro e w2 ⟨rfl, h2⟩
                  have H2 : Hid (Shs w w2 wr.heap.size (.slice (some ⟨g, 0, none⟩) l.length c) (.slice (some ⟨gc, 0, none⟩) l.length cc) (outK t l s (m + 1)) qs (markK (cutL T l) s m) w.heap.size (sgS t * ((gk' + 1 : Nat) : Int)) ∧ BigIs w2 W1.heap.size one) := ⟨H1.out.none_ h2.out.2, h2.out.1⟩
                  clear h2 H1
                  go_wp2_with fail
                  refine (sub_big w.heap.size w.heap.size W1.heap.size _ _ one w2 H2.out.1.left H2.out.1.left H2.out.2 (by have := Hlb.out; unfold Few; omega) (by have := Ho1.out; unfold Few; omega)).mono ?_
                  rintro e w3 ⟨rfl, h3⟩
                  have H3 : Hid (Shs w w3 wr.heap.size (.slice (some ⟨g, 0, none⟩) l.length c) (.slice (some ⟨gc, 0, none⟩) l.length cc) (outK t l s (m + 1)) qs (markK (cutL T l) s m) w.heap.size (sgS t * (gk' : Int))) := by
                    have b1 := h3.out.1
                    rw [Hn3.out] at b1
                    exact H2.out.1.left_ b1 h3.out.2
                  clear h3 H2
                  go_wp2_with fail
                  refine (HB.out (-1) w3 (by omega) (by omega)).mono ?_
                  rintro e w4 ⟨rfl, h4⟩
                  have H4 : Hid (Shs w w4 wr.heap.size (.slice (some ⟨g, 0, none⟩) l.length c) (.slice (some ⟨gc, 0, none⟩) l.length cc) (outK t l s (m + 1)) qs (markK (cutL T l) s m) w.heap.size (sgS t * (gk' : Int)) ∧ BigIs w4 w3.heap.size (-1) ∧ wr.heap.size ≤ w3.heap.size) := ⟨H3.out.none_ h4.out.2, h4.out.1, H3.out.size⟩
                  obtain ⟨c2, z2⟩ := H4.out.1.cutCell (i := p) (by rw [hqs]; exact HpL.out)
                  have H5 : Hid (Shs w (w4.setCell ⟨gc, p, none⟩ (.pointer (some ⟨w3.heap.size, 0, none⟩))) (w4.setCell ⟨gc, p, none⟩ (.pointer (some ⟨w3.heap.size, 0, none⟩))).heap.size (.slice (some ⟨g, 0, none⟩) l.length c) (.slice (some ⟨gc, 0, none⟩) l.length cc) (outK t l s (m + 1)) (qs.set p w3.heap.size) (markK (cutL T l) s (m + 1)) w.heap.size (sgS t * (gk' : Int))) := by
                    have := H4.out.1.setCut (i := p) (by rw [hqs]; exact HpL.out) H4.out.2.1 H4.out.2.2
                    rw [Hn2.out] at this
                    exact this
                  clear h4 H3 H4
                  go_wp2
                  go_roundg gk'
                  case measure => omega
                  case rel => exact ⟨m + 1, qs.set p w3.heap.size, by omega, by rw [List.length_set]; exact hqs, H5⟩
end Go.Proofs.YtiolkeipgpkbmaaGreatDoor

namespace Go.Proofs.YtiolkeipgpkbmaaGreatDoor
set_option linter.unusedVariables false
set_option linter.unusedSimpArgs false
set_option maxRecDepth 100000
open Go.RowKit Go.Lib Big

def FineW (l : List Int) (k : Nat) : Prop := ∀ j, j < k → 0 ≤ l.getD j 0 ∧ l.getD j 0 ≤ 1000000000
theorem fine_mem {l : List Int} {k : Nat} (h : FineW l k) (hk : k ≤ l.length) : ∀ z ∈ l.take k, 0 ≤ z ∧ z ≤ 1000000000 := fun z hz => by
  obtain ⟨i, hi, rfl⟩ := List.getElem_of_mem hz
  have hi2 : i < k := by rw [List.length_take] at hi; omega
  have := h i hi2
  rw [List.getD_eq_getElem?_getD, List.getElem?_eq_getElem (by omega : i < l.length)] at this
  simpa using this
theorem fine_sum {l : List Int} {k : Nat} (h : FineW l k) (hk : k ≤ l.length) (h40 : l.length ≤ 40) : 0 ≤ (l.take k).sum ∧ (l.take k).sum ≤ 40000000000 := by
  refine ⟨sum_nonneg fun z hz => (fine_mem h hk z hz).1, ?_⟩
  have := sum_le (l := l.take k) (M := 1000000000) fun z hz => (fine_mem h hk z hz).2
  rw [List.length_take] at this
  omega
theorem fine_all {l : List Int} (h : FineW l l.length) (h40 : ¬ 40 < l.length) : shBad l = if l.sum = 0 then 6 else 0 := by
  have h2 : l.any wBad = false := by
    rw [List.any_eq_false]
    intro z hz
    have := fine_mem h (Nat.le_refl _) z (by rw [List.take_length]; exact hz)
    unfold wBad
    simp only [decide_eq_true_eq]
    omega
  rw [shBad_def, if_neg h40, h2]
  rfl
theorem bad_one {l : List Int} {k : Nat} (hk : k < l.length) (h40 : ¬ 40 < l.length) (hx : l.getD k 0 < 0 ∨ 1000000000 < l.getD k 0) : shBad l = 1 := by
  have h2 : l.any wBad = true := by
    rw [List.any_eq_true]
    exact ⟨_, w_mem l k hk, by unfold wBad; simpa using hx⟩
  rw [shBad_def, if_neg h40, h2]
  rfl
set_option maxHeartbeats 4000000 in
theorem refShares_bad (t : Int) (a : Option Addr) (l : List Int) (cap : Nat) (w : World) (h : IsW w a l cap) (hl : l.length ≤ 9223372036854775807) (hbad : shBad l ≠ 0) :
    Calls Tryz.prog 16 #[.int .i64 t, .slice a l.length cap] w fun e w' => e = .returned (.tuple #[.slice none 0 0, .int .i64 (shBad l)]) ∧ w' = w := by
  have n0 : (0 : Int) ≤ l.length := by omega
  by_cases h1 : 40 < l.length
  · have e1 : shBad l = 4 := by rw [shBad_def, if_pos h1]
    rw [e1]
    have h1' : (40 : Int) < l.length := by omega
    clear h e1 hbad hl h1
    go_enter Tryz.func16, Tryz.ntmps16
    go_wp2
    go_ret2
    exact ⟨rfl, rfl⟩
  · have n1 : (l.length : Int) ≤ 40 := by omega
    have n2 : ¬ (40 : Int) < l.length := by omega
    have Hc : Hid (∀ k, k < l.length → ∃ b off, a = some ⟨b, off, none⟩ ∧ b < w.heap.size ∧ w.cell? ⟨b, off + k, none⟩ = some (.int .i64 (l.getD k 0))) := fun k hk => h.at hk
    obtain ⟨r, hr⟩ : ∃ r, shBad l = r := ⟨_, rfl⟩
    have HR : Hid (shBad l = r ∧ r ≠ 0) := ⟨hr, by rw [← hr]; exact hbad⟩
    have H40 : Hid (¬ 40 < l.length) := h1
    rw [hr]
    clear h hbad hr hl h1
    go_enter Tryz.func16, Tryz.ntmps16
    go_wp2
    go_loop [6, 7] (fun s i => ∃ k : Nat, k ≤ l.length ∧ i = .int .i64 k ∧ s = .int .i64 (l.take k).sum ∧ Hid (FineW l k)) (fun _ i => l.length - (RowKit.intOf i).toNat)
    case atStart => exact ⟨0, Nat.zero_le _, rfl, rfl, fun j hj => absurd hj (Nat.not_lt_zero _)⟩
    case round =>
      obtain ⟨k, hk, rfl, rfl, HF⟩ := hrel
      by_cases hlt : k < l.length
      · obtain ⟨b, off, rfl, hb, hc⟩ := Hc.out k hlt
        have Htk : Hid ((l.take (k + 1)).sum = (l.take k).sum + l.getD k 0) := take_sum l k hlt
        have Hb1 : Hid (l.getD k 0 < 0 ∨ 1000000000 < l.getD k 0 → r = 1) := fun hx => by rw [← HR.out.1]; exact bad_one hlt H40.out hx
        have Hnx : Hid (0 ≤ l.getD k 0 ∧ l.getD k 0 ≤ 1000000000 → FineW l (k + 1)) := fun hx j hj => by
          rcases (by omega : j < k ∨ j = k) with hj | rfl
          · exact HF.out j hj
          · exact hx
        obtain ⟨s0, s1⟩ := fine_sum HF.out hk (by omega)
        generalize l.getD k 0 = x at *
        generalize (l.take k).sum = s at *
        have i0 : (0 : Int) ≤ k := by omega
        have i1 : (k : Int) < l.length := by omega
        by_cases x2 : x < 0
        · have er := Hb1.out (.inl x2)
          subst er
          clear Hb1 Hnx HF HR Hc H40
          go_wp2
          go_ret2
          exact ⟨rfl, rfl⟩
        · by_cases x3 : 1000000000 < x
          · have er := Hb1.out (.inr x3)
            subst er
            clear Hb1 Hnx HF HR Hc H40
            go_wp2
            go_ret2
            exact ⟨rfl, rfl⟩
          · have HF2 : Hid (FineW l (k + 1)) := Hnx.out ⟨by omega, by omega⟩
            clear Hb1 Hnx HF
            go_wp2
            go_round
            case rel => exact ⟨k + 1, by omega, by go_num, by rw [Htk.out], HF2⟩
            case measure => simp [RowKit.intOf]; omega
      · have hk2 : k = l.length := by omega
        subst hk2
        have he := fine_all HF.out H40.out
        rw [List.take_length]
        have hs0 : l.sum = 0 := by
          apply Classical.byContradiction
          intro hne
          rw [if_neg hne] at he
          exact HR.out.2 (by rw [← HR.out.1]; exact he)
        rw [if_pos hs0] at he
        have er : r = 6 := by rw [← HR.out.1]; exact he
        subst er
        rw [hs0]
        have hnk : ¬ (l.length : Int) < l.length := by omega
        clear he hs0 HR Hc HF H40 hlt hk
        go_wp2
        go_ret2
        exact ⟨rfl, rfl⟩
end Go.Proofs.YtiolkeipgpkbmaaGreatDoor
