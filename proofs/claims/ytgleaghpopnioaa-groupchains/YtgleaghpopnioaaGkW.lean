/-
  The walk of GroupChains.
-/
import Derived.Test.YtgleaghpopnioaaGk0
namespace Go.Proofs.Ytgleaghpopnioaa
set_option linter.unusedVariables false
set_option linter.unusedSimpArgs false
set_option maxRecDepth 100000
open Go.RowKit Go.Lib

theorem cl3_get (a b c : Int) (k : Nat) (x : Ho) (h : (cl3 a b c)[k]? = some x) : (cl3 a b c).getD k ho0 = x := by
  rw [List.getD_eq_getElem?_getD, h]; rfl

set_option maxHeartbeats 8000000 in
theorem chains_walk (a b c : Int) (w : World) :
    Calls Try.prog 3 #[.int .i64 a, .int .i64 b, .int .i64 c] w fun e w' => e = .returned (.bool true) ∧ Below w.heap.size w w' := by
  by_cases a1 : a < 1
  · go_enter Try.func3, Try.ntmps3
    go_wp2
    go_ret
    exact ⟨rfl, Below.refl _ _⟩
  by_cases a2 : 1000 < a
  · go_enter Try.func3, Try.ntmps3
    go_wp2
    go_ret
    exact ⟨rfl, Below.refl _ _⟩
  by_cases b1 : b < 1
  · go_enter Try.func3, Try.ntmps3
    go_wp2
    go_ret
    exact ⟨rfl, Below.refl _ _⟩
  by_cases b2 : 1000 < b
  · go_enter Try.func3, Try.ntmps3
    go_wp2
    go_ret
    exact ⟨rfl, Below.refl _ _⟩
  by_cases c1 : c < 1
  · go_enter Try.func3, Try.ntmps3
    go_wp2
    go_ret
    exact ⟨rfl, Below.refl _ _⟩
  by_cases c2 : 1000 < c
  · go_enter Try.func3, Try.ntmps3
    go_wp2
    go_ret
    exact ⟨rfl, Below.refl _ _⟩
  have ok : hBad (cl3 a b c) = 0 := cl3_ok (by omega) (by omega) (by omega)
  obtain ⟨W0, hW0⟩ : ∃ W0, w.alloc (.cells #[.int .i64 1, .int .i64 2, .int .i64 a, .int .i64 2, .int .i64 3, .int .i64 b, .int .i64 4, .int .i64 5, .int .i64 c] 23) = W0 := ⟨_, rfl⟩
  have hb0 : Below w.heap.size w W0 := by rw [← hW0]; exact (Below.refl _ w).alloc (Nat.le_refl _) _
  have his : IsHo W0 (some ⟨w.heap.size, 0, none⟩) (cl3 a b c) 3 := by
    refine ⟨Nat.le_refl _, .inr ⟨w.heap.size, 0, rfl, by rw [← hW0]; simp, fun k hk => ?_⟩⟩
    rw [← hW0]
    rcases (by simp [cl3] at hk; omega : k = 0 ∨ k = 1 ∨ k = 2) with rfl | rfl | rfl
    · exact ⟨by simp [cl3], by simp [cl3], by simp [cl3]⟩
    · exact ⟨by simp [cl3], by simp [cl3], by simp [cl3]⟩
    · exact ⟨by simp [cl3], by simp [cl3], by simp [cl3]⟩
  have HP : Hid (∀ (top : Int) W, 1 ≤ top → top ≤ 12 → Below W0.heap.size W0 W → Calls Try.prog 4 #[.slice (some ⟨w.heap.size, 0, none⟩) 3 3, .int .i64 top] W fun e w' => ∃ g, e = .returned (.tuple #[.slice (some ⟨g, 0, none⟩) 12 12, .nilIface]) ∧ W.heap.size ≤ g ∧ NRow w' g (ptsL (cl3 a b c) top) ∧ Below W.heap.size W w') := fun top W h1 h2 hW => by
    refine (grParts_any _ 3 (cl3 a b c) top W (by simp [cl3]) (his.below hW)).mono ?_
    rintro e w' ⟨hb, _, h⟩
    obtain ⟨g, e1, e2, e3⟩ := h (ptsBad_ok.2 ⟨ok, h1, h2⟩)
    exact ⟨g, e1, e2, e3, hb⟩
  have HW0 : Hid (w.alloc (.cells #[.int .i64 1, .int .i64 2, .int .i64 a, .int .i64 2, .int .i64 3, .int .i64 b, .int .i64 4, .int .i64 5, .int .i64 c] 23) = W0) := hW0
  have HB0 : Hid (Below w.heap.size w W0) := hb0
  have hprod : 0 ≤ a * b := Int.mul_nonneg (by omega) (by omega)
  have hprod2 : a * b ≤ 1000 * 1000 := Int.mul_le_mul (by omega) (by omega) (by omega) (by omega)
  clear his ok hb0 hW0
  go_enter Try.func3, Try.ntmps3
  go_upto_region 4 with fail
  rw [HW0.out]
  go_wp2_with fail
  refine (HP.out 1 W0 (by decide) (by decide) (Below.refl _ _)).mono ?_
  rintro e w1 ⟨g1, rfl, hg1, hr1, hb1⟩
  have HR1 : Hid (NRow w1 g1 (ptsL (cl3 a b c) 1)) := hr1
  have HB1 : Hid (Below W0.heap.size W0 w1) := hb1
  clear hr1 hb1
  go_wp2_with fail
  refine (HP.out 2 w1 (by decide) (by decide) HB1.out).mono ?_
  rintro e w2 ⟨g2, rfl, hg2, hr2, hb2⟩
  have HR2 : Hid (NRow w2 g2 (ptsL (cl3 a b c) 2)) := hr2
  have HR12 : Hid (NRow w2 g1 (ptsL (cl3 a b c) 1)) := HR1.out.belowS hb2 HR1.out.ltS
  have HB2 : Hid (Below w.heap.size w w2) := (HB0.out.trans (HB1.out.mono HB0.out.size)).trans (hb2.mono (Nat.le_trans HB0.out.size HB1.out.size))
  clear hr2 hb2 HR1 HB1 HP HW0
  have l1 := ptsL_len (cl3 a b c) 1
  have l2 := ptsL_len (cl3 a b c) 2
  have p0 := HR12.out.cell (i := 0) (by omega)
  have p1 := HR12.out.cell (i := 1) (by omega)
  have p2 := HR12.out.cell (i := 2) (by omega)
  have p3 := HR12.out.cell (i := 3) (by omega)
  have p4 := HR12.out.cell (i := 4) (by omega)
  have z0 := HR2.out.cell (i := 0) (by omega)
  have z2 := HR2.out.cell (i := 2) (by omega)
  rw [ptsL_get _ _ _ (by decide)] at p0 p1 p2 p3 p4 z0 z2
  have v0 : pv (cl3 a b c) 1 ((cl3 a b c).length + 1) (((0 + 1 : Nat)) : Int) = 1000 := cl3_11
  have v1 : pv (cl3 a b c) 1 ((cl3 a b c).length + 1) (((1 + 1 : Nat)) : Int) = a := cl3_12 3
  have v2 : pv (cl3 a b c) 1 ((cl3 a b c).length + 1) (((2 + 1 : Nat)) : Int) = a * b / 1000 := cl3_13
  have v3 : pv (cl3 a b c) 1 ((cl3 a b c).length + 1) (((3 + 1 : Nat)) : Int) = 0 := cl3_14
  have v4 : pv (cl3 a b c) 1 ((cl3 a b c).length + 1) (((4 + 1 : Nat)) : Int) = 0 := cl3_15
  have y0 : pv (cl3 a b c) 2 ((cl3 a b c).length + 1) (((0 + 1 : Nat)) : Int) = 0 := cl3_21
  have y2 : pv (cl3 a b c) 2 ((cl3 a b c).length + 1) (((2 + 1 : Nat)) : Int) = b := cl3_23
  rw [v0] at p0
  rw [v1] at p1
  rw [v2] at p2
  rw [v3] at p3
  rw [v4] at p4
  rw [y0] at z0
  rw [y2] at z2
  clear v0 v1 v2 v3 v4 y0 y2 l1 l2 HR12 HR2
  go_wp2
  go_ret
  exact ⟨rfl, HB2.out⟩
end Go.Proofs.Ytgleaghpopnioaa
