/-
  The contract of revalue.Worth.
-/
import Derived.Test.YtbbegoklikaphaaZs9
import Derived.Sort.Grow
import Derived.Deep.CutRange
import Derived.Deep.CutBlock
import Derived.WalkLawsBesides
import Derived.Test.YtbbegoklikaphaaProg
import Derived.WalkKit
import Derived.WalkSpells
import Derived.Lib.OthersKept
import Derived.Laws.NewBlocks
import Derived.Below
import Derived.Test.YtbbegoklikaphaaZs2
import Derived.Test.YtbbegoklikaphaaZs4
import Derived.Deep.OwnRows
import Derived.Shelf.Abstract
namespace Go.Proofs.Ytbbegoklikaphaa
set_option linter.unusedVariables false
set_option linter.unusedSimpArgs false
set_option maxRecDepth 100000
open Go.RowKit Go.Lib

theorem ldNaN_any (s : ByteArray) (w : World) :
    Calls Try.prog 72 #[.string s] w fun e w' => e = .returned (.bool false) ∧ w' = w := by
  go_enter Try.func72, Try.ntmps72
  go_wp2
  go_ret
  exact ⟨rfl, rfl⟩

theorem ldCompare_any (a b : ByteArray) (w : World) :
    Calls Try.prog 56 #[.string a, .string b] w fun e w' => e = .returned (.int .i64 (cmpS a b)) ∧ w' = w := by
  cases h1 : Op.bytesLess a.toList b.toList
  · cases h2 : (a.toList == b.toList)
    · have er : cmpS a b = 1 := by simp only [cmpS]; rw [h1, h2]; rfl
      rw [er]
      have h2' : ¬ a.toList = b.toList := by simpa using h2
      clear er
      go_enter Try.func56, Try.ntmps56
      go_wp2_with (go_at_call 72; refine (ldNaN_any _ _).mono ?_; rintro e w' ⟨rfl, rfl⟩)
      go_ret
      exact ⟨rfl, rfl⟩
    · have er : cmpS a b = 0 := by simp only [cmpS]; rw [h1, h2]; rfl
      rw [er]
      have h2' : a = b := toList_inj (by simpa using h2)
      subst h2'
      clear er h2
      go_enter Try.func56, Try.ntmps56
      go_wp2_with (go_at_call 72; refine (ldNaN_any _ _).mono ?_; rintro e w' ⟨rfl, rfl⟩)
      go_ret
      exact ⟨rfl, rfl⟩
  · have er : cmpS a b = -1 := by simp only [cmpS]; rw [h1]; rfl
    rw [er]
    clear er
    go_enter Try.func56, Try.ntmps56
    go_wp2_with (go_at_call 72; refine (ldNaN_any _ _).mono ?_; rintro e w' ⟨rfl, rfl⟩)
    go_ret
    exact ⟨rfl, rfl⟩


theorem ldNaNI_any (n : Int) (w : World) :
    Calls Try.prog 71 #[.int .i64 n] w fun e w' => e = .returned (.bool false) ∧ w' = w := by
  go_enter Try.func71, Try.ntmps71
  go_wp2
  go_ret
  exact ⟨rfl, rfl⟩
theorem ldCompareI_any (a b : Int) (w : World) :
    Calls Try.prog 55 #[.int .i64 a, .int .i64 b] w fun e w' => e = .returned (.int .i64 (cmpI a b)) ∧ w' = w := by
  by_cases h1 : a < b
  · have er : cmpI a b = -1 := if_pos h1
    rw [er]
    go_enter Try.func55, Try.ntmps55
    go_wp2_with (go_at_call 71; refine (ldNaNI_any _ _).mono ?_; rintro e w' ⟨rfl, rfl⟩)
    go_ret
    exact ⟨rfl, rfl⟩
  · by_cases h2 : b < a
    · have er : cmpI a b = 1 := by unfold cmpI; rw [if_neg h1, if_pos h2]
      rw [er]
      go_enter Try.func55, Try.ntmps55
      go_wp2_with (go_at_call 71; refine (ldNaNI_any _ _).mono ?_; rintro e w' ⟨rfl, rfl⟩)
      go_ret
      exact ⟨rfl, rfl⟩
    · have er : cmpI a b = 0 := by unfold cmpI; rw [if_neg h1, if_neg h2]
      rw [er]
      go_enter Try.func55, Try.ntmps55
      go_wp2_with (go_at_call 71; refine (ldNaNI_any _ _).mono ?_; rintro e w' ⟨rfl, rfl⟩)
      go_ret
      exact ⟨rfl, rfl⟩

theorem ldOr3_any (b : Nat) (x y z : Int) (w : World) (h0 : w.cell? ⟨b, 0, none⟩ = some (.int .i64 x)) (h1 : w.cell? ⟨b, 1, none⟩ = some (.int .i64 y)) (h2 : w.cell? ⟨b, 2, none⟩ = some (.int .i64 z)) :
    Calls Try.prog 54 #[.slice (some ⟨b, 0, none⟩) 3 3] w fun e w' => e = .returned (.int .i64 (if x ≠ 0 then x else if y ≠ 0 then y else z)) ∧ w' = w := by
  by_cases hx : x = 0
  · subst hx
    rw [if_neg (by simp)]
    by_cases hy : y = 0
    · subst hy
      rw [if_neg (by simp)]
      by_cases hz : z = 0
      · subst hz
        go_enter Try.func54, Try.ntmps54
        go_wp2
        refine wp_loop_rounds 4 ?_
        rw [rounds_succ]
        go_wp2
        rw [rounds_succ]
        go_wp2
        rw [rounds_succ]
        go_wp2
        rw [rounds_succ]
        go_wp2
        go_ret
        exact ⟨rfl, rfl⟩
      · have hz' : (z != 0) = true := by simp [hz]
        go_enter Try.func54, Try.ntmps54
        go_wp2
        refine wp_loop_rounds 4 ?_
        rw [rounds_succ]
        go_wp2
        rw [rounds_succ]
        go_wp2
        rw [rounds_succ]
        go_wp2
        go_ret
        exact ⟨rfl, rfl⟩
    · rw [if_pos hy]
      have hy' : (y != 0) = true := by simp [hy]
      go_enter Try.func54, Try.ntmps54
      go_wp2
      refine wp_loop_rounds 4 ?_
      rw [rounds_succ]
      go_wp2
      rw [rounds_succ]
      go_wp2
      go_ret
      exact ⟨rfl, rfl⟩
  · rw [if_pos hx]
    have hx' : (x != 0) = true := by simp [hx]
    go_enter Try.func54, Try.ntmps54
    go_wp2
    refine wp_loop_rounds 4 ?_
    rw [rounds_succ]
    go_wp2
    go_ret
    exact ⟨rfl, rfl⟩

theorem ld_cell_new (W : World) (ROW : Array Value) (t : TypeId) (b j : Nat) (v : Value) (hb : b = W.heap.size) (hv : ROW[j]? = some v) : ((W.alloc (.cells ROW t)).drew).cell? ⟨b, j, none⟩ = some v :=
  (World.cell?_alloc_at (w := W) ROW t b j hb).trans hv


set_option maxHeartbeats 4000000 in
theorem ldCompareB_at (x y : Bl) (w : World) :
    Calls Try.prog 41 #[.agg x.cells, .agg y.cells] w fun e w' => e = .returned (.int .i64 (cmpB x y)) ∧ ∃ q os, w' = Sort.grow (w.drewN q) os := by
  obtain ⟨x0, x1, x2, x3⟩ := x
  obtain ⟨y0, y1, y2, y3⟩ := y
  simp only [Bl.cells, cmpB]
  obtain ⟨V, hV⟩ : ∃ V, (w.alloc (.cells #[.int .i64 x0, .string x1, .string x2, .int .i64 x3] 34)).alloc (.cells #[.int .i64 y0, .string y1, .string y2, .int .i64 y3] 34) = V := ⟨_, rfl⟩
  have c0 : ((V.alloc (.cells #[.int .i64 (cmpI x0 y0), .int .i64 (cmpS x1 y1), .int .i64 (cmpS x2 y2)] 3)).drew).cell? ⟨w.heap.size + 1 + 1, 0, none⟩ = some (.int .i64 (cmpI x0 y0)) := ld_cell_new _ _ _ _ _ _ (by rw [← hV]; simp) rfl
  have c1 : ((V.alloc (.cells #[.int .i64 (cmpI x0 y0), .int .i64 (cmpS x1 y1), .int .i64 (cmpS x2 y2)] 3)).drew).cell? ⟨w.heap.size + 1 + 1, 1, none⟩ = some (.int .i64 (cmpS x1 y1)) := ld_cell_new _ _ _ _ _ _ (by rw [← hV]; simp) rfl
  have c2 : ((V.alloc (.cells #[.int .i64 (cmpI x0 y0), .int .i64 (cmpS x1 y1), .int .i64 (cmpS x2 y2)] 3)).drew).cell? ⟨w.heap.size + 1 + 1, 2, none⟩ = some (.int .i64 (cmpS x2 y2)) := ld_cell_new _ _ _ _ _ _ (by rw [← hV]; simp) rfl
  have hO := ldOr3_any _ _ _ _ _ c0 c1 c2
  have bl : ∃ q os, ((V.alloc (.cells #[.int .i64 (cmpI x0 y0), .int .i64 (cmpS x1 y1), .int .i64 (cmpS x2 y2)] 3)).drew) = Sort.grow (w.drewN q) os := by
    rw [← hV]
    exact ⟨1, _, by rw [Sort.alloc_eq_grow, Sort.alloc_eq_grow, Sort.alloc_eq_grow, Sort.grow_grow, Sort.grow_grow, Sort.drew_grow]; rfl⟩
  subst hV
  clear c0 c1 c2
  obtain ⟨r, hr⟩ : ∃ r, (if cmpI x0 y0 ≠ 0 then cmpI x0 y0 else if cmpS x1 y1 ≠ 0 then cmpS x1 y1 else cmpS x2 y2) = r := ⟨_, rfl⟩
  rw [hr] at hO ⊢
  clear hr
  go_enter Try.func41, Try.ntmps41
  go_wp2
  go_region_held3 (fun u => (u.cell? ⟨w.heap.size, 0, none⟩ = some (.int .i64 x0) ∧ u.cell? ⟨w.heap.size, 1, none⟩ = some (.string x1) ∧ u.cell? ⟨w.heap.size, 2, none⟩ = some (.string x2)) ∧ u.cell? ⟨w.heap.size + 1, 0, none⟩ = some (.int .i64 y0) ∧ u.cell? ⟨w.heap.size + 1, 1, none⟩ = some (.string y1) ∧ u.cell? ⟨w.heap.size + 1, 2, none⟩ = some (.string y2)) (go_keep) (first | (go_at_call 55; refine (ldCompareI_any _ _ _).mono ?_; rintro e w' ⟨rfl, rfl⟩) | (go_at_call 56; refine (ldCompare_any _ _ _).mono ?_; rintro e w' ⟨rfl, rfl⟩) | (go_at_call 54; refine hO.mono ?_; rintro e w' ⟨rfl, rfl⟩))
  all_goals
    go_wp2
    go_ret
    exact ⟨rfl, bl⟩

theorem grow_below (w : World) (q : Nat) (os : Array Obj) : Below w.heap.size w (Sort.grow (w.drewN q) os) :=
  ⟨rfl, rfl, rfl, by rw [Sort.size_grow]; exact Nat.le_add_right _ _, fun b hb => Sort.heap_grow_old (w.drewN q) os hb⟩
theorem ldCompareB_any (x y : Bl) (w : World) :
    Calls Try.prog 41 #[.agg x.cells, .agg y.cells] w fun e w' => e = .returned (.int .i64 (cmpB x y)) ∧ Below w.heap.size w w' :=
  (ldCompareB_at x y w).mono fun e w' ⟨h, q, os, hw⟩ => ⟨h, by rw [hw]; exact grow_below w q os⟩
theorem isWithin_any (n m : Int) (hm : -9223372036854775808 ≤ -m ∧ -m ≤ 9223372036854775807) (w : World) :
    Calls Try.prog 25 #[.int .i64 n, .int .i64 m] w fun e w' => e = .returned (.bool (decide (-m ≤ n ∧ n ≤ m))) ∧ w' = w := by
  have hw : IntKind.i64.wrap (-m) = -m := by
    simp only [IntKind.wrap, IntKind.bits, IntKind.signed]
    simp
    omega
  by_cases h1 : -m ≤ n
  · by_cases h2 : n ≤ m
    · rw [decide_eq_true ⟨h1, h2⟩]
      go_enter Try.func25, Try.ntmps25
      go_wp2
      go_ret
      exact ⟨rfl, rfl⟩
    · rw [decide_eq_false (fun h => h2 h.2)]
      go_enter Try.func25, Try.ntmps25
      go_wp2
      go_ret
      exact ⟨rfl, rfl⟩
  · rw [decide_eq_false (fun h => h1 h.1)]
    go_enter Try.func25, Try.ntmps25
    go_wp2
    go_ret
    exact ⟨rfl, rfl⟩
end Go.Proofs.Ytbbegoklikaphaa

namespace Go.Proofs.Ytbbegoklikaphaa
set_option linter.unusedVariables false
set_option linter.unusedSimpArgs false
set_option maxRecDepth 100000
open Go.RowKit Go.Lib
theorem IsBl.some {w : World} {a : Option Addr} {l : List Bl} {cap k : Nat} (h : IsBl w a l cap) (hk : k < l.length) : ∃ b off, a = some ⟨b, off, none⟩ ∧ b < w.heap.size ∧ BlsAt w b off l := by
  rcases h.lies with h | h
  · rw [h] at hk; simp at hk
  · exact h

set_option maxHeartbeats 4000000 in
theorem ldCheck_any (a : Option Addr) (cap : Nat) (l : List Bl) (w : World) (hlen : l.length ≤ 9223372036854775807) (h : IsBl w a l cap) :
    Calls Try.prog 21 #[.slice a l.length cap] w fun e w' => e = .returned (enE (chk l)) ∧ Below w.heap.size w w' := by
  by_cases h2 : 200 < l.length
  · have e4 : chk l = 4 := if_pos h2
    rw [e4, enE_ne (by decide)]
    have i1 : (200 : Int) < l.length := by omega
    clear h e4
    go_enter Try.func21, Try.ntmps21
    go_wp2
    go_ret
    exact ⟨rfl, Below.refl _ _⟩
  have i1 : ¬ (200 : Int) < l.length := by omega
  have i2 : (l.length : Int) ≤ 200 := by omega
  obtain ⟨res, hres⟩ : ∃ res, enE (chk l) = res := ⟨_, rfl⟩
  have Hres : Hid (enE (chkTo l l.length) = res) := by
    rw [← hres]; unfold chk; rw [if_neg h2]; exact rfl
  rw [hres]
  clear hres
  have HL : Hid (IsBl w a l cap) := h
  clear h
  go_enter Try.func21, Try.ntmps21
  go_wp2
  go_loopw [11] (fun i wr => ∃ k : Nat, k ≤ l.length ∧ i = .int .i64 k ∧ Hid (chkTo l k = 0) ∧ Hid (Below w.heap.size w wr)) (fun i _ => l.length - (RowKit.intOf i).toNat)
  case atStart => exact ⟨0, Nat.zero_le _, rfl, rfl, Below.refl _ _⟩
  case round =>
    obtain ⟨k, hk, rfl, H0, HB⟩ := hrel
    by_cases hlt : k < l.length
    · obtain ⟨b, off, rfl, hb, hc⟩ := HL.out.some hlt
      have hy := (hc k hlt).below HB.out hb
      have i0 : (0 : Int) ≤ k := by omega
      have i3 : (k : Int) < l.length := by omega
      have HC : Hid (BlsAt w b off l) := hc
      have HY : Hid (l.getD k bl0 = l.getD k bl0) := rfl
      obtain ⟨y, hyy⟩ : ∃ y, l.getD k bl0 = y := ⟨_, rfl⟩
      have HYY : Hid (l.getD k bl0 = y) := hyy
      rw [hyy] at hy
      clear hyy hc HY
      obtain ⟨y0, y1, y2, y3⟩ := y
      obtain ⟨d0, d1, d2, d3⟩ := hy
      simp only at d0 d1 d2 d3
      obtain ⟨W1, hW1⟩ : ∃ W1, wr.alloc (.cells #[.int .i64 y0, .string y1, .string y2, .int .i64 y3] 34) = W1 := ⟨_, rfl⟩
      have hbx : W1.heap[wr.heap.size]? = some (.cells #[.int .i64 y0, .string y1, .string y2, .int .i64 y3] 34 (0, 0)) := by rw [← hW1]; unfold World.alloc; simp only [Array.getElem?_push_size]
      have HB1 : Hid (Below w.heap.size w W1) := by rw [← hW1]; exact HB.out.alloc HB.out.size _
      have HX : Hid (∀ U, Below W1.heap.size W1 U → U.cell? ⟨wr.heap.size, 0, none⟩ = some (.int .i64 y0) ∧ U.cell? ⟨wr.heap.size, 1, none⟩ = some (.string y1) ∧ U.cell? ⟨wr.heap.size, 2, none⟩ = some (.string y2) ∧ U.cell? ⟨wr.heap.size, 3, none⟩ = some (.int .i64 y3)) := fun U hU => by
        have hlt' : wr.heap.size < W1.heap.size := (Array.getElem?_eq_some_iff.1 hbx).1
        have e := (hU.block _ hlt').trans hbx
        simp [World.cell?, e]
      have HW1 : Hid (wr.alloc (.cells #[.int .i64 y0, .string y1, .string y2, .int .i64 y3] 34) = W1) := hW1
      have HSz : Hid (wr.heap.size < W1.heap.size) := (Array.getElem?_eq_some_iff.1 hbx).1
      clear hW1 hbx
      go_upto_region 6 with fail
      rw [HW1.out]
      clear HW1 d0 d1 d2 d3
      obtain ⟨B, hB⟩ : ∃ B, wr.heap.size = B := ⟨_, rfl⟩
      rw [hB] at HX HSz ⊢
      clear hB HB
      go_cut [16] from 17 to 28 (fun t wx => t = .bool (decide (0 < k ∧ ¬ cmpB (l.getD (k - 1) bl0) ⟨y0, y1, y2, y3⟩ < 0)) ∧ Hid (Below W1.heap.size W1 wx))
      case first =>
        rcases k with _ | m
        · obtain ⟨f0, f1, f2, f3⟩ := HX.out W1 (Below.refl _ _)
          go_wp2_with fail
          go_quiet (fail)
          rename Nat => nk
          have HZ : Hid (Below W1.heap.size W1 (W1.drewN nk)) := en_drewN (Below.refl _ _) nk
          go_wp2
          go_meet
          case rel => exact ⟨by simp, HZ⟩
        · have hx := (HC.out m (by omega)).below HB1.out hb
          have er : (0 < m + 1 ∧ ¬ cmpB (l.getD (m + 1 - 1) bl0) ⟨y0, y1, y2, y3⟩ < 0) ↔ ¬ cmpB (l.getD m bl0) ⟨y0, y1, y2, y3⟩ < 0 := by
            rw [Nat.add_sub_cancel]
            exact ⟨fun h => h.2, fun h => ⟨by omega, h⟩⟩
          have HER : Hid (decide (0 < m + 1 ∧ ¬ cmpB (l.getD (m + 1 - 1) bl0) ⟨y0, y1, y2, y3⟩ < 0) = decide (0 ≤ cmpB (l.getD m bl0) ⟨y0, y1, y2, y3⟩)) := by
            unfold Hid
            rw [decide_eq_decide, er]
            omega
          clear er
          have HCm : Hid (∀ W, Calls Try.prog 41 #[.agg (l.getD m bl0).cells, .agg (Bl.mk y0 y1 y2 y3).cells] W fun e w' => e = .returned (.int .i64 (cmpB (l.getD m bl0) ⟨y0, y1, y2, y3⟩)) ∧ Below W.heap.size W w') := fun W => ldCompareB_any _ _ W
          generalize l.getD m bl0 = x at hx HER HCm
          generalize cmpB x ⟨y0, y1, y2, y3⟩ = c at *
          obtain ⟨x0, x1, x2, x3⟩ := x
          obtain ⟨d0, d1, d2, d3⟩ := hx
          obtain ⟨f0, f1, f2, f3⟩ := HX.out W1 (Below.refl _ _)
          simp only [Bl.cells] at d0 d1 d2 d3 f0 f1 f2 f3 HCm
          have hbW : b < W1.heap.size := Nat.lt_of_lt_of_le hb HB1.out.size
          have hBW := HSz.out
          have HK : Hid (∀ W V, Below W.heap.size W V → b < W.heap.size → B < W.heap.size → (W.cell? ⟨b, off + m * 4, none⟩ = some (.int .i64 x0) ∧ W.cell? ⟨b, off + m * 4 + 1, none⟩ = some (.string x1) ∧ W.cell? ⟨b, off + m * 4 + 2, none⟩ = some (.string x2) ∧ W.cell? ⟨b, off + m * 4 + 3, none⟩ = some (.int .i64 x3)) ∧ W.cell? ⟨B, 0, none⟩ = some (.int .i64 y0) ∧ W.cell? ⟨B, 1, none⟩ = some (.string y1) ∧ W.cell? ⟨B, 2, none⟩ = some (.string y2) ∧ W.cell? ⟨B, 3, none⟩ = some (.int .i64 y3) → (V.cell? ⟨b, off + m * 4, none⟩ = some (.int .i64 x0) ∧ V.cell? ⟨b, off + m * 4 + 1, none⟩ = some (.string x1) ∧ V.cell? ⟨b, off + m * 4 + 2, none⟩ = some (.string x2) ∧ V.cell? ⟨b, off + m * 4 + 3, none⟩ = some (.int .i64 x3)) ∧ V.cell? ⟨B, 0, none⟩ = some (.int .i64 y0) ∧ V.cell? ⟨B, 1, none⟩ = some (.string y1) ∧ V.cell? ⟨B, 2, none⟩ = some (.string y2) ∧ V.cell? ⟨B, 3, none⟩ = some (.int .i64 y3)) := fun W V hB hlt hlt2 hh => by
            have C : ∀ o, V.cell? ⟨b, o, none⟩ = W.cell? ⟨b, o, none⟩ := fun o => hB.cell (p := ⟨b, o, none⟩) hlt
            have C2 : ∀ o, V.cell? ⟨B, o, none⟩ = W.cell? ⟨B, o, none⟩ := fun o => hB.cell (p := ⟨B, o, none⟩) hlt2
            simp only [C, C2]
            exact hh
          have j0 : (0 : Int) ≤ m := by omega
          have j1 : (m : Int) + 1 < l.length := by omega
          have j2 : (m : Int) < l.length := by omega
          have i6 : (m : Int) + 1 - 1 = m := by omega
          have i7 : ((m : Int) + 1).toNat = m + 1 := by omega
          have i8 : (0 : Int) ≤ (m : Int) + 1 := by omega
          have i9 : (0 : Int) < (m : Int) + 1 := by omega
          have iw1 : IntKind.i64.wrap (m : Int) = m := by
            simp only [IntKind.wrap, IntKind.bits, IntKind.signed]
            simp
            omega
          have iw2 : IntKind.i64.wrap ((m : Int) + 1 - 1) = m := by rw [i6, iw1]
          clear HX HC HYY HB1 HL HSz H0 Hres i0 i3
          go_wp2_with fail
          go_region_held3 (fun u => (u.cell? ⟨b, off + m * 4, none⟩ = some (.int .i64 x0) ∧ u.cell? ⟨b, off + m * 4 + 1, none⟩ = some (.string x1) ∧ u.cell? ⟨b, off + m * 4 + 2, none⟩ = some (.string x2) ∧ u.cell? ⟨b, off + m * 4 + 3, none⟩ = some (.int .i64 x3)) ∧ u.cell? ⟨B, 0, none⟩ = some (.int .i64 y0) ∧ u.cell? ⟨B, 1, none⟩ = some (.string y1) ∧ u.cell? ⟨B, 2, none⟩ = some (.string y2) ∧ u.cell? ⟨B, 3, none⟩ = some (.int .i64 y3)) (go_keep) (first | (go_at_call 41; refine (HCm.out _).mono ?_; rintro e w' ⟨rfl, hb'⟩; obtain ⟨⟨p0, p1, p2, p3⟩, p4, p5, p6, p7⟩ := HK.out _ _ hb' (by simpa using hbW) (by simpa using hBW) (by simpa using ⟨⟨d0, d1, d2, d3⟩, f0, f1, f2, f3⟩)))
          all_goals
            go_wp2
            go_meet
            case rel => exact ⟨by rw [HER.out], (Below.refl _ _).drew.trans hb'⟩
      case rest =>
        obtain ⟨rfl, HBc⟩ := hcut
        obtain ⟨f0, f1, f2, f3⟩ := HX.out wc HBc.out
        have HBw : Hid (Below w.heap.size w wc) := HB1.out.trans (HBc.out.mono HB1.out.size)
        have HIs : Hid (Calls Try.prog 25 #[.int .i64 y3, .int .i64 1000000000000000000] wc fun e w' => e = .returned (.bool (decide (-1000000000000000000 ≤ y3 ∧ y3 ≤ 1000000000000000000))) ∧ w' = wc) := isWithin_any y3 1000000000000000000 (by decide) wc
        have HA : Hid (chkAt l k = if 0 < k ∧ ¬ cmpB (l.getD (k - 1) bl0) ⟨y0, y1, y2, y3⟩ < 0 then 5 else if ¬ (-1000000000000000000 ≤ y3 ∧ y3 ≤ 1000000000000000000) then 1 else if y3 = 0 then 3 else 0) := by
          unfold chkAt
          rw [HYY.out]
          exact rfl
        have HRet : Hid (∀ c, c ≠ 0 → chkAt l k = c → res = enE c) := fun c h0 h1 => by
          rw [← Hres.out, chkTo_first H0.out (by rw [h1]; exact h0) hlt, h1]
        clear HX HBc HB1 HC HYY HL
        by_cases c1 : 0 < k ∧ ¬ cmpB (l.getD (k - 1) bl0) ⟨y0, y1, y2, y3⟩ < 0
        · have e5 : res = enE 5 := HRet.out 5 (by decide) (by rw [HA.out, if_pos c1])
          rw [decide_eq_true c1]
          rw [enE_ne (by decide)] at e5
          subst e5
          clear HA HRet c1 Hres
          go_wp2
          go_ret
          exact ⟨rfl, HBw.out⟩
        · rw [decide_eq_false c1]
          by_cases c2 : -1000000000000000000 ≤ y3 ∧ y3 ≤ 1000000000000000000
          · rw [decide_eq_true c2] at HIs
            by_cases c3 : y3 = 0
            · have e5 : res = enE 3 := HRet.out 3 (by decide) (by rw [HA.out, if_neg c1, if_neg (by simpa using c2), if_pos c3])
              rw [enE_ne (by decide)] at e5
              subst e5
              subst c3
              clear HA HRet c1 Hres c2
              go_wp2_with (go_at_call 25; refine HIs.out.mono ?_; rintro e w' ⟨rfl, rfl⟩)
              go_ret
              exact ⟨rfl, HBw.out⟩
            · have e0 : chkTo l (k + 1) = 0 := by
                unfold chkTo
                rw [if_neg (by simp [H0.out]), HA.out, if_neg c1, if_neg (by simpa using c2), if_neg c3]
              have HE : Hid (chkTo l (k + 1) = 0) := e0
              have c3' : (y3 == 0) = false := by rw [beq_eq_false_iff_ne]; exact c3
              clear HA HRet c1 e0 c2
              go_wp2_with (go_at_call 25; refine HIs.out.mono ?_; rintro e w' ⟨rfl, rfl⟩)
              go_roundw
              case rel => exact ⟨k + 1, by omega, by go_num, HE, HBw⟩
              case measure => simp [RowKit.intOf]; omega
          · rw [decide_eq_false c2] at HIs
            have e5 : res = enE 1 := HRet.out 1 (by decide) (by rw [HA.out, if_neg c1, if_pos c2])
            rw [enE_ne (by decide)] at e5
            subst e5
            clear HA HRet c1 Hres
            go_wp2_with (go_at_call 25; refine HIs.out.mono ?_; rintro e w' ⟨rfl, rfl⟩)
            go_ret
            exact ⟨rfl, HBw.out⟩
    · have hk2 : k = l.length := by omega
      subst hk2
      have e5 : res = enE 0 := by rw [← Hres.out, H0.out]
      rw [enE_zero] at e5
      subst e5
      clear Hres
      go_wp2
      go_ret
      exact ⟨rfl, HB.out⟩
end Go.Proofs.Ytbbegoklikaphaa

namespace Go.Proofs.Ytbbegoklikaphaa
set_option linter.unusedVariables false
set_option linter.unusedSimpArgs false
set_option maxRecDepth 100000
open Go.RowKit Go.Lib

/-- A row of numbers. -/
def NRow (w : World) (g : Nat) (r : List Int) : Prop := w.heap[g]? = some (.cells (r.map (Value.int .i64)).toArray 3 (0, 0))
theorem NRow.cell {w : World} {g : Nat} {r : List Int} (h : NRow w g r) {i : Nat} (hi : i < r.length) : w.cell? ⟨g, i, none⟩ = some (.int .i64 (r.getD i 0)) := by
  unfold NRow at h
  simp [World.cell?, h, hi]
theorem NRow.frozen {w : World} {g : Nat} {r : List Int} (h : NRow w g r) (i : Nat) : w.frozen? ⟨g, i, none⟩ = false := by
  unfold NRow at h
  simp [World.frozen?, h]
theorem NRow.set {w : World} {g : Nat} {r : List Int} (h : NRow w g r) (i : Nat) (x : Int) : NRow (w.setCell ⟨g, i, none⟩ (.int .i64 x)) g (r.set i x) := by
  unfold NRow at *
  rw [setCell_eq_setRow w g i _ 3 (0, 0) _ h, setRow_heap w g _ _ 3 (0, 0) h]
  simp [List.map_set]
/-- All but one block is as it was. -/
structure But (g : Nat) (V W : World) : Prop where
  os : W.os = V.os
  tape : W.tape = V.tape
  output : W.output = V.output
  size : V.heap.size = W.heap.size
  block : ∀ b, b ≠ g → W.heap[b]? = V.heap[b]?
theorem But.refl (g : Nat) (V : World) : But g V V := ⟨rfl, rfl, rfl, rfl, fun _ _ => rfl⟩
theorem But.trans {g : Nat} {A B C : World} (h : But g A B) (k : But g B C) : But g A C := ⟨k.os.trans h.os, k.tape.trans h.tape, k.output.trans h.output, h.size.trans k.size, fun b hb => (k.block b hb).trans (h.block b hb)⟩
theorem But.drew {g : Nat} {A B : World} (h : But g A B) : But g A B.drew := h.trans ⟨rfl, rfl, rfl, rfl, fun _ _ => rfl⟩
theorem But.set {g : Nat} {A B : World} (h : But g A B) (o : Nat) (v : Value) : But g A (B.setCell ⟨g, o, none⟩ v) :=
  h.trans ⟨rfl, rfl, rfl, by simp [World.setCell], fun b hb => Below.heap_setCell _ _ _ _ hb⟩

theorem nrow_made (w : World) (n : Nat) : NRow (w.alloc (.cells (madeCells #[.int .i64 0] n) 3)) w.heap.size (List.replicate n 0) := by
  unfold NRow
  rw [show (w.alloc (.cells (madeCells #[.int .i64 0] n) 3)).heap[w.heap.size]? = some (.cells (madeCells #[.int .i64 0] n) 3 (0, 0)) by unfold World.alloc; simp only [Array.getElem?_push_size]]
  congr 2
  apply Array.ext
  · simp [madeCells]
  · intro i h1 h2
    simp [madeCells, Nat.mod_one]
theorem NRow.ltS {w : World} {g : Nat} {r : List Int} (h : NRow w g r) : g < w.heap.size := (Array.getElem?_eq_some_iff.1 h).1
theorem NRow.belowS {w w' : World} {g n : Nat} {r : List Int} (h : NRow w g r) (hb : Below n w w') (hg : g < n) : NRow w' g r := (hb.block g hg).trans h
theorem NRow.other {w : World} {g g' : Nat} {r : List Int} (h : NRow w g r) (hn : g ≠ g') (i : Nat) (v : Value) : NRow (w.setCell ⟨g', i, none⟩ v) g r := (Below.heap_setCell _ _ _ _ hn).trans h
/-- A slice of numbers that is read. -/
structure IsW (w : World) (a : Option Addr) (l : List Int) (cap : Nat) : Prop where
  cap : l.length ≤ cap
  lies : l = [] ∨ ∃ b off, a = some ⟨b, off, none⟩ ∧ b < w.heap.size ∧ ∀ k, k < l.length → w.cell? ⟨b, off + k, none⟩ = some (.int .i64 (l.getD k 0))
theorem IsW.below {w w' : World} {a : Option Addr} {l : List Int} {cap : Nat} (h : IsW w a l cap) (hb : Below w.heap.size w w') : IsW w' a l cap := by
  refine ⟨h.cap, ?_⟩
  rcases h.lies with h | ⟨b, off, e, hlt, hc⟩
  · exact .inl h
  · exact .inr ⟨b, off, e, by have := hb.size; omega, fun k hk => (hb.cell (p := ⟨b, off + k, none⟩) hlt).trans (hc k hk)⟩
theorem IsW.at {w : World} {a : Option Addr} {l : List Int} {cap : Nat} (h : IsW w a l cap) {k : Nat} (hk : k < l.length) : ∃ b off, a = some ⟨b, off, none⟩ ∧ b < w.heap.size ∧ w.cell? ⟨b, off + k, none⟩ = some (.int .i64 (l.getD k 0)) := by
  rcases h.lies with h | ⟨b, off, e, hlt, hc⟩
  · subst h; simp at hk
  · exact ⟨b, off, e, hlt, hc k hk⟩
theorem NRow.isW {w : World} {g : Nat} {r : List Int} (h : NRow w g r) (cap : Nat) (hc : r.length ≤ cap) : IsW w (some ⟨g, 0, none⟩) r cap :=
  ⟨hc, .inr ⟨g, 0, rfl, h.ltS, fun k hk => by rw [Nat.zero_add]; exact h.cell hk⟩⟩
end Go.Proofs.Ytbbegoklikaphaa

namespace Go.Proofs.Ytbbegoklikaphaa
set_option linter.unusedVariables false
set_option linter.unusedSimpArgs false
set_option maxRecDepth 100000
open Go.RowKit Go.Lib Go.Maps Math

theorem rvRates_any (a : Option Addr) (len cap : Nat) (S : Int × DataW Unit) (w : World) (ht : Calls Try.prog 60 #[.slice a len cap] w (TabEnd w S)) :
    Calls Try.prog 48 #[.slice a len cap] w fun e w' => e = .returned (errV S.1) ∧ Below w.heap.size w w' := by
  have HT : Hid (Calls Try.prog 60 #[.slice a len cap] w (TabEnd w S)) := ht
  clear ht
  by_cases c0 : S.1 = 0
  · rw [c0, errV_zero]
    go_enter Try.func48, Try.ntmps48
    go_wp2_with fail
    refine HT.out.mono ?_
    rintro e w1 ⟨hb, _, h2⟩
    obtain ⟨b, rfl, _, _⟩ := h2 c0
    clear h2 c0
    go_wp2
    go_ret
    exact ⟨rfl, hb⟩
  · rw [errV_ne c0]
    go_enter Try.func48, Try.ntmps48
    go_wp2_with fail
    refine HT.out.mono ?_
    rintro e w1 ⟨hb, h1, _⟩
    have e1 := h1 c0
    rw [errV_ne c0] at e1
    subst e1
    clear h1 c0
    go_wp2
    go_ret
    exact ⟨rfl, hb⟩
/-- What is wrong with what is asked. -/
def askBad (S : Int × DataW Unit) (base : ByteArray) (b : List Bl) (en pe : Int) : Int :=
  if chk b ≠ 0 then chk b else if S.1 ≠ 0 then S.1 else if isCur base = false then 2 else if (upTo en 12 && upTo pe 120) = false then 1 else 0
theorem askBad_ok {S : Int × DataW Unit} {base : ByteArray} {b : List Bl} {en pe : Int} : askBad S base b en pe = 0 ↔ Fine b ∧ S.1 = 0 ∧ isCur base = true ∧ upTo en 12 = true ∧ upTo pe 120 = true := by
  unfold askBad
  rw [← chk_zero]
  constructor
  · intro h
    split at h
    · contradiction
    · rename_i h1
      split at h
      · contradiction
      · rename_i h2
        split at h
        · omega
        · rename_i h3
          split at h
          · omega
          · rename_i h4
            refine ⟨Decidable.of_not_not h1, Decidable.of_not_not h2, by simpa using h3, ?_⟩
            simpa using h4
  · rintro ⟨h1, h2, h3, h4, h5⟩
    simp [h1, h2, h3, h4, h5]
/-- What stands against asking, whoever's balances are asked for. -/
def askP (S : Int × DataW Unit) (base : ByteArray) (b : List Bl) (pe : Int) : Int :=
  if chk b ≠ 0 then chk b else if S.1 ≠ 0 then S.1 else if isCur base = false then 2 else if upTo pe 120 = false then 1 else 0
theorem askBad_askP (S : Int × DataW Unit) (base : ByteArray) (b : List Bl) (en pe : Int) : askBad S base b en pe = if askP S base b pe ≠ 0 then askP S base b pe else if upTo en 12 = false then 1 else 0 := by
  unfold askBad askP
  by_cases h1 : chk b ≠ 0
  · simp [h1]
  · by_cases h2 : S.1 ≠ 0
    · simp [h1, h2]
    · rw [if_neg h1, if_neg h1, if_neg h2, if_neg h2]
      cases isCur base <;> cases upTo en 12 <;> cases upTo pe 120 <;> simp
set_option maxHeartbeats 2000000 in
theorem asked_any (a a2 : Option Addr) (len cap cap2 : Nat) (S : Int × DataW Unit) (base : ByteArray) (b : List Bl) (pe : Int) (w : World) (ht : ∀ W, Below w.heap.size w W → Calls Try.prog 60 #[.slice a len cap] W (TabEnd W S)) (hb : IsBl w a2 b cap2) (hbl : b.length ≤ 9223372036854775807) :
    Calls Try.prog 31 #[.slice a len cap, .string base, .slice a2 b.length cap2, .int .i64 pe] w fun e w' => e = .returned (errV (askP S base b pe)) ∧ Below w.heap.size w w' := by
  have H1 : Hid (Calls Try.prog 21 #[.slice a2 b.length cap2] w fun e w' => e = .returned (errV (chk b)) ∧ Below w.heap.size w w') := ldCheck_any a2 cap2 b w hbl hb
  have H2 : Hid (∀ W, Below w.heap.size w W → Calls Try.prog 48 #[.slice a len cap] W fun e w' => e = .returned (errV S.1) ∧ Below w.heap.size w w') := fun W hW => by
    refine (rvRates_any a len cap S W (ht W hW)).mono ?_
    rintro e w' ⟨rfl, h⟩
    exact ⟨rfl, hW.trans (h.mono hW.size)⟩
  have H3 : Hid (∀ W, Calls Try.prog 49 #[.string base] W fun e w' => e = .returned (.bool (isCur base)) ∧ Below W.heap.size W w') := fun W => cur_any base W
  have H5 : Hid (∀ W, Calls Try.prog 50 #[.int .i64 pe] W fun e w' => e = .returned (.bool (upTo pe 120)) ∧ w' = W) := fun W => isPeriod_any pe W
  clear ht hb
  by_cases c1 : chk b ≠ 0
  · have e1 : askP S base b pe = chk b := if_pos c1
    rw [e1, errV_ne c1]
    rw [errV_ne c1] at H1
    clear e1
    generalize chk b = z at *
    go_enter Try.func31, Try.ntmps31
    go_wp2_with fail
    refine H1.out.mono ?_
    rintro e w1 ⟨rfl, hb1⟩
    have HB1 : Hid (Below w.heap.size w w1) := hb1
    clear hb1
    go_wp2
    go_ret
    exact ⟨rfl, HB1.out⟩
  have c1' := Decidable.of_not_not c1
  rw [c1', errV_zero] at H1
  by_cases c2 : S.1 ≠ 0
  · have e1 : askP S base b pe = S.1 := by unfold askP; rw [if_neg c1, if_pos c2]
    rw [e1, errV_ne c2]
    rw [errV_ne c2] at H2
    clear e1 c1 c1'
    generalize S.1 = z at *
    go_enter Try.func31, Try.ntmps31
    go_wp2_with fail
    refine H1.out.mono ?_
    rintro e w1 ⟨rfl, hb1⟩
    have HB1 : Hid (Below w.heap.size w w1) := hb1
    clear hb1
    go_wp2_with fail
    refine (H2.out w1 HB1.out).mono ?_
    rintro e w2 ⟨rfl, hb2⟩
    have HB2 : Hid (Below w.heap.size w w2) := hb2
    clear hb2
    go_wp2
    go_ret
    exact ⟨rfl, HB2.out⟩
  have c2' := Decidable.of_not_not c2
  rw [c2', errV_zero] at H2
  have HA : Hid (askP S base b pe = if isCur base = false then 2 else if upTo pe 120 = false then 1 else 0) := by unfold askP Hid; rw [if_neg c1, if_neg c2]
  obtain ⟨res, hres⟩ : ∃ res, errV (askP S base b pe) = res := ⟨_, rfl⟩
  have HR : Hid (errV (askP S base b pe) = res) := hres
  rw [hres]
  clear hres c1 c1' c2 c2'
  go_enter Try.func31, Try.ntmps31
  go_wp2_with fail
  refine H1.out.mono ?_
  rintro e w1 ⟨rfl, hb1⟩
  have HB1 : Hid (Below w.heap.size w w1) := hb1
  clear hb1 H1
  go_wp2_with fail
  refine (H2.out w1 HB1.out).mono ?_
  rintro e w2 ⟨rfl, hb2⟩
  have HB2 : Hid (Below w.heap.size w w2) := hb2
  clear hb2 H2 HB1
  cases c3 : isCur base
  · rw [c3] at H3
    have er : res = .iface 58 (.int .i64 2) := by rw [← HR.out, HA.out, if_pos c3]; rfl
    subst er
    clear HR HA c3
    go_wp2_with fail
    refine (H3.out w2).mono ?_
    rintro e w3 ⟨rfl, hb3⟩
    have HB3 : Hid (Below w.heap.size w w3) := HB2.out.trans (hb3.mono HB2.out.size)
    clear hb3
    go_wp2
    go_ret
    exact ⟨rfl, HB3.out⟩
  rw [c3] at H3 HA
  clear c3
  go_wp2_with fail
  refine (H3.out w2).mono ?_
  rintro e w3 ⟨rfl, hb3⟩
  have HB3 : Hid (Below w.heap.size w w3) := HB2.out.trans (hb3.mono HB2.out.size)
  clear hb3 H3 HB2
  cases c5 : upTo pe 120
  · rw [c5] at H5
    have er : res = .iface 58 (.int .i64 1) := by rw [← HR.out, HA.out, if_neg (by decide), if_pos c5]; rfl
    subst er
    clear HR HA c5
    go_wp2_with (go_at_call 50; refine (H5.out _).mono ?_; rintro e w' ⟨rfl, rfl⟩)
    go_ret
    exact ⟨rfl, HB3.out⟩
  rw [c5] at H5
  have er : res = .nilIface := by rw [← HR.out, HA.out, if_neg (by decide), if_neg (by rw [c5]; decide)]; rfl
  subst er
  clear HR HA c5
  go_wp2_with (go_at_call 50; refine (H5.out _).mono ?_; rintro e w' ⟨rfl, rfl⟩)
  go_ret
  exact ⟨rfl, HB3.out⟩
/-- What Convert says is wrong, as a number. -/
def cvE (R : Int × Int × Int) (m : Int) : Int := if R.2.2 = 0 then (if partOf (absI m) R.2.1 R.1 ≤ 9223372036854775807 + (if m < 0 then 1 else 0) then 0 else 10) else R.2.2
theorem convE_cv (R : Int × Int × Int) (m : Int) : convE R m = errV (cvE R m) := by
  unfold convE cvE ratE
  split
  · split <;> (split <;> rfl)
  · rfl
/-- What a balance is worth, and what is wrong with that. -/
def wV (S : Int × DataW Unit) (base : ByteArray) (en pe : Int) (x : Bl) : Int := if x.ent = en then convV (findS S base x.cur base pe) x.amt else 0
def wE (S : Int × DataW Unit) (base : ByteArray) (en pe : Int) (x : Bl) : Int := if x.ent = en then cvE (findS S base x.cur base pe) x.amt else 0
def wRvBad (S : Int × DataW Unit) (base : ByteArray) (b : List Bl) (en pe : Int) : Int := if askBad S base b en pe ≠ 0 then askBad S base b en pe else firstTo (fun i => wE S base en pe (b.getD i bl0)) b.length
/-- What Worth leaves. -/
def WorthEnd (S : Int × DataW Unit) (base : ByteArray) (b : List Bl) (en pe : Int) (w : World) (e : Ending) (w' : World) : Prop :=
  Below w.heap.size w w' ∧ (wRvBad S base b en pe ≠ 0 → e = .returned (.tuple #[.slice none 0 0, errV (wRvBad S base b en pe)])) ∧
    (wRvBad S base b en pe = 0 → ∃ g, e = .returned (.tuple #[.slice (some ⟨g, 0, none⟩) b.length b.length, .nilIface]) ∧ w.heap.size ≤ g ∧ NRow w' g (b.map (wV S base en pe)))
theorem partOf_nonneg {m n d : Int} (hn : 0 ≤ n) (hd : 1 ≤ d) : 0 ≤ partOf (absI m) n d := by
  have m0 := Int.mul_nonneg (absI_nonneg m) hn
  have q0 := Int.ediv_nonneg m0 (by omega : (0 : Int) ≤ d)
  have u := upOf_bd (absI m * n / d) (absI m * n % d) d
  unfold partOf
  omega
theorem ratV_fit {m n d : Int} (hn : 0 ≤ n) (hd : 1 ≤ d) : -9223372036854775808 ≤ ratV m n d ∧ ratV m n d ≤ 9223372036854775807 := by
  have h0 := partOf_nonneg (m := m) hn hd
  unfold ratV ratioV
  by_cases hm : m < 0
  · simp only [if_pos hm]; split <;> omega
  · simp only [if_neg hm]; split <;> omega
theorem wV_fit {S : Int × DataW Unit} (hg : TabGood S.2) (base : ByteArray) (en pe : Int) (x : Bl) : -9223372036854775808 ≤ wV S base en pe x ∧ wV S base en pe x ≤ 9223372036854775807 := by
  unfold wV
  split
  · unfold convV
    split
    · rename_i h
      have r := findS_range (base := base) (f := x.cur) (t := base) (p := pe) hg h
      exact ratV_fit (by omega) (by omega)
    · omega
  · omega
theorem wRow_next (f : Bl → Int) (b : List Bl) (k : Nat) (h : k < b.length) : ((b.take k).map f ++ List.replicate (b.length - k) 0).set k (f (b.getD k bl0)) = (b.take (k + 1)).map f ++ List.replicate (b.length - (k + 1)) 0 := by
  have e : b.length - k = (b.length - (k + 1)) + 1 := by omega
  have hl : ((b.take k).map f).length = k := by simp; omega
  rw [e, List.replicate_succ, List.set_append_right _ _ (by omega), hl, Nat.sub_self, List.set_cons_zero]
  rw [List.take_succ_eq_append_getElem h, List.map_append, List.append_assoc]
  congr 1
  simp [List.getD_eq_getElem?_getD, List.getElem?_eq_getElem h]
theorem wRow_same (f : Bl → Int) (b : List Bl) (k : Nat) (h : k < b.length) (h0 : f (b.getD k bl0) = 0) : (b.take k).map f ++ List.replicate (b.length - k) 0 = (b.take (k + 1)).map f ++ List.replicate (b.length - (k + 1)) 0 := by
  have e : b.length - k = (b.length - (k + 1)) + 1 := by omega
  rw [← wRow_next f b k h, h0, e, List.replicate_succ]
  have hl : ((b.take k).map f).length = k := by simp; omega
  rw [List.set_append_right _ _ (by omega), hl, Nat.sub_self, List.set_cons_zero]
end Go.Proofs.Ytbbegoklikaphaa

namespace Go.Proofs.Ytbbegoklikaphaa
set_option linter.unusedVariables false
set_option linter.unusedSimpArgs false
set_option maxRecDepth 100000
open Go.RowKit Go.Lib Go.Maps Math

theorem rv_int : (Try.prog.info? 3).map (fun i => (i.zero, i.size, i.bytes)) = some (some (.int .i64 0), 1, 8) := by kernel_rfl
set_option maxHeartbeats 4000000 in
theorem worth_any (a a2 : Option Addr) (len cap cap2 : Nat) (S : Int × DataW Unit) (base : ByteArray) (b : List Bl) (en pe : Int) (w : World) (ht : ∀ W, Below w.heap.size w W → Calls Try.prog 60 #[.slice a len cap] W (TabEnd W S)) (hg : TabGood S.2) (hb : IsBl w a2 b cap2) (hbl : b.length ≤ 9223372036854775807) :
    Calls Try.prog 12 #[.slice a len cap, .string base, .slice a2 b.length cap2, .int .i64 en, .int .i64 pe] w (WorthEnd S base b en pe w) := by
  have HC : Hid (Calls Try.prog 31 #[.slice a len cap, .string base, .slice a2 b.length cap2, .int .i64 pe] w fun e w' => e = .returned (errV (askP S base b pe)) ∧ Below w.heap.size w w') := asked_any a a2 len cap cap2 S base b pe w ht hb hbl
  have HIs : Hid (∀ W, Calls Try.prog 32 #[.int .i64 en] W fun e w' => e = .returned (.bool (upTo en 12)) ∧ w' = W) := fun W => isEntity_any en W
  have hqa := askBad_askP S base b en pe
  by_cases c1 : askP S base b pe ≠ 0
  · rw [if_pos c1] at hqa
    have e1 : wRvBad S base b en pe = askP S base b pe := by unfold wRvBad; rw [hqa, if_pos c1]
    unfold WorthEnd
    rw [e1, errV_ne c1]
    rw [errV_ne c1] at HC
    clear e1 ht hb hqa HIs
    generalize askP S base b pe = z at *
    go_enter Try.func12, Try.ntmps12
    go_wp2_with fail
    refine HC.out.mono ?_
    rintro e w1 ⟨rfl, hb1⟩
    have HB1 : Hid (Below w.heap.size w w1) := hb1
    clear hb1
    go_wp2
    go_ret2
    exact ⟨HB1.out, fun _ => rfl, fun h => absurd h c1⟩
  have c1' := Decidable.of_not_not c1
  rw [c1', errV_zero] at HC
  rw [if_neg c1] at hqa
  by_cases c4 : upTo en 12 = false
  · rw [if_pos c4] at hqa
    have e1 : wRvBad S base b en pe = 1 := by unfold wRvBad; rw [hqa]; rfl
    have e2 : errV 1 = .iface 58 (.int .i64 1) := errV_ne (by decide)
    unfold WorthEnd
    rw [e1, e2]
    rw [c4] at HIs
    clear e1 ht hb hqa c1 c1' e2
    go_enter Try.func12, Try.ntmps12
    go_wp2_with fail
    refine HC.out.mono ?_
    rintro e w1 ⟨rfl, hb1⟩
    have HB1 : Hid (Below w.heap.size w w1) := hb1
    clear hb1
    go_wp2_with fail
    refine (HIs.out _).mono ?_
    rintro e w' ⟨rfl, hw⟩
    rw [hw]; clear hw w'
    go_wp2
    go_ret2
    exact ⟨HB1.out, fun _ => rfl, fun h => absurd h (by decide)⟩
  have c4' : upTo en 12 = true := by simpa using c4
  rw [if_neg c4] at hqa
  rw [c4'] at HIs
  obtain ⟨f1, f2, f3, f4, f5⟩ := askBad_ok.1 hqa
  have l200 := f1.len
  have HWB : Hid (wRvBad S base b en pe = firstTo (fun i => wE S base en pe (b.getD i bl0)) b.length) := by unfold Hid wRvBad; exact if_neg (by rw [hqa]; decide)
  have HAm : Hid (∀ x ∈ b, -1000000000000000000 ≤ x.amt ∧ x.amt ≤ 1000000000000000000) := f1.amt
  have HBl : Hid (IsBl w a2 b cap2) := hb
  have HCv : Hid (∀ W (x : Bl), x ∈ b → x.ent = en → Below w.heap.size w W → Calls Try.prog 33 #[.slice a len cap, .string base, .string x.cur, .string base, .int .i64 pe, .int .i64 x.amt] W fun e w' => e = .returned (.tuple #[.int .i64 (wV S base en pe x), errV (wE S base en pe x)]) ∧ Below W.heap.size W w') := fun W x hx he hW => by
    have ha := HAm.out x hx
    refine (convert_any a len cap S base x.cur base pe x.amt W (ht W hW) hg (by omega) (by omega)).mono ?_
    rintro e w' ⟨rfl, h⟩
    unfold wV wE
    rw [if_pos he, if_pos he, convE_cv]
    exact ⟨rfl, h⟩
  clear c1 c1' f1 f2 f3 f4 f5 ht hb hqa c4 c4'
  obtain ⟨fw, hfw⟩ : ∃ fw, fw = wV S base en pe := ⟨_, rfl⟩
  obtain ⟨fe, hfe⟩ : ∃ fe, fe = wE S base en pe := ⟨_, rfl⟩
  have HF0 : Hid (∀ x : Bl, x.ent ≠ en → fw x = 0 ∧ fe x = 0) := fun x hx => by rw [hfw, hfe]; exact ⟨if_neg hx, if_neg hx⟩
  have HEnd : Hid (∀ e w', WorthEnd S base b en pe w e w' ↔ (Below w.heap.size w w' ∧ (wRvBad S base b en pe ≠ 0 → e = .returned (.tuple #[.slice none 0 0, errV (wRvBad S base b en pe)])) ∧ (wRvBad S base b en pe = 0 → ∃ g, e = .returned (.tuple #[.slice (some ⟨g, 0, none⟩) b.length b.length, .nilIface]) ∧ w.heap.size ≤ g ∧ NRow w' g (b.map fw)))) := fun e w' => by rw [hfw]; exact Iff.rfl
  rw [← hfw, ← hfe] at HCv
  rw [← hfe] at HWB
  clear hfw hfe
  have hmk := fun w => run_make_row' (P := Try.prog) 52 3 (.int .i64 0) 8 Try.underlying52 rv_int rfl .i64 .i64 b.length (by omega) (by omega) w
  go_enter Try.func12, Try.ntmps12
  go_wp2_with fail
  refine HC.out.mono ?_
  rintro e w2 ⟨rfl, hb2⟩
  have HB2 : Hid (Below w.heap.size w w2) := hb2
  clear hb2 HC
  go_wp2_with fail
  refine (HIs.out _).mono ?_
  rintro e w' ⟨rfl, hw⟩
  rw [hw]; clear hw w' HIs
  have HB0 : Hid (Below w.heap.size w (w2.alloc (.cells (madeCells #[.int .i64 0] b.length) 3))) := HB2.out.alloc HB2.out.size _
  have HR0 : Hid (NRow (w2.alloc (.cells (madeCells #[.int .i64 0] b.length) 3)) w2.heap.size ((b.take 0).map fw ++ List.replicate (b.length - 0) 0)) := by
    have hrow := nrow_made w2 b.length
    unfold Hid
    rw [List.take_zero]
    exact hrow
  have HGw : Hid (w.heap.size ≤ w2.heap.size) := HB2.out.size
  clear HB2
  go_wp2_with fail
  clear hmk
  generalize w2.heap.size = G at *
  go_loopw [35] (fun i wr => ∃ k : Nat, k ≤ b.length ∧ i = .int .i64 k ∧ Hid (NRow wr G ((b.take k).map fw ++ List.replicate (b.length - k) 0) ∧ Below w.heap.size w wr ∧ firstTo (fun i => fe (b.getD i bl0)) k = 0)) (fun i _ => b.length - (RowKit.intOf i).toNat)
  case atStart => exact ⟨0, Nat.zero_le _, rfl, HR0.out, HB0.out, rfl⟩
  case round =>
    obtain ⟨k, hk, rfl, HR⟩ := hrel
    clear HR0 HB0
    by_cases hlt : k < b.length
    · obtain ⟨bb, off, rfl, hbb, hcc⟩ := HBl.out.some hlt
      have hx := (hcc k hlt).below HR.out.2.1 hbb
      have i0 : (0 : Int) ≤ k := by omega
      have i3 : (k : Int) < b.length := by omega
      have hmem := getD_mem b k hlt
      have hsn := wRow_next fw b k hlt
      have hsm := wRow_same fw b k hlt
      obtain ⟨x, hxx⟩ : ∃ x, b.getD k bl0 = x := ⟨_, rfl⟩
      have hf1 : fe x ≠ 0 → firstTo (fun i => fe (b.getD i bl0)) b.length = fe x := fun h => by
        have := firstTo_first (f := fun i => fe (b.getD i bl0)) HR.out.2.2 (show fe (b.getD k bl0) ≠ 0 by rw [hxx]; exact h) hlt
        rw [this]
        show fe (b.getD k bl0) = fe x
        rw [hxx]
      have hf2 : fe x = 0 → firstTo (fun i => fe (b.getD i bl0)) (k + 1) = 0 := fun h => by
        rw [firstTo_next HR.out.2.2]; show fe (b.getD k bl0) = 0; rw [hxx]; exact h
      rw [hxx] at hx hsn hsm hmem
      have HSn : Hid (((b.take k).map fw ++ List.replicate (b.length - k) 0).set k (fw x) = (b.take (k + 1)).map fw ++ List.replicate (b.length - (k + 1)) 0) := hsn
      have HSm : Hid (fw x = 0 → (b.take k).map fw ++ List.replicate (b.length - k) 0 = (b.take (k + 1)).map fw ++ List.replicate (b.length - (k + 1)) 0) := hsm
      have HF1 : Hid (fe x ≠ 0 → firstTo (fun i => fe (b.getD i bl0)) b.length = fe x) := hf1
      have HF2 : Hid (fe x = 0 → firstTo (fun i => fe (b.getD i bl0)) (k + 1) = 0) := hf2
      have hlen : k < ((b.take k).map fw ++ List.replicate (b.length - k) 0).length := by simp; omega
      clear hxx hcc hsn hsm hf1 hf2
      obtain ⟨Z, hZ⟩ : ∃ Z, wr.alloc (.cells x.cells 34) = Z := ⟨_, rfl⟩
      have hbZ : Below wr.heap.size wr Z := by rw [← hZ]; exact (Below.refl _ _).alloc (Nat.le_refl _) _
      have hbt : BlAt Z wr.heap.size 0 x := by rw [← hZ]; exact BlAt.new wr x 34
      have hszZ : wr.heap.size < Z.heap.size := by rw [← hZ]; simp
      have hRZ := HR.out.1.belowS hbZ HR.out.1.ltS
      have hBZ : Below w.heap.size w Z := HR.out.2.1.trans (hbZ.mono HR.out.2.1.size)
      have HGZ : Hid (G < Z.heap.size) := hRZ.ltS
      have HZ : Hid (wr.alloc (.cells x.cells 34) = Z) := hZ
      have HRZ : Hid (NRow Z G ((b.take k).map fw ++ List.replicate (b.length - k) 0) ∧ Below w.heap.size w Z) := ⟨hRZ, hBZ⟩
      clear hZ hbZ hRZ hBZ hszZ
      by_cases he : x.ent = en
      · have HCx : Hid (Calls Try.prog 33 #[.slice a len cap, .string base, .string x.cur, .string base, .int .i64 pe, .int .i64 x.amt] Z fun e w' => e = .returned (.tuple #[.int .i64 (fw x), errV (fe x)]) ∧ Below Z.heap.size Z w') := HCv.out Z x hmem he HRZ.out.2
        by_cases c2 : fe x ≠ 0
        · have HL : Hid (∀ U, Below Z.heap.size Z U → WorthEnd S base b en pe w (.returned (.tuple #[.slice none 0 0, .iface 58 (.int .i64 (fe x))])) U) := fun U hU => by
            rw [HEnd.out, HWB.out, HF1.out c2, errV_ne c2]
            exact ⟨HRZ.out.2.trans (hU.mono HRZ.out.2.size), fun _ => rfl, fun h => absurd h c2⟩
          rw [errV_ne c2] at HCx
          generalize fe x = z at HCx HL
          generalize fw x = z2 at HCx
          obtain ⟨x0, x1, x2, x3⟩ := x
          obtain ⟨d0, d1, d2, d3⟩ := hx
          obtain ⟨f0, f1, f2, f3⟩ := hbt
          simp only [Bl.cells, Nat.zero_add] at d0 d1 d2 d3 f0 f1 f2 f3 he HCx HZ
          subst he
          have hq : (x0 != x0) = false := by simp
          clear HSn HSm HF1 HF2 HR HEnd HWB HCv HF0 c2
          go_upto_region 10 with fail
          rw [HZ.out]
          clear HZ d0 d1 d2 d3
          go_wp2_with fail
          refine HCx.out.mono ?_
          rintro e w3 ⟨rfl, hb3⟩
          have HL3 : Hid _ := HL.out w3 hb3
          clear HL HCx hb3 f0 f1 f2 f3
          go_wp2
          go_ret2
          exact HL3.out
        · have c2' := Decidable.of_not_not c2
          have HN : Hid (∀ U, Below Z.heap.size Z U → (NRow (U.setCell ⟨G, k, none⟩ (.int .i64 (fw x))) G ((b.take (k + 1)).map fw ++ List.replicate (b.length - (k + 1)) 0) ∧ Below w.heap.size w (U.setCell ⟨G, k, none⟩ (.int .i64 (fw x))) ∧ firstTo (fun i => fe (b.getD i bl0)) (k + 1) = 0) ∧ (∃ z, U.cell? ⟨G, k, none⟩ = some (.int .i64 z)) ∧ U.frozen? ⟨G, k, none⟩ = false) := fun U hU => by
            have hRU := HRZ.out.1.belowS hU HGZ.out
            have hs := hRU.set k (fw x)
            rw [HSn.out] at hs
            exact ⟨⟨hs, (HRZ.out.2.trans (hU.mono HRZ.out.2.size)).setCell (p := ⟨G, k, none⟩) HGw.out _, HF2.out c2'⟩, ⟨_, hRU.cell (i := k) hlen⟩, hRU.frozen k⟩
          rw [c2', errV_zero] at HCx
          generalize fw x = z2 at HCx HN
          obtain ⟨x0, x1, x2, x3⟩ := x
          obtain ⟨d0, d1, d2, d3⟩ := hx
          obtain ⟨f0, f1, f2, f3⟩ := hbt
          simp only [Bl.cells, Nat.zero_add] at d0 d1 d2 d3 f0 f1 f2 f3 he HCx HZ
          subst he
          have hq : (x0 != x0) = false := by simp
          clear HSn HSm HF1 HF2 HR HEnd HWB HCv HF0 c2 c2' hlen
          go_upto_region 10 with fail
          rw [HZ.out]
          clear HZ d0 d1 d2 d3
          go_wp2_with fail
          refine HCx.out.mono ?_
          rintro e w3 ⟨rfl, hb3⟩
          obtain ⟨hN1, ⟨zz, hN2⟩, hN3⟩ := HN.out w3 hb3
          have HN1 : Hid _ := hN1
          clear HN HCx hb3 f0 f1 f2 f3 hN1
          go_wp2
          go_roundw
          case rel => exact ⟨k + 1, by omega, by go_num, HN1⟩
          case measure => simp [RowKit.intOf]; omega
      · have HN : Hid (NRow Z G ((b.take (k + 1)).map fw ++ List.replicate (b.length - (k + 1)) 0) ∧ Below w.heap.size w Z ∧ firstTo (fun i => fe (b.getD i bl0)) (k + 1) = 0) := by
          obtain ⟨z1, z2⟩ := HF0.out x he
          exact ⟨by rw [← HSm.out z1]; exact HRZ.out.1, HRZ.out.2, HF2.out z2⟩
        obtain ⟨x0, x1, x2, x3⟩ := x
        obtain ⟨d0, d1, d2, d3⟩ := hx
        obtain ⟨f0, f1, f2, f3⟩ := hbt
        simp only [Bl.cells, Nat.zero_add] at d0 d1 d2 d3 f0 f1 f2 f3 he HZ
        have hq : (x0 != en) = true := by simp [he]
        clear HSn HSm HF1 HF2 HR HEnd HWB HCv HF0 hlen HRZ HGZ
        go_upto_region 10 with fail
        rw [HZ.out]
        clear HZ d0 d1 d2 d3
        go_wp2
        go_roundw
        case rel => exact ⟨k + 1, by omega, by go_num, HN⟩
        case measure => simp [RowKit.intOf]; omega
    · obtain rfl : k = b.length := by omega
      have HL : Hid (WorthEnd S base b en pe w (.returned (.tuple #[.slice (some ⟨G, 0, none⟩) b.length b.length, .nilIface])) wr) := by
        have h1 := HR.out
        rw [List.take_length, Nat.sub_self, List.replicate_zero, List.append_nil] at h1
        refine (HEnd.out _ _).2 ⟨h1.2.1, fun h => absurd (HWB.out.trans h1.2.2) h, fun _ => ⟨G, rfl, HGw.out, h1.1⟩⟩
      have i3 : ¬ (b.length : Int) < b.length := by omega
      clear HR HEnd HWB HCv HF0
      go_wp2
      go_ret2
      exact HL.out
end Go.Proofs.Ytbbegoklikaphaa
