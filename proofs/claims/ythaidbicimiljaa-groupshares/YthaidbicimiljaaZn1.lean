/-
  Accounts in memory; the contracts of slices.IndexFunc over them, of chart.index and chart.checkParent.
-/
import Derived.Test.YthaidbicimiljaaZn0
import Derived.Sort.Grow
import Derived.Deep.CutRange
import Derived.Deep.CutBlock
import Derived.WalkLawsBesides
import Derived.Test.YthaidbicimiljaaProg
import Derived.WalkKit
import Derived.WalkSpells
import Derived.Lib.OthersKept
import Derived.Lib.TrimU
import Derived.Deep.LoopGhost
import Derived.Conc.MuLone
import Derived.Shelf.Abstract
import Derived.Deep.QuietTactic
import Derived.BigQuiet
namespace Go.Proofs.Ythaidbicimiljaa
set_option linter.unusedVariables false
set_option linter.unusedSimpArgs false
set_option maxRecDepth 100000
open Go.RowKit Go.Lib

theorem ldNaN_any (s : ByteArray) (w : World) :
    Calls Try.prog 76 #[.string s] w fun e w' => e = .returned (.bool false) ∧ w' = w := by
  go_enter Try.func76, Try.ntmps76
  go_wp2
  go_ret
  exact ⟨rfl, rfl⟩

theorem ldCompare_any (a b : ByteArray) (w : World) :
    Calls Try.prog 60 #[.string a, .string b] w fun e w' => e = .returned (.int .i64 (cmpS a b)) ∧ w' = w := by
  cases h1 : Op.bytesLess a.toList b.toList
  · cases h2 : (a.toList == b.toList)
    · have er : cmpS a b = 1 := by simp only [cmpS]; rw [h1, h2]; rfl
      rw [er]
      have h2' : ¬ a.toList = b.toList := by simpa using h2
      clear er
      go_enter Try.func60, Try.ntmps60
      go_wp2_with (go_at_call 76; refine (ldNaN_any _ _).mono ?_; rintro e w' ⟨rfl, rfl⟩)
      go_ret
      exact ⟨rfl, rfl⟩
    · have er : cmpS a b = 0 := by simp only [cmpS]; rw [h1, h2]; rfl
      rw [er]
      have h2' : a = b := toList_inj (by simpa using h2)
      subst h2'
      clear er h2
      go_enter Try.func60, Try.ntmps60
      go_wp2_with (go_at_call 76; refine (ldNaN_any _ _).mono ?_; rintro e w' ⟨rfl, rfl⟩)
      go_ret
      exact ⟨rfl, rfl⟩
  · have er : cmpS a b = -1 := by simp only [cmpS]; rw [h1]; rfl
    rw [er]
    clear er
    go_enter Try.func60, Try.ntmps60
    go_wp2_with (go_at_call 76; refine (ldNaN_any _ _).mono ?_; rintro e w' ⟨rfl, rfl⟩)
    go_ret
    exact ⟨rfl, rfl⟩


theorem ldNaNI_any (n : Int) (w : World) :
    Calls Try.prog 75 #[.int .i64 n] w fun e w' => e = .returned (.bool false) ∧ w' = w := by
  go_enter Try.func75, Try.ntmps75
  go_wp2
  go_ret
  exact ⟨rfl, rfl⟩
theorem ldCompareI_any (a b : Int) (w : World) :
    Calls Try.prog 59 #[.int .i64 a, .int .i64 b] w fun e w' => e = .returned (.int .i64 (cmpI a b)) ∧ w' = w := by
  by_cases h1 : a < b
  · have er : cmpI a b = -1 := if_pos h1
    rw [er]
    go_enter Try.func59, Try.ntmps59
    go_wp2_with (go_at_call 75; refine (ldNaNI_any _ _).mono ?_; rintro e w' ⟨rfl, rfl⟩)
    go_ret
    exact ⟨rfl, rfl⟩
  · by_cases h2 : b < a
    · have er : cmpI a b = 1 := by unfold cmpI; rw [if_neg h1, if_pos h2]
      rw [er]
      go_enter Try.func59, Try.ntmps59
      go_wp2_with (go_at_call 75; refine (ldNaNI_any _ _).mono ?_; rintro e w' ⟨rfl, rfl⟩)
      go_ret
      exact ⟨rfl, rfl⟩
    · have er : cmpI a b = 0 := by unfold cmpI; rw [if_neg h1, if_neg h2]
      rw [er]
      go_enter Try.func59, Try.ntmps59
      go_wp2_with (go_at_call 75; refine (ldNaNI_any _ _).mono ?_; rintro e w' ⟨rfl, rfl⟩)
      go_ret
      exact ⟨rfl, rfl⟩

theorem ldOr3_any (b : Nat) (x y z : Int) (w : World) (h0 : w.cell? ⟨b, 0, none⟩ = some (.int .i64 x)) (h1 : w.cell? ⟨b, 1, none⟩ = some (.int .i64 y)) (h2 : w.cell? ⟨b, 2, none⟩ = some (.int .i64 z)) :
    Calls Try.prog 58 #[.slice (some ⟨b, 0, none⟩) 3 3] w fun e w' => e = .returned (.int .i64 (if x ≠ 0 then x else if y ≠ 0 then y else z)) ∧ w' = w := by
  by_cases hx : x = 0
  · subst hx
    rw [if_neg (by simp)]
    by_cases hy : y = 0
    · subst hy
      rw [if_neg (by simp)]
      by_cases hz : z = 0
      · subst hz
        go_enter Try.func58, Try.ntmps58
        go_wp2
        refine wp_loop_rounds 4 ?_
        rw [rounds_succ]
        go_wp2
        rw [rounds_succ]
        go_wp2
        rw [rounds_succ]
        go_wp2
        rw [rounds_succ]
        go_wp2
        go_ret
        exact ⟨rfl, rfl⟩
      · have hz' : (z != 0) = true := by simp [hz]
        go_enter Try.func58, Try.ntmps58
        go_wp2
        refine wp_loop_rounds 4 ?_
        rw [rounds_succ]
        go_wp2
        rw [rounds_succ]
        go_wp2
        rw [rounds_succ]
        go_wp2
        go_ret
        exact ⟨rfl, rfl⟩
    · rw [if_pos hy]
      have hy' : (y != 0) = true := by simp [hy]
      go_enter Try.func58, Try.ntmps58
      go_wp2
      refine wp_loop_rounds 4 ?_
      rw [rounds_succ]
      go_wp2
      rw [rounds_succ]
      go_wp2
      go_ret
      exact ⟨rfl, rfl⟩
  · rw [if_pos hx]
    have hx' : (x != 0) = true := by simp [hx]
    go_enter Try.func58, Try.ntmps58
    go_wp2
    refine wp_loop_rounds 4 ?_
    rw [rounds_succ]
    go_wp2
    go_ret
    exact ⟨rfl, rfl⟩

theorem ld_cell_new (W : World) (ROW : Array Value) (t : TypeId) (b j : Nat) (v : Value) (hb : b = W.heap.size) (hv : ROW[j]? = some v) : ((W.alloc (.cells ROW t)).drew).cell? ⟨b, j, none⟩ = some v :=
  (World.cell?_alloc_at (w := W) ROW t b j hb).trans hv


set_option maxHeartbeats 4000000 in
theorem ldCompareB_at (x y : Bl) (w : World) :
    Calls Try.prog 32 #[.agg x.cells, .agg y.cells] w fun e w' => e = .returned (.int .i64 (cmpB x y)) ∧ ∃ q os, w' = Sort.grow (w.drewN q) os := by
  obtain ⟨x0, x1, x2, x3⟩ := x
  obtain ⟨y0, y1, y2, y3⟩ := y
  simp only [Bl.cells, cmpB]
  obtain ⟨V, hV⟩ : ∃ V, (w.alloc (.cells #[.int .i64 x0, .string x1, .string x2, .int .i64 x3] 33)).alloc (.cells #[.int .i64 y0, .string y1, .string y2, .int .i64 y3] 33) = V := ⟨_, rfl⟩
  have c0 : ((V.alloc (.cells #[.int .i64 (cmpI x0 y0), .int .i64 (cmpS x1 y1), .int .i64 (cmpS x2 y2)] 3)).drew).cell? ⟨w.heap.size + 1 + 1, 0, none⟩ = some (.int .i64 (cmpI x0 y0)) := ld_cell_new _ _ _ _ _ _ (by rw [← hV]; simp) rfl
  have c1 : ((V.alloc (.cells #[.int .i64 (cmpI x0 y0), .int .i64 (cmpS x1 y1), .int .i64 (cmpS x2 y2)] 3)).drew).cell? ⟨w.heap.size + 1 + 1, 1, none⟩ = some (.int .i64 (cmpS x1 y1)) := ld_cell_new _ _ _ _ _ _ (by rw [← hV]; simp) rfl
  have c2 : ((V.alloc (.cells #[.int .i64 (cmpI x0 y0), .int .i64 (cmpS x1 y1), .int .i64 (cmpS x2 y2)] 3)).drew).cell? ⟨w.heap.size + 1 + 1, 2, none⟩ = some (.int .i64 (cmpS x2 y2)) := ld_cell_new _ _ _ _ _ _ (by rw [← hV]; simp) rfl
  have hO := ldOr3_any _ _ _ _ _ c0 c1 c2
  have bl : ∃ q os, ((V.alloc (.cells #[.int .i64 (cmpI x0 y0), .int .i64 (cmpS x1 y1), .int .i64 (cmpS x2 y2)] 3)).drew) = Sort.grow (w.drewN q) os := by
    rw [← hV]
    exact ⟨1, _, by rw [Sort.alloc_eq_grow, Sort.alloc_eq_grow, Sort.alloc_eq_grow, Sort.grow_grow, Sort.grow_grow, Sort.drew_grow]; rfl⟩
  subst hV
  clear c0 c1 c2
  obtain ⟨r, hr⟩ : ∃ r, (if cmpI x0 y0 ≠ 0 then cmpI x0 y0 else if cmpS x1 y1 ≠ 0 then cmpS x1 y1 else cmpS x2 y2) = r := ⟨_, rfl⟩
  rw [hr] at hO ⊢
  clear hr
  go_enter Try.func32, Try.ntmps32
  go_wp2
  go_region_held3 (fun u => (u.cell? ⟨w.heap.size, 0, none⟩ = some (.int .i64 x0) ∧ u.cell? ⟨w.heap.size, 1, none⟩ = some (.string x1) ∧ u.cell? ⟨w.heap.size, 2, none⟩ = some (.string x2)) ∧ u.cell? ⟨w.heap.size + 1, 0, none⟩ = some (.int .i64 y0) ∧ u.cell? ⟨w.heap.size + 1, 1, none⟩ = some (.string y1) ∧ u.cell? ⟨w.heap.size + 1, 2, none⟩ = some (.string y2)) (go_keep) (first | (go_at_call 59; refine (ldCompareI_any _ _ _).mono ?_; rintro e w' ⟨rfl, rfl⟩) | (go_at_call 60; refine (ldCompare_any _ _ _).mono ?_; rintro e w' ⟨rfl, rfl⟩) | (go_at_call 58; refine hO.mono ?_; rintro e w' ⟨rfl, rfl⟩))
  all_goals
    go_wp2
    go_ret
    exact ⟨rfl, bl⟩

theorem grow_below (w : World) (q : Nat) (os : Array Obj) : Below w.heap.size w (Sort.grow (w.drewN q) os) :=
  ⟨rfl, rfl, rfl, by rw [Sort.size_grow]; exact Nat.le_add_right _ _, fun b hb => Sort.heap_grow_old (w.drewN q) os hb⟩
theorem ldCompareB_any (x y : Bl) (w : World) :
    Calls Try.prog 32 #[.agg x.cells, .agg y.cells] w fun e w' => e = .returned (.int .i64 (cmpB x y)) ∧ Below w.heap.size w w' :=
  (ldCompareB_at x y w).mono fun e w' ⟨h, q, os, hw⟩ => ⟨h, by rw [hw]; exact grow_below w q os⟩
theorem isWithin_any (n m : Int) (hm : -9223372036854775808 ≤ -m ∧ -m ≤ 9223372036854775807) (w : World) :
    Calls Try.prog 33 #[.int .i64 n, .int .i64 m] w fun e w' => e = .returned (.bool (decide (-m ≤ n ∧ n ≤ m))) ∧ w' = w := by
  have hw : IntKind.i64.wrap (-m) = -m := by
    simp only [IntKind.wrap, IntKind.bits, IntKind.signed]
    simp
    omega
  by_cases h1 : -m ≤ n
  · by_cases h2 : n ≤ m
    · rw [decide_eq_true ⟨h1, h2⟩]
      go_enter Try.func33, Try.ntmps33
      go_wp2
      go_ret
      exact ⟨rfl, rfl⟩
    · rw [decide_eq_false (fun h => h2 h.2)]
      go_enter Try.func33, Try.ntmps33
      go_wp2
      go_ret
      exact ⟨rfl, rfl⟩
  · rw [decide_eq_false (fun h => h1 h.1)]
    go_enter Try.func33, Try.ntmps33
    go_wp2
    go_ret
    exact ⟨rfl, rfl⟩
end Go.Proofs.Ythaidbicimiljaa

namespace Go.Proofs.Ythaidbicimiljaa
set_option linter.unusedVariables false
set_option linter.unusedSimpArgs false
set_option maxRecDepth 100000
open Go.RowKit Go.Lib
theorem IsBl.some {w : World} {a : Option Addr} {l : List Bl} {cap k : Nat} (h : IsBl w a l cap) (hk : k < l.length) : ∃ b off, a = some ⟨b, off, none⟩ ∧ b < w.heap.size ∧ BlsAt w b off l := by
  rcases h.lies with h | h
  · rw [h] at hk; simp at hk
  · exact h

set_option maxHeartbeats 4000000 in
theorem ldCheck_any (a : Option Addr) (cap : Nat) (l : List Bl) (w : World) (hlen : l.length ≤ 9223372036854775807) (h : IsBl w a l cap) :
    Calls Try.prog 16 #[.slice a l.length cap] w fun e w' => e = .returned (enE (chk l)) ∧ Below w.heap.size w w' := by
  by_cases h2 : 200 < l.length
  · have e4 : chk l = 4 := if_pos h2
    rw [e4, enE_ne (by decide)]
    have i1 : (200 : Int) < l.length := by omega
    clear h e4
    go_enter Try.func16, Try.ntmps16
    go_wp2
    go_ret
    exact ⟨rfl, Below.refl _ _⟩
  have i1 : ¬ (200 : Int) < l.length := by omega
  have i2 : (l.length : Int) ≤ 200 := by omega
  obtain ⟨res, hres⟩ : ∃ res, enE (chk l) = res := ⟨_, rfl⟩
  have Hres : Hid (enE (chkTo l l.length) = res) := by
    rw [← hres]; unfold chk; rw [if_neg h2]; exact rfl
  rw [hres]
  clear hres
  have HL : Hid (IsBl w a l cap) := h
  clear h
  go_enter Try.func16, Try.ntmps16
  go_wp2
  go_loopw [11] (fun i wr => ∃ k : Nat, k ≤ l.length ∧ i = .int .i64 k ∧ Hid (chkTo l k = 0) ∧ Hid (Below w.heap.size w wr)) (fun i _ => l.length - (RowKit.intOf i).toNat)
  case atStart => exact ⟨0, Nat.zero_le _, rfl, rfl, Below.refl _ _⟩
  case round =>
    obtain ⟨k, hk, rfl, H0, HB⟩ := hrel
    by_cases hlt : k < l.length
    · obtain ⟨b, off, rfl, hb, hc⟩ := HL.out.some hlt
      have hy := (hc k hlt).below HB.out hb
      have i0 : (0 : Int) ≤ k := by omega
      have i3 : (k : Int) < l.length := by omega
      have HC : Hid (BlsAt w b off l) := hc
      have HY : Hid (l.getD k bl0 = l.getD k bl0) := rfl
      obtain ⟨y, hyy⟩ : ∃ y, l.getD k bl0 = y := ⟨_, rfl⟩
      have HYY : Hid (l.getD k bl0 = y) := hyy
      rw [hyy] at hy
      clear hyy hc HY
      obtain ⟨y0, y1, y2, y3⟩ := y
      obtain ⟨d0, d1, d2, d3⟩ := hy
      simp only at d0 d1 d2 d3
      obtain ⟨W1, hW1⟩ : ∃ W1, wr.alloc (.cells #[.int .i64 y0, .string y1, .string y2, .int .i64 y3] 33) = W1 := ⟨_, rfl⟩
      have hbx : W1.heap[wr.heap.size]? = some (.cells #[.int .i64 y0, .string y1, .string y2, .int .i64 y3] 33 (0, 0)) := by rw [← hW1]; unfold World.alloc; simp only [Array.getElem?_push_size]
      have HB1 : Hid (Below w.heap.size w W1) := by rw [← hW1]; exact HB.out.alloc HB.out.size _
      have HX : Hid (∀ U, Below W1.heap.size W1 U → U.cell? ⟨wr.heap.size, 0, none⟩ = some (.int .i64 y0) ∧ U.cell? ⟨wr.heap.size, 1, none⟩ = some (.string y1) ∧ U.cell? ⟨wr.heap.size, 2, none⟩ = some (.string y2) ∧ U.cell? ⟨wr.heap.size, 3, none⟩ = some (.int .i64 y3)) := fun U hU => by
        have hlt' : wr.heap.size < W1.heap.size := (Array.getElem?_eq_some_iff.1 hbx).1
        have e := (hU.block _ hlt').trans hbx
        simp [World.cell?, e]
      have HW1 : Hid (wr.alloc (.cells #[.int .i64 y0, .string y1, .string y2, .int .i64 y3] 33) = W1) := hW1
      have HSz : Hid (wr.heap.size < W1.heap.size) := (Array.getElem?_eq_some_iff.1 hbx).1
      clear hW1 hbx
      go_upto_region 6 with fail
      rw [HW1.out]
      clear HW1 d0 d1 d2 d3
      obtain ⟨B, hB⟩ : ∃ B, wr.heap.size = B := ⟨_, rfl⟩
      rw [hB] at HX HSz ⊢
      clear hB HB
      go_cut [16] from 17 to 28 (fun t wx => t = .bool (decide (0 < k ∧ ¬ cmpB (l.getD (k - 1) bl0) ⟨y0, y1, y2, y3⟩ < 0)) ∧ Hid (Below W1.heap.size W1 wx))
      case first =>
        rcases k with _ | m
        · obtain ⟨f0, f1, f2, f3⟩ := HX.out W1 (Below.refl _ _)
          go_wp2_with fail
          go_quiet (fail)
          rename Nat => nk
          have HZ : Hid (Below W1.heap.size W1 (W1.drewN nk)) := en_drewN (Below.refl _ _) nk
          go_wp2
          go_meet
          case rel => exact ⟨by simp, HZ⟩
        · have hx := (HC.out m (by omega)).below HB1.out hb
          have er : (0 < m + 1 ∧ ¬ cmpB (l.getD (m + 1 - 1) bl0) ⟨y0, y1, y2, y3⟩ < 0) ↔ ¬ cmpB (l.getD m bl0) ⟨y0, y1, y2, y3⟩ < 0 := by
            rw [Nat.add_sub_cancel]
            exact ⟨fun h => h.2, fun h => ⟨by omega, h⟩⟩
          have HER : Hid (decide (0 < m + 1 ∧ ¬ cmpB (l.getD (m + 1 - 1) bl0) ⟨y0, y1, y2, y3⟩ < 0) = decide (0 ≤ cmpB (l.getD m bl0) ⟨y0, y1, y2, y3⟩)) := by
            unfold Hid
            rw [decide_eq_decide, er]
            omega
          clear er
          have HCm : Hid (∀ W, Calls Try.prog 32 #[.agg (l.getD m bl0).cells, .agg (Bl.mk y0 y1 y2 y3).cells] W fun e w' => e = .returned (.int .i64 (cmpB (l.getD m bl0) ⟨y0, y1, y2, y3⟩)) ∧ Below W.heap.size W w') := fun W => ldCompareB_any _ _ W
          generalize l.getD m bl0 = x at hx HER HCm
          generalize cmpB x ⟨y0, y1, y2, y3⟩ = c at *
          obtain ⟨x0, x1, x2, x3⟩ := x
          obtain ⟨d0, d1, d2, d3⟩ := hx
          obtain ⟨f0, f1, f2, f3⟩ := HX.out W1 (Below.refl _ _)
          simp only [Bl.cells] at d0 d1 d2 d3 f0 f1 f2 f3 HCm
          have hbW : b < W1.heap.size := Nat.lt_of_lt_of_le hb HB1.out.size
          have hBW := HSz.out
          have HK : Hid (∀ W V, Below W.heap.size W V → b < W.heap.size → B < W.heap.size → (W.cell? ⟨b, off + m * 4, none⟩ = some (.int .i64 x0) ∧ W.cell? ⟨b, off + m * 4 + 1, none⟩ = some (.string x1) ∧ W.cell? ⟨b, off + m * 4 + 2, none⟩ = some (.string x2) ∧ W.cell? ⟨b, off + m * 4 + 3, none⟩ = some (.int .i64 x3)) ∧ W.cell? ⟨B, 0, none⟩ = some (.int .i64 y0) ∧ W.cell? ⟨B, 1, none⟩ = some (.string y1) ∧ W.cell? ⟨B, 2, none⟩ = some (.string y2) ∧ W.cell? ⟨B, 3, none⟩ = some (.int .i64 y3) → (V.cell? ⟨b, off + m * 4, none⟩ = some (.int .i64 x0) ∧ V.cell? ⟨b, off + m * 4 + 1, none⟩ = some (.string x1) ∧ V.cell? ⟨b, off + m * 4 + 2, none⟩ = some (.string x2) ∧ V.cell? ⟨b, off + m * 4 + 3, none⟩ = some (.int .i64 x3)) ∧ V.cell? ⟨B, 0, none⟩ = some (.int .i64 y0) ∧ V.cell? ⟨B, 1, none⟩ = some (.string y1) ∧ V.cell? ⟨B, 2, none⟩ = some (.string y2) ∧ V.cell? ⟨B, 3, none⟩ = some (.int .i64 y3)) := fun W V hB hlt hlt2 hh => by
            have C : ∀ o, V.cell? ⟨b, o, none⟩ = W.cell? ⟨b, o, none⟩ := fun o => hB.cell (p := ⟨b, o, none⟩) hlt
            have C2 : ∀ o, V.cell? ⟨B, o, none⟩ = W.cell? ⟨B, o, none⟩ := fun o => hB.cell (p := ⟨B, o, none⟩) hlt2
            simp only [C, C2]
            exact hh
          have j0 : (0 : Int) ≤ m := by omega
          have j1 : (m : Int) + 1 < l.length := by omega
          have j2 : (m : Int) < l.length := by omega
          have i6 : (m : Int) + 1 - 1 = m := by omega
          have i7 : ((m : Int) + 1).toNat = m + 1 := by omega
          have i8 : (0 : Int) ≤ (m : Int) + 1 := by omega
          have i9 : (0 : Int) < (m : Int) + 1 := by omega
          have iw1 : IntKind.i64.wrap (m : Int) = m := by
            simp only [IntKind.wrap, IntKind.bits, IntKind.signed]
            simp
            omega
          have iw2 : IntKind.i64.wrap ((m : Int) + 1 - 1) = m := by rw [i6, iw1]
          clear HX HC HYY HB1 HL HSz H0 Hres i0 i3
          go_wp2_with fail
          go_region_held3 (fun u => (u.cell? ⟨b, off + m * 4, none⟩ = some (.int .i64 x0) ∧ u.cell? ⟨b, off + m * 4 + 1, none⟩ = some (.string x1) ∧ u.cell? ⟨b, off + m * 4 + 2, none⟩ = some (.string x2) ∧ u.cell? ⟨b, off + m * 4 + 3, none⟩ = some (.int .i64 x3)) ∧ u.cell? ⟨B, 0, none⟩ = some (.int .i64 y0) ∧ u.cell? ⟨B, 1, none⟩ = some (.string y1) ∧ u.cell? ⟨B, 2, none⟩ = some (.string y2) ∧ u.cell? ⟨B, 3, none⟩ = some (.int .i64 y3)) (go_keep) (first | (go_at_call 32; refine (HCm.out _).mono ?_; rintro e w' ⟨rfl, hb'⟩; obtain ⟨⟨p0, p1, p2, p3⟩, p4, p5, p6, p7⟩ := HK.out _ _ hb' (by simpa using hbW) (by simpa using hBW) (by simpa using ⟨⟨d0, d1, d2, d3⟩, f0, f1, f2, f3⟩)))
          all_goals
            go_wp2
            go_meet
            case rel => exact ⟨by rw [HER.out], (Below.refl _ _).drew.trans hb'⟩
      case rest =>
        obtain ⟨rfl, HBc⟩ := hcut
        obtain ⟨f0, f1, f2, f3⟩ := HX.out wc HBc.out
        have HBw : Hid (Below w.heap.size w wc) := HB1.out.trans (HBc.out.mono HB1.out.size)
        have HIs : Hid (Calls Try.prog 33 #[.int .i64 y3, .int .i64 1000000000000000000] wc fun e w' => e = .returned (.bool (decide (-1000000000000000000 ≤ y3 ∧ y3 ≤ 1000000000000000000))) ∧ w' = wc) := isWithin_any y3 1000000000000000000 (by decide) wc
        have HA : Hid (chkAt l k = if 0 < k ∧ ¬ cmpB (l.getD (k - 1) bl0) ⟨y0, y1, y2, y3⟩ < 0 then 5 else if ¬ (-1000000000000000000 ≤ y3 ∧ y3 ≤ 1000000000000000000) then 1 else if y3 = 0 then 3 else 0) := by
          unfold chkAt
          rw [HYY.out]
          exact rfl
        have HRet : Hid (∀ c, c ≠ 0 → chkAt l k = c → res = enE c) := fun c h0 h1 => by
          rw [← Hres.out, chkTo_first H0.out (by rw [h1]; exact h0) hlt, h1]
        clear HX HBc HB1 HC HYY HL
        by_cases c1 : 0 < k ∧ ¬ cmpB (l.getD (k - 1) bl0) ⟨y0, y1, y2, y3⟩ < 0
        · have e5 : res = enE 5 := HRet.out 5 (by decide) (by rw [HA.out, if_pos c1])
          rw [decide_eq_true c1]
          rw [enE_ne (by decide)] at e5
          subst e5
          clear HA HRet c1 Hres
          go_wp2
          go_ret
          exact ⟨rfl, HBw.out⟩
        · rw [decide_eq_false c1]
          by_cases c2 : -1000000000000000000 ≤ y3 ∧ y3 ≤ 1000000000000000000
          · rw [decide_eq_true c2] at HIs
            by_cases c3 : y3 = 0
            · have e5 : res = enE 3 := HRet.out 3 (by decide) (by rw [HA.out, if_neg c1, if_neg (by simpa using c2), if_pos c3])
              rw [enE_ne (by decide)] at e5
              subst e5
              subst c3
              clear HA HRet c1 Hres c2
              go_wp2_with (go_at_call 33; refine HIs.out.mono ?_; rintro e w' ⟨rfl, rfl⟩)
              go_ret
              exact ⟨rfl, HBw.out⟩
            · have e0 : chkTo l (k + 1) = 0 := by
                unfold chkTo
                rw [if_neg (by simp [H0.out]), HA.out, if_neg c1, if_neg (by simpa using c2), if_neg c3]
              have HE : Hid (chkTo l (k + 1) = 0) := e0
              have c3' : (y3 == 0) = false := by rw [beq_eq_false_iff_ne]; exact c3
              clear HA HRet c1 e0 c2
              go_wp2_with (go_at_call 33; refine HIs.out.mono ?_; rintro e w' ⟨rfl, rfl⟩)
              go_roundw
              case rel => exact ⟨k + 1, by omega, by go_num, HE, HBw⟩
              case measure => simp [RowKit.intOf]; omega
          · rw [decide_eq_false c2] at HIs
            have e5 : res = enE 1 := HRet.out 1 (by decide) (by rw [HA.out, if_neg c1, if_pos c2])
            rw [enE_ne (by decide)] at e5
            subst e5
            clear HA HRet c1 Hres
            go_wp2_with (go_at_call 33; refine HIs.out.mono ?_; rintro e w' ⟨rfl, rfl⟩)
            go_ret
            exact ⟨rfl, HBw.out⟩
    · have hk2 : k = l.length := by omega
      subst hk2
      have e5 : res = enE 0 := by rw [← Hres.out, H0.out]
      rw [enE_zero] at e5
      subst e5
      clear Hres
      go_wp2
      go_ret
      exact ⟨rfl, HB.out⟩
end Go.Proofs.Ythaidbicimiljaa

namespace Go.Proofs.Ythaidbicimiljaa
set_option linter.unusedVariables false
set_option linter.unusedSimpArgs false
open Go.RowKit Go.Lib

/-- A digit. -/
def digR (r : Nat) : Bool := decide (48 ≤ r) && decide (r ≤ 57)
/-- A sign of a name. -/
def namR (r : Nat) : Bool := (decide (97 ≤ r) && decide (r ≤ 122)) || (decide (65 ≤ r) && decide (r ≤ 90)) || digR r || decide (r = 45)

theorem digR_low {r : Nat} (h : digR r = true) : r < 128 := by simp [digR] at h; omega
theorem namR_low {r : Nat} (h : namR r = true) : r < 128 := by simp [namR, digR] at h; omega

/-- Where the first sign stands that does not fit, from a place on, among at most so many; else -1. -/
def strayFrom (p : Nat → Bool) (s : ByteArray) : Nat → Nat → Int
  | 0, _ => -1
  | f + 1, pos => if pos < s.size then (if p (Utf8.decode s pos).1 = true then strayFrom p s f (pos + (Utf8.decode s pos).2) else (pos : Int)) else -1

theorem strayFrom_end (p : Nat → Bool) (s : ByteArray) (f pos : Nat) (h : ¬ pos < s.size) : strayFrom p s f pos = -1 := by cases f <;> simp [strayFrom, h]

/-- All signs from a place on fit. -/
def fitsFrom (p : Nat → Bool) (s : ByteArray) (pos : Nat) : Prop := ∀ i, pos ≤ i → i < s.size → p (s.get! i).toNat = true

theorem stray_fits (p : Nat → Bool) (hp : ∀ r, p r = true → r < 128) (s : ByteArray) : ∀ (f pos : Nat), s.size ≤ pos + f → (strayFrom p s f pos < 0 ↔ fitsFrom p s pos)
  | 0, pos, h => by
    simp only [strayFrom]
    exact ⟨fun _ i h1 h2 => by omega, fun _ => by omega⟩
  | f + 1, pos, h => by
    by_cases hlt : pos < s.size
    · have hg : s.get! pos = s[pos]'hlt := by
        show s.data[pos]! = s.data[pos]'hlt
        exact getElem!_pos s.data pos hlt
      rw [strayFrom, if_pos hlt]
      by_cases ha : (s[pos]'hlt).toNat < 128
      · rw [decode_ascii s pos hlt ha]
        by_cases hc : p (s[pos]'hlt).toNat = true
        · rw [if_pos hc, stray_fits p hp s f (pos + 1) (by omega)]
          constructor
          · intro hf i h1 h2
            by_cases e : i = pos
            · subst e; rw [hg]; exact hc
            · exact hf i (by omega) h2
          · intro hf i h1 h2
            exact hf i (by omega) h2
        · rw [if_neg hc]
          refine ⟨fun h => by omega, fun hf => ?_⟩
          have := hf pos (Nat.le_refl _) hlt
          rw [hg] at this
          exact absurd this hc
      · have hd := (decode_high s pos hlt (by omega)).1
        rw [if_neg (fun h => by have := hp _ h; omega)]
        refine ⟨fun h => by omega, fun hf => ?_⟩
        have := hp _ (hf pos (Nat.le_refl _) hlt)
        rw [hg] at this
        omega
    · rw [strayFrom_end p s _ _ hlt]
      exact ⟨fun _ i h1 h2 => by omega, fun _ => by omega⟩

/-- Is a text of 1 to so many bytes, all of which fit? -/
def madeOf (p : Nat → Bool) (most : Nat) (s : ByteArray) : Bool := decide (s.size ≠ 0) && (decide (s.size ≤ most) && decide (strayFrom p s s.size 0 < 0))

theorem madeOf_iff {p : Nat → Bool} (hp : ∀ r, p r = true → r < 128) {most : Nat} {s : ByteArray} : madeOf p most s = true ↔ s.size ≠ 0 ∧ s.size ≤ most ∧ ∀ i, i < s.size → p (s.get! i).toNat = true := by
  unfold madeOf
  simp only [Bool.and_eq_true, decide_eq_true_eq]
  rw [stray_fits p hp s s.size 0 (by omega)]
  exact ⟨fun ⟨a, b, c⟩ => ⟨a, b, fun i hi => c i (Nat.zero_le _) hi⟩, fun ⟨a, b, c⟩ => ⟨a, b, fun i _ hi => c i hi⟩⟩

def isCodeB (s : ByteArray) : Bool := madeOf digR 6 s
def isNameB (s : ByteArray) : Bool := madeOf namR 24 s

theorem digit_any (r : Nat) (w : World) :
    Calls Try.prog 65 #[.int .i32 r] w fun e w' => e = .returned (.bool (digR r)) ∧ w' = w := by
  by_cases h1 : (48 : Int) ≤ r
  · have : digR r = decide ((r : Int) ≤ 57) := by
      have e1 : decide (48 ≤ r) = true := by simp; omega
      have e2 : decide (r ≤ 57) = decide ((r : Int) ≤ 57) := by simp; omega
      unfold digR; rw [e1, e2]; rfl
    rw [this]
    go_enter Try.func65, Try.ntmps65
    go_wp2
    go_ret
    exact ⟨rfl, rfl⟩
  · have : digR r = false := by simp [digR]; omega
    rw [this]
    go_enter Try.func65, Try.ntmps65
    go_wp2
    go_ret
    exact ⟨rfl, rfl⟩

theorem nameSign_any (r : Nat) (w : World) :
    Calls Try.prog 66 #[.int .i32 r] w fun e w' => e = .returned (.bool (namR r)) ∧ w' = w := by
  have h1 : (97 : Int) ≤ r ∧ (r : Int) ≤ 122 ∨ 122 < (r : Int) ∨ (90 : Int) < r ∧ (r : Int) < 97 ∨ (65 : Int) ≤ r ∧ (r : Int) ≤ 90 ∨ (r : Int) < 65 := by omega
  rcases h1 with ⟨a, b⟩ | a | ⟨a, b⟩ | ⟨a, b⟩ | a
  · have : namR r = true := by simp [namR]; omega
    rw [this]
    go_enter Try.func66, Try.ntmps66
    go_wp2
    go_ret
    exact ⟨rfl, rfl⟩
  · have d : digR r = false := by simp [digR]; omega
    have : namR r = false := by simp [namR, d]; omega
    rw [this]
    have n45 : ((r : Int) == 45) = false := by simp; omega
    have n90 : decide ((r : Int) ≤ 90) = false := by simp; omega
    have n122 : decide ((r : Int) ≤ 122) = false := by simp; omega
    go_enter Try.func66, Try.ntmps66
    go_wp2_with (go_at_call 65; refine (digit_any r _).mono ?_; rintro e w' ⟨rfl, rfl⟩; rw [d])
    go_ret
    exact ⟨rfl, rfl⟩
  · have d : digR r = false := by simp [digR]; omega
    have : namR r = false := by simp [namR, d]; omega
    rw [this]
    have n45 : ((r : Int) == 45) = false := by simp; omega
    have n90 : decide ((r : Int) ≤ 90) = false := by simp; omega
    go_enter Try.func66, Try.ntmps66
    go_wp2_with (go_at_call 65; refine (digit_any r _).mono ?_; rintro e w' ⟨rfl, rfl⟩; rw [d])
    go_ret
    exact ⟨rfl, rfl⟩
  · have : namR r = true := by simp [namR]; omega
    rw [this]
    go_enter Try.func66, Try.ntmps66
    go_wp2
    go_ret
    exact ⟨rfl, rfl⟩
  · cases d : digR r
    · have : namR r = ((r : Int) == 45) := by
        have e1 : decide (r = 45) = ((r : Int) == 45) := by rw [Bool.eq_iff_iff]; simp; omega
        have e2 : (decide (97 ≤ r) && decide (r ≤ 122)) = false := by simp; omega
        have e3 : (decide (65 ≤ r) && decide (r ≤ 90)) = false := by simp; omega
        unfold namR; rw [e1, e2, e3, d]; rfl
      rw [this]
      go_enter Try.func66, Try.ntmps66
      go_wp2_with (go_at_call 65; refine (digit_any r _).mono ?_; rintro e w' ⟨rfl, rfl⟩; rw [d])
      go_ret
      exact ⟨rfl, rfl⟩
    · have : namR r = true := by simp [namR, d]
      rw [this]
      go_enter Try.func66, Try.ntmps66
      go_wp2_with (go_at_call 65; refine (digit_any r _).mono ?_; rintro e w' ⟨rfl, rfl⟩; rw [d])
      go_ret
      exact ⟨rfl, rfl⟩

/-- What is asked of a function that says which signs fit. -/
structure ChFits (g : Nat) (p : Nat → Bool) : Prop where
  eg : ∀ args w, (callFunc g args).run Try.prog w = .ok (.enter g args) w
  call : ∀ (r : Nat) w, Calls Try.prog g #[.int .i32 r] w fun e w' => e = .returned (.bool (p r)) ∧ w' = w

theorem enters {f : FuncId} {fn : Func} (hf : Try.prog.funcs[f]? = some fn) (hn : (fn.name == "runtime.NumGoroutine") = false) (hb : ∃ c, fn.body = some c) (args : Array Value) (w : World) : (callFunc f args).run Try.prog w = .ok (.enter f args) w := by
  obtain ⟨c, hc⟩ := hb
  exact MuLone.run_callFunc_enter hf hn hc args w
theorem digit_fits : ChFits 65 digR := ⟨fun args w => enters Try.func65 (by kernel_rfl) ⟨_, rfl⟩ args w, digit_any⟩
theorem name_fits : ChFits 66 namR := ⟨fun args w => enters Try.func66 (by kernel_rfl) ⟨_, rfl⟩ args w, nameSign_any⟩

theorem madeOf1_any (g : Nat) (p : Nat → Bool) (hf : ChFits g p) (B r : Nat) (w : World) (hB : w.cell? ⟨B, 0, none⟩ = some (.func (.func g) #[] #[])) :
    Calls Try.prog 78 #[.int .i32 r, .pointer (some ⟨B, 0, none⟩)] w fun e w' => e = .returned (.bool (!p r)) ∧ w' = w := by
  have eg := hf.eg
  have hc := hf.call r w
  clear hf
  go_enter Try.func78, Try.ntmps78
  go_wp2_with (go_at_fn g; refine hc.mono ?_; rintro e w' ⟨rfl, rfl⟩)
  go_ret
  exact ⟨rfl, rfl⟩

set_option maxHeartbeats 1000000 in
theorem chIndexFunc_any (g : Nat) (p : Nat → Bool) (hf : ChFits g p) (B : Nat) (s : ByteArray) (w : World) (hb : B < w.heap.size) (hB : w.cell? ⟨B, 0, none⟩ = some (.func (.func g) #[] #[])) :
    Calls Try.prog 84 #[.string s, .func (.func 78) #[] #[.pointer (some ⟨B, 0, none⟩)], .bool true] w fun e w' => e = .returned (.int .i64 (strayFrom p s s.size 0)) ∧ Below w.heap.size w w' := by
  have HB : Hid (w.cell? ⟨B, 0, none⟩ = some (.func (.func g) #[] #[])) := hB
  have HF : Hid (ChFits g p) := hf
  clear hB hf
  go_enter Try.func84, Try.ntmps84
  go_wp2
  go_loopg [] s.size (fun gf wx => ∃ pos : Nat, wx.heap[w.heap.size]? = some (.stringIter s pos) ∧ Below w.heap.size w wx ∧ strayFrom p s gf pos = strayFrom p s s.size 0 ∧ s.size ≤ pos + gf)
  case atStart => exact ⟨0, World.iter_heap w s 0, (Below.refl _ w).alloc (Nat.le_refl _) _, rfl, by omega⟩
  case round =>
    obtain ⟨pos, hit, hbw, hleft, hfu⟩ := hrel
    by_cases hps : pos < s.size
    · obtain ⟨g', rfl⟩ : ∃ g', gk = g' + 1 := ⟨gk - 1, by omega⟩
      have hnx : ∀ ty, (Instr.next (.pointer (some ⟨w.heap.size, 0, none⟩)) true ty).run Try.prog wr = _ := fun ty => Lib.run_next_any_at wr w.heap.size s pos ty hit hps
      have hwd := Lib.width_pos s pos
      obtain ⟨R, hR⟩ : ∃ R, (Utf8.decode s pos).1 = R := ⟨_, rfl⟩
      obtain ⟨K, hK⟩ : ∃ K, (Utf8.decode s pos).2 = K := ⟨_, rfl⟩
      simp only [strayFrom, hps, if_true, hR, hK] at hleft
      rw [hR, hK] at hnx
      rw [hK] at hwd
      have hit2 := Lib.iterAt_heap wr w.heap.size s pos (pos + K) hit
      have hbw2 := Lib.below_iterAt hbw (k := w.heap.size) (Nat.le_refl _) s (pos + K)
      obtain ⟨W, hWd⟩ : ∃ W, wr.iterAt w.heap.size s (pos + K) = W := ⟨_, rfl⟩
      rw [hWd] at hnx hit2 hbw2
      have hcall := madeOf1_any g p HF.out B R W ((hbw2.cell (p := ⟨B, 0, none⟩) hb).trans HB.out)
      cases hsp : p R <;> simp only [hsp, if_true, Bool.false_eq_true, if_false] at hleft
      · rw [hsp] at hcall
        go_wp2_with (go_at_call 78; refine hcall.mono ?_; rintro e W' ⟨rfl, rfl⟩)
        go_ret
        exact ⟨by rw [← hleft]; rfl, hbw2⟩
      · rw [hsp] at hcall
        go_wp2_with (go_at_call 78; refine hcall.mono ?_; rintro e W' ⟨rfl, rfl⟩)
        go_roundg g'
        case measure => omega
        case rel => exact ⟨pos + K, hit2, hbw2, hleft, by omega⟩
    · have hnx : ∀ ty, (Instr.next (.pointer (some ⟨w.heap.size, 0, none⟩)) true ty).run Try.prog wr = _ := fun ty => Lib.run_next_end_at wr w.heap.size s pos ty hit hps
      rw [strayFrom_end p s gk pos hps] at hleft
      go_wp2
      go_ret
      exact ⟨by rw [← hleft]; rfl, hbw⟩

theorem chContainsFunc_any (g : Nat) (p : Nat → Bool) (hf : ChFits g p) (B : Nat) (s : ByteArray) (w : World) (hb : B < w.heap.size) (hB : w.cell? ⟨B, 0, none⟩ = some (.func (.func g) #[] #[])) :
    Calls Try.prog 69 #[.string s, .func (.func 78) #[] #[.pointer (some ⟨B, 0, none⟩)]] w fun e w' => e = .returned (.bool (decide (0 ≤ strayFrom p s s.size 0))) ∧ Below w.heap.size w w' := by
  have hI : Calls Try.prog 81 #[.string s, .func (.func 78) #[] #[.pointer (some ⟨B, 0, none⟩)]] w fun e w' => e = .returned (.int .i64 (strayFrom p s s.size 0)) ∧ Below w.heap.size w w' := by
    have hc := chIndexFunc_any g p hf B s w hb hB
    clear hf hB
    go_enter Try.func81, Try.ntmps81
    go_wp2_with fail
    refine hc.mono ?_
    rintro e w' ⟨rfl, hb⟩
    go_wp2
    go_ret
    exact ⟨rfl, hb⟩
  clear hf hB
  go_enter Try.func69, Try.ntmps69
  go_wp2_with fail
  refine hI.mono ?_
  rintro e w' ⟨rfl, hb⟩
  go_wp2
  go_ret
  exact ⟨rfl, hb⟩

theorem isMadeOf_any (g : Nat) (p : Nat → Bool) (hf : ChFits g p) (most : Nat) (s : ByteArray) (w : World) :
    Calls Try.prog 64 #[.string s, .int .i64 most, .func (.func g) #[] #[]] w fun e w' => e = .returned (.bool (madeOf p most s)) ∧ Below w.heap.size w w' := by
  have b0 : Below w.heap.size w (w.alloc (.cells #[.func (.func g) #[] #[]] 102)) := (Below.refl _ w).alloc (Nat.le_refl _) _
  have hc := chContainsFunc_any g p hf w.heap.size s (w.alloc (.cells #[.func (.func g) #[] #[]] 102)) (by simp) (by simp)
  have Hc : Hid (Calls _ _ _ _ _) := hc
  clear hf hc
  by_cases h0 : s.size = 0
  · have e0 : s.toList = [] := by
      rw [Lib.toList_data]
      exact List.eq_nil_of_length_eq_zero h0
    have e1 : madeOf p most s = false := by simp [madeOf, h0]
    rw [e1]
    go_enter Try.func64, Try.ntmps64
    go_wp2
    go_ret
    exact ⟨rfl, b0⟩
  have e0 : ¬ s.toList = [] := by
    rw [Lib.toList_data]
    intro e
    exact h0 (congrArg List.length e)
  have e0' : s.toList.isEmpty = false := by simpa using e0
  by_cases h1 : s.size ≤ most
  · have h1' : decide ((s.size : Int) ≤ most) = true := by simp; omega
    have e1 : madeOf p most s = !decide (0 ≤ strayFrom p s s.size 0) := by
      have d1 : decide (s.size ≠ 0) = true := by simp [h0]
      have d2 : decide (s.size ≤ most) = true := by simp [h1]
      have d3 : decide (strayFrom p s s.size 0 < 0) = !decide (0 ≤ strayFrom p s s.size 0) := by
        by_cases hh : 0 ≤ strayFrom p s s.size 0
        · rw [decide_eq_true hh, decide_eq_false (by omega)]; rfl
        · rw [decide_eq_false hh, decide_eq_true (by omega)]; rfl
      unfold madeOf; rw [d1, d2, d3]; rfl
    rw [e1]
    go_enter Try.func64, Try.ntmps64
    go_wp2_with fail
    refine Hc.out.mono ?_
    rintro e w' ⟨rfl, hb⟩
    go_wp2
    go_ret
    exact ⟨rfl, b0.trans (hb.mono (by simp))⟩
  · have h1' : decide ((s.size : Int) ≤ most) = false := by simp; omega
    have e1 : madeOf p most s = false := by simp [madeOf, h1]
    rw [e1]
    go_enter Try.func64, Try.ntmps64
    go_wp2
    go_ret
    exact ⟨rfl, b0⟩

theorem isCode_any (s : ByteArray) (w : World) :
    Calls Try.prog 42 #[.string s] w fun e w' => e = .returned (.bool (isCodeB s)) ∧ Below w.heap.size w w' := by
  go_enter Try.func42, Try.ntmps42
  go_wp2_with fail
  refine (isMadeOf_any _ digR digit_fits 6 s w).mono ?_
  rintro e w' ⟨rfl, hb⟩
  go_wp2
  go_ret
  exact ⟨rfl, hb⟩

theorem isName_any (s : ByteArray) (w : World) :
    Calls Try.prog 43 #[.string s] w fun e w' => e = .returned (.bool (isNameB s)) ∧ Below w.heap.size w w' := by
  go_enter Try.func43, Try.ntmps43
  go_wp2_with fail
  refine (isMadeOf_any _ namR name_fits 24 s w).mono ?_
  rintro e w' ⟨rfl, hb⟩
  go_wp2
  go_ret
  exact ⟨rfl, hb⟩
end Go.Proofs.Ythaidbicimiljaa

namespace Go.Proofs.Ythaidbicimiljaa
set_option linter.unusedVariables false
set_option linter.unusedSimpArgs false
set_option maxRecDepth 100000
open Go.RowKit Go.Lib

theorem ch_ne {a b : ByteArray} (h : a ≠ b) : (a.toList == b.toList) = false := by
  rw [beq_eq_false_iff_ne]
  intro e
  rw [Lib.toList_data, Lib.toList_data] at e
  exact h (WideShapes.bytes_inj e)

theorem ch_empty {a : ByteArray} (h : a.size = 0) : a.toList = [] := by
  rw [Lib.toList_data]
  exact List.eq_nil_of_length_eq_zero h
theorem ch_some {a : ByteArray} (h : a.size ≠ 0) : ¬ a.toList = [] := by
  rw [Lib.toList_data]
  exact fun e => h (congrArg List.length e)

theorem ch_drewN {B : Nat} {a w : World} (h : Below B a w) (n : Nat) : Below B a (w.drewN n) := h.trans ⟨rfl, rfl, rfl, Nat.le_refl _, fun _ _ => rfl⟩

/-- An account. -/
structure Ac where
  code : ByteArray
  name : ByteArray
  kind : Int
  par : ByteArray
  mon : Bool

def Ac.cells (a : Ac) : Array Value := #[.string a.code, .string a.name, .int .i64 a.kind, .string a.par, .bool a.mon]
/-- An account of nothing. -/
def ac0 : Ac := ⟨ByteArray.empty, ByteArray.empty, 0, ByteArray.empty, false⟩

/-- An error by its number. -/
def chE (n : Int) : Value := if n = 0 then .nilIface else .iface 41 (.int .i64 n)
theorem chE_zero : chE 0 = .nilIface := rfl
theorem chE_ne {n : Int} (h : n ≠ 0) : chE n = .iface 41 (.int .i64 n) := if_neg h

structure AcAt (w : World) (b off : Nat) (a : Ac) : Prop where
  c0 : w.cell? ⟨b, off, none⟩ = some (.string a.code)
  c1 : w.cell? ⟨b, off + 1, none⟩ = some (.string a.name)
  c2 : w.cell? ⟨b, off + 2, none⟩ = some (.int .i64 a.kind)
  c3 : w.cell? ⟨b, off + 3, none⟩ = some (.string a.par)
  c4 : w.cell? ⟨b, off + 4, none⟩ = some (.bool a.mon)

theorem AcAt.below {w w' : World} {b off n : Nat} {a : Ac} (h : AcAt w b off a) (hb : Below n w w') (hn : b < n) : AcAt w' b off a :=
  ⟨(hb.cell (p := ⟨b, off, none⟩) hn).trans h.c0, (hb.cell (p := ⟨b, off + 1, none⟩) hn).trans h.c1, (hb.cell (p := ⟨b, off + 2, none⟩) hn).trans h.c2, (hb.cell (p := ⟨b, off + 3, none⟩) hn).trans h.c3, (hb.cell (p := ⟨b, off + 4, none⟩) hn).trans h.c4⟩

theorem AcAt.new (w : World) (a : Ac) (t : TypeId) : AcAt (w.alloc (.cells a.cells t)) w.heap.size 0 a :=
  ⟨by simp [Ac.cells], by simp [Ac.cells], by simp [Ac.cells], by simp [Ac.cells], by simp [Ac.cells]⟩

/-- Accounts in memory. -/
def AcsAt (w : World) (b off : Nat) (l : List Ac) : Prop := ∀ k, k < l.length → AcAt w b (off + k * 5) (l.getD k ac0)

/-- A slice of accounts. -/
structure IsSl (w : World) (a : Option Addr) (l : List Ac) (cap : Nat) : Prop where
  cap : l.length ≤ cap
  lies : l = [] ∨ ∃ b off, a = some ⟨b, off, none⟩ ∧ b < w.heap.size ∧ AcsAt w b off l

theorem IsSl.below {w w' : World} {a : Option Addr} {l : List Ac} {cap : Nat} (h : IsSl w a l cap) (hb : Below w.heap.size w w') : IsSl w' a l cap := by
  refine ⟨h.cap, ?_⟩
  rcases h.lies with h | ⟨b, off, e, hlt, hc⟩
  · exact .inl h
  · exact .inr ⟨b, off, e, by have := hb.size; omega, fun k hk => (hc k hk).below hb hlt⟩

theorem IsSl.take {w : World} {a : Option Addr} {l : List Ac} {cap : Nat} (h : IsSl w a l cap) (k : Nat) : IsSl w a (l.take k) cap := by
  refine ⟨by have := h.cap; simp; omega, ?_⟩
  rcases h.lies with h | ⟨b, off, e, hlt, hc⟩
  · exact .inl (by rw [h]; simp)
  · refine .inr ⟨b, off, e, hlt, fun j hj => ?_⟩
    simp only [List.length_take] at hj
    have : (l.take k).getD j ac0 = l.getD j ac0 := by
      rw [List.getD_eq_getElem?_getD, List.getD_eq_getElem?_getD, List.getElem?_take, if_pos (by omega)]
    rw [this]
    exact hc j (by omega)

theorem acs_drop (l : List Ac) (k : Nat) (h : k < l.length) : l.drop k = l.getD k ac0 :: l.drop (k + 1) := by
  rw [List.drop_eq_getElem_cons h, List.getD_eq_getElem?_getD, List.getElem?_eq_getElem h]
  rfl

/-- The place of the first account for which something holds, counted from a number on; else -1. -/
def idxFrom (p : Ac → Bool) : Nat → List Ac → Int
  | _, [] => -1
  | k, a :: l => if p a = true then (k : Int) else idxFrom p (k + 1) l
def idxP (p : Ac → Bool) (l : List Ac) : Int := idxFrom p 0 l

/-- What is asked of a function that is told an account and says yes or no. -/
structure Tells (g B : Nat) (p : Ac → Bool) (w : World) : Prop where
  eg : ∀ args W, (callFunc g args).run Try.prog W = .ok (.enter g args) W
  call : ∀ x W, Below w.heap.size w W → Calls Try.prog g #[.agg x.cells, .pointer (some ⟨B, 0, none⟩)] W fun e w' => e = .returned (.bool (p x)) ∧ Below W.heap.size W w'

set_option maxHeartbeats 1000000 in
theorem chIdx_some (g B : Nat) (p : Ac → Bool) (b off cap : Nat) (l : List Ac) (w : World) (hp : Tells g B p w) (hb : b < w.heap.size) (hlen : l.length ≤ 1000) (hc : AcsAt w b off l) :
    Calls Try.prog 17 #[.slice (some ⟨b, off, none⟩) l.length cap, .func (.func g) #[] #[.pointer (some ⟨B, 0, none⟩)]] w fun e w' => e = .returned (.int .i64 (idxP p l)) ∧ Below w.heap.size w w' := by
  have eg := hp.eg
  have Hp : Hid (Tells g B p w) := hp
  have Hc : Hid (AcsAt w b off l) := hc
  have Hlen : (l.length : Int) ≤ 1000 := by omega
  clear hp hc
  obtain ⟨res, hres⟩ : ∃ res, idxP p l = res := ⟨_, rfl⟩
  have Hres : Hid (idxP p l = res) := hres
  rw [hres]
  clear hres
  go_enter Try.func17, Try.ntmps17
  go_wp2
  go_loopw [8] (fun i wr => ∃ k : Nat, k ≤ l.length ∧ i = .int .i64 k ∧ Hid (idxFrom p k (l.drop k) = res) ∧ Below w.heap.size w wr) (fun i _ => l.length - (RowKit.intOf i).toNat)
  case atStart => exact ⟨0, Nat.zero_le _, rfl, Hres.out, Below.refl _ _⟩
  case round =>
    obtain ⟨k, hk, rfl, H, BW⟩ := hrel
    by_cases hlt : k < l.length
    · have hn := (Hc.out k hlt).below BW hb
      have hcall := Hp.out.call (l.getD k ac0) wr BW
      have E : Hid ((if p (l.getD k ac0) = true then (k : Int) else idxFrom p (k + 1) (l.drop (k + 1))) = res) := by
        have := H.out
        rw [acs_drop l k hlt] at this
        exact this
      clear H
      generalize l.getD k ac0 = a at *
      obtain ⟨a0, a1, a2, a3, a4⟩ := a
      obtain ⟨c0, c1, c2, c3, c4⟩ := hn
      simp only [Ac.cells] at c0 c1 c2 c3 c4 hcall
      have i0 : (0 : Int) ≤ k := by omega
      have i1 : (k : Int) < l.length := by omega
      cases hq : p ⟨a0, a1, a2, a3, a4⟩
      · rw [hq] at hcall
        have HN : Hid (idxFrom p (k + 1) (l.drop (k + 1)) = res) := by
          have := E.out; rw [if_neg (by rw [hq]; simp)] at this; exact this
        go_wp2_with (go_at_fn g; refine hcall.mono ?_; rintro e w' ⟨rfl, hb'⟩)
        go_roundw
        case rel => exact ⟨k + 1, by omega, by go_num, HN, BW.trans (hb'.mono BW.size)⟩
        case measure => simp [RowKit.intOf]; omega
      · rw [hq] at hcall
        have er : res = k := by rw [← E.out, if_pos hq]
        subst er
        go_wp2_with (go_at_fn g; refine hcall.mono ?_; rintro e w' ⟨rfl, hb'⟩)
        go_ret
        exact ⟨rfl, BW.trans (hb'.mono BW.size)⟩
    · have hk2 : k = l.length := by omega
      subst hk2
      have er : res = -1 := by rw [← H.out, List.drop_length]; rfl
      subst er
      go_wp2
      go_ret
      exact ⟨rfl, BW⟩

theorem chIdx_none (a : Option Addr) (cap : Nat) (f : Value) (w : World) :
    Calls Try.prog 17 #[.slice a 0 cap, f] w fun e w' => e = .returned (.int .i64 (-1)) ∧ Below w.heap.size w w' := by
  go_enter Try.func17, Try.ntmps17
  go_wp2
  refine wp_loop_rounds 1 ?_
  rw [rounds_succ]
  go_wp2
  go_ret
  exact ⟨rfl, Below.refl _ _⟩

theorem chIdx_any (g B : Nat) (p : Ac → Bool) (a : Option Addr) (cap : Nat) (l : List Ac) (w : World) (hp : Tells g B p w) (hlen : l.length ≤ 1000) (h : IsSl w a l cap) :
    Calls Try.prog 17 #[.slice a l.length cap, .func (.func g) #[] #[.pointer (some ⟨B, 0, none⟩)]] w fun e w' => e = .returned (.int .i64 (idxP p l)) ∧ Below w.heap.size w w' := by
  rcases h.lies with rfl | ⟨b, off, rfl, hlt, hc⟩
  · exact chIdx_none a cap _ w
  · exact chIdx_some g B p b off cap l w hp hlt hlen hc

/-- An account with a code. -/
def hasCode (c : ByteArray) (a : Ac) : Bool := decide (a.code = c)

theorem index1_any (x : Ac) (c : ByteArray) (B : Nat) (w : World) (hB : w.cell? ⟨B, 0, none⟩ = some (.string c)) (hlt : B < w.heap.size) :
    Calls Try.prog 79 #[.agg x.cells, .pointer (some ⟨B, 0, none⟩)] w fun e w' => e = .returned (.bool (hasCode c x)) ∧ Below w.heap.size w w' := by
  obtain ⟨a0, a1, a2, a3, a4⟩ := x
  have b0 : Below w.heap.size w (w.alloc (.cells #[.string a0, .string a1, .int .i64 a2, .string a3, .bool a4] 53)) := (Below.refl _ w).alloc (Nat.le_refl _) _
  have hB2 : (w.alloc (.cells #[.string a0, .string a1, .int .i64 a2, .string a3, .bool a4] 53)).cell? ⟨B, 0, none⟩ = some (.string c) := (b0.cell (p := ⟨B, 0, none⟩) hlt).trans hB
  simp only [Ac.cells]
  by_cases h : a0 = c
  · subst h
    have e1 : hasCode a0 ⟨a0, a1, a2, a3, a4⟩ = true := by simp [hasCode]
    rw [e1]
    go_enter Try.func79, Try.ntmps79
    go_wp2
    go_ret
    exact ⟨rfl, b0⟩
  · have e1 : hasCode c ⟨a0, a1, a2, a3, a4⟩ = false := by simp [hasCode, h]
    have h' := ch_ne h
    rw [e1]
    go_enter Try.func79, Try.ntmps79
    go_wp2
    go_ret
    exact ⟨by rw [← h']; rfl, b0⟩

theorem index1_tells (c : ByteArray) (B : Nat) (w : World) (hB : w.cell? ⟨B, 0, none⟩ = some (.string c)) (hlt : B < w.heap.size) : Tells 79 B (hasCode c) w :=
  ⟨fun args W => enters Try.func79 (by kernel_rfl) ⟨_, rfl⟩ args W, fun x W hW => index1_any x c B W ((hW.cell (p := ⟨B, 0, none⟩) hlt).trans hB) (by have := hW.size; omega)⟩

theorem chIndex_any (a : Option Addr) (cap : Nat) (l : List Ac) (c : ByteArray) (w : World) (hlen : l.length ≤ 1000) (h : IsSl w a l cap) :
    Calls Try.prog 67 #[.slice a l.length cap, .string c] w fun e w' => e = .returned (.int .i64 (idxP (hasCode c) l)) ∧ Below w.heap.size w w' := by
  have b0 : Below w.heap.size w (w.alloc (.cells #[.string c] 9)) := (Below.refl _ w).alloc (Nat.le_refl _) _
  have hc := chIdx_any 79 w.heap.size (hasCode c) a cap l (w.alloc (.cells #[.string c] 9)) (index1_tells c w.heap.size _ (by simp) (by simp)) hlen (h.below b0)
  clear h
  go_enter Try.func67, Try.ntmps67
  go_wp2_with fail
  refine hc.mono ?_
  rintro e w' ⟨rfl, hb⟩
  go_wp2
  go_ret
  exact ⟨rfl, b0.trans (hb.mono (by simp))⟩

theorem idxFrom_some (p : Ac → Bool) : ∀ (l : List Ac) (k : Nat), 0 ≤ idxFrom p k l → ∃ j, j < l.length ∧ idxFrom p k l = ((k + j : Nat) : Int) ∧ p (l.getD j ac0) = true ∧ ∀ i, i < j → p (l.getD i ac0) = false
  | [], k, h => by simp [idxFrom] at h
  | a :: l, k, h => by
    by_cases hp : p a = true
    · refine ⟨0, by simp, ?_, ?_, fun i hi => absurd hi (Nat.not_lt_zero _)⟩
      · rw [idxFrom, if_pos hp]; rfl
      · simpa using hp
    · rw [idxFrom, if_neg hp] at h ⊢
      obtain ⟨j, h1, h2, h3, h4⟩ := idxFrom_some p l (k + 1) h
      refine ⟨j + 1, by simpa using h1, by rw [h2]; congr 1; omega, by simpa using h3, fun i hi => ?_⟩
      cases i with
      | zero => simpa using hp
      | succ i => simpa using h4 i (by omega)

theorem idxFrom_none (p : Ac → Bool) : ∀ (l : List Ac) (k : Nat), idxFrom p k l < 0 → ∀ i, i < l.length → p (l.getD i ac0) = false
  | [], k, h, i, hi => by simp at hi
  | a :: l, k, h, i, hi => by
    by_cases hp : p a = true
    · rw [idxFrom, if_pos hp] at h; omega
    · rw [idxFrom, if_neg hp] at h
      cases i with
      | zero => simpa using hp
      | succ i => simpa using idxFrom_none p l (k + 1) h i (by simpa using hi)

theorem idxP_some {p : Ac → Bool} {l : List Ac} (h : 0 ≤ idxP p l) : ∃ j, j < l.length ∧ idxP p l = (j : Int) ∧ p (l.getD j ac0) = true ∧ ∀ i, i < j → p (l.getD i ac0) = false := by
  obtain ⟨j, h1, h2, h3, h4⟩ := idxFrom_some p l 0 h
  exact ⟨j, h1, by rw [idxP, h2]; congr 1; omega, h3, h4⟩
theorem idxP_none {p : Ac → Bool} {l : List Ac} (h : idxP p l < 0) : ∀ i, i < l.length → p (l.getD i ac0) = false := idxFrom_none p l 0 h

/-- What is wrong with an account's parent. -/
def parBad (pre : List Ac) (x : Ac) : Int :=
  if x.par.size = 0 then 0
  else if idxP (hasCode x.par) pre < 0 then 6
  else if (pre.getD (idxP (hasCode x.par) pre).toNat ac0).kind ≠ x.kind then 12 else 0

set_option maxHeartbeats 1000000 in
theorem checkParent_any (a : Option Addr) (cap : Nat) (pre : List Ac) (x : Ac) (w : World) (hlen : pre.length ≤ 1000) (h : IsSl w a pre cap) :
    Calls Try.prog 44 #[.slice a pre.length cap, .agg x.cells] w fun e w' => e = .returned (chE (parBad pre x)) ∧ Below w.heap.size w w' := by
  have hn := AcAt.new w x 53
  have b0 : Below w.heap.size w (w.alloc (.cells x.cells 53)) := (Below.refl _ w).alloc (Nat.le_refl _) _
  have hI := chIndex_any a cap pre x.par (w.alloc (.cells x.cells 53)) hlen (h.below b0)
  obtain ⟨res, hres⟩ : ∃ res, parBad pre x = res := ⟨_, rfl⟩
  have Hres : Hid (parBad pre x = res) := hres
  rw [hres]
  clear hres
  obtain ⟨x0, x1, x2, x3, x4⟩ := x
  simp only [Ac.cells] at hn hI b0 ⊢
  have hn0 := hn
  obtain ⟨c0, c1, c2, c3, c4⟩ := hn
  simp only [Nat.zero_add] at c0 c1 c2 c3 c4
  by_cases h0 : x3.size = 0
  · have e0 := ch_empty h0
    have er : res = 0 := by rw [← Hres.out]; simp [parBad, h0]
    subst er
    go_enter Try.func44, Try.ntmps44
    go_wp2
    go_ret
    exact ⟨rfl, b0⟩
  have e0 := ch_some h0
  have e0' : x3.toList.isEmpty = false := by simpa using e0
  have HI : Hid (Calls _ _ _ _ _) := hI
  clear hI
  go_enter Try.func44, Try.ntmps44
  go_wp2_with fail
  refine HI.out.mono ?_
  rintro e w1 ⟨rfl, hb1⟩
  have hsz : w.heap.size + 1 ≤ w1.heap.size := by have := hb1.size; simpa using this
  have B1 := b0.trans (hb1.mono (by simp))
  have hn1 := hn0.below hb1 (by simp)
  clear c0 c1 c2 c3 c4 hn0 HI hb1
  by_cases h1 : idxP (hasCode x3) pre < 0
  · have er : res = 6 := by rw [← Hres.out]; simp [parBad, h0, h1]
    subst er
    go_wp2
    go_ret
    exact ⟨rfl, B1⟩
  obtain ⟨j, hj, ej, hj2, hj3⟩ := idxP_some (p := hasCode x3) (l := pre) (by omega)
  have er : res = if (pre.getD j ac0).kind ≠ x2 then 12 else 0 := by
    rw [← Hres.out]; unfold parBad
    simp only
    rw [if_neg h0, if_neg h1, ej]; rfl
  have ER : Hid (res = if (pre.getD j ac0).kind ≠ x2 then 12 else 0) := er
  rw [ej]
  clear h1 ej hj2 hj3 er Hres
  rcases h.lies with rfl | ⟨b, off, rfl, hlt, hc⟩
  · simp at hj
  have hp := (hc j hj).below B1 hlt
  clear hc h
  generalize pre.getD j ac0 = y at *
  obtain ⟨y0, y1, y2, y3, y4⟩ := y
  obtain ⟨c0, c1, c2, c3, c4⟩ := hn1
  obtain ⟨d0, d1, d2, d3, d4⟩ := hp
  simp only [Nat.zero_add] at c0 c1 c2 c3 c4 d0 d1 d2 d3 d4
  have i0 : (0 : Int) ≤ j := by omega
  have i1 : (j : Int) < pre.length := by omega
  by_cases h2 : y2 = x2
  · subst h2
    have er : res = 0 := by rw [ER.out]; simp
    subst er
    go_wp2
    go_quiet (fail)
    go_wp2
    go_ret
    exact ⟨rfl, ch_drewN B1 _⟩
  · have er : res = 12 := by rw [ER.out]; simp [h2]
    subst er
    have h2' : (y2 != x2) = true := by simp [h2]
    go_wp2
    go_quiet (fail)
    go_wp2
    go_ret
    exact ⟨rfl, ch_drewN B1 _⟩
end Go.Proofs.Ythaidbicimiljaa
