/-
  The contracts of ledger.compare, ledger.isWithin, ledger.Check, daysame.Balances, and of slices.SortFunc over balances.
-/
import Derived.Test.YtcamimjjmcdbcaaLdM
import Derived.Test.YtcamimjjmcdbcaaShelf
namespace Go.Proofs.Ytcamimjjmcdbcaa
set_option linter.unusedVariables false
set_option linter.unusedSimpArgs false
set_option maxRecDepth 100000
open Go.RowKit Go.Lib

theorem ldNaN_any (s : ByteArray) (w : World) :
    Calls Try.prog 33 #[.string s] w fun e w' => e = .returned (.bool false) ∧ w' = w := by
  go_enter Try.func33, Try.ntmps33
  go_wp2
  go_ret
  exact ⟨rfl, rfl⟩

theorem ldCompare_any (a b : ByteArray) (w : World) :
    Calls Try.prog 26 #[.string a, .string b] w fun e w' => e = .returned (.int .i64 (cmpS a b)) ∧ w' = w := by
  cases h1 : Op.bytesLess a.toList b.toList
  · cases h2 : (a.toList == b.toList)
    · have er : cmpS a b = 1 := by simp only [cmpS]; rw [h1, h2]; rfl
      rw [er]
      have h2' : ¬ a.toList = b.toList := by simpa using h2
      clear er
      go_enter Try.func26, Try.ntmps26
      go_wp2_with (go_at_call 33; refine (ldNaN_any _ _).mono ?_; rintro e w' ⟨rfl, rfl⟩)
      go_ret
      exact ⟨rfl, rfl⟩
    · have er : cmpS a b = 0 := by simp only [cmpS]; rw [h1, h2]; rfl
      rw [er]
      have h2' : a = b := toList_inj (by simpa using h2)
      subst h2'
      clear er h2
      go_enter Try.func26, Try.ntmps26
      go_wp2_with (go_at_call 33; refine (ldNaN_any _ _).mono ?_; rintro e w' ⟨rfl, rfl⟩)
      go_ret
      exact ⟨rfl, rfl⟩
  · have er : cmpS a b = -1 := by simp only [cmpS]; rw [h1]; rfl
    rw [er]
    clear er
    go_enter Try.func26, Try.ntmps26
    go_wp2_with (go_at_call 33; refine (ldNaN_any _ _).mono ?_; rintro e w' ⟨rfl, rfl⟩)
    go_ret
    exact ⟨rfl, rfl⟩


theorem ldNaNI_any (n : Int) (w : World) :
    Calls Try.prog 32 #[.int .i64 n] w fun e w' => e = .returned (.bool false) ∧ w' = w := by
  go_enter Try.func32, Try.ntmps32
  go_wp2
  go_ret
  exact ⟨rfl, rfl⟩
theorem ldCompareI_any (a b : Int) (w : World) :
    Calls Try.prog 25 #[.int .i64 a, .int .i64 b] w fun e w' => e = .returned (.int .i64 (cmpI a b)) ∧ w' = w := by
  by_cases h1 : a < b
  · have er : cmpI a b = -1 := if_pos h1
    rw [er]
    go_enter Try.func25, Try.ntmps25
    go_wp2_with (go_at_call 32; refine (ldNaNI_any _ _).mono ?_; rintro e w' ⟨rfl, rfl⟩)
    go_ret
    exact ⟨rfl, rfl⟩
  · by_cases h2 : b < a
    · have er : cmpI a b = 1 := by unfold cmpI; rw [if_neg h1, if_pos h2]
      rw [er]
      go_enter Try.func25, Try.ntmps25
      go_wp2_with (go_at_call 32; refine (ldNaNI_any _ _).mono ?_; rintro e w' ⟨rfl, rfl⟩)
      go_ret
      exact ⟨rfl, rfl⟩
    · have er : cmpI a b = 0 := by unfold cmpI; rw [if_neg h1, if_neg h2]
      rw [er]
      go_enter Try.func25, Try.ntmps25
      go_wp2_with (go_at_call 32; refine (ldNaNI_any _ _).mono ?_; rintro e w' ⟨rfl, rfl⟩)
      go_ret
      exact ⟨rfl, rfl⟩

theorem ldOr3_any (b : Nat) (x y z : Int) (w : World) (h0 : w.cell? ⟨b, 0, none⟩ = some (.int .i64 x)) (h1 : w.cell? ⟨b, 1, none⟩ = some (.int .i64 y)) (h2 : w.cell? ⟨b, 2, none⟩ = some (.int .i64 z)) :
    Calls Try.prog 24 #[.slice (some ⟨b, 0, none⟩) 3 3] w fun e w' => e = .returned (.int .i64 (if x ≠ 0 then x else if y ≠ 0 then y else z)) ∧ w' = w := by
  by_cases hx : x = 0
  · subst hx
    rw [if_neg (by simp)]
    by_cases hy : y = 0
    · subst hy
      rw [if_neg (by simp)]
      by_cases hz : z = 0
      · subst hz
        go_enter Try.func24, Try.ntmps24
        go_wp2
        refine wp_loop_rounds 4 ?_
        rw [rounds_succ]
        go_wp2
        rw [rounds_succ]
        go_wp2
        rw [rounds_succ]
        go_wp2
        rw [rounds_succ]
        go_wp2
        go_ret
        exact ⟨rfl, rfl⟩
      · have hz' : (z != 0) = true := by simp [hz]
        go_enter Try.func24, Try.ntmps24
        go_wp2
        refine wp_loop_rounds 4 ?_
        rw [rounds_succ]
        go_wp2
        rw [rounds_succ]
        go_wp2
        rw [rounds_succ]
        go_wp2
        go_ret
        exact ⟨rfl, rfl⟩
    · rw [if_pos hy]
      have hy' : (y != 0) = true := by simp [hy]
      go_enter Try.func24, Try.ntmps24
      go_wp2
      refine wp_loop_rounds 4 ?_
      rw [rounds_succ]
      go_wp2
      rw [rounds_succ]
      go_wp2
      go_ret
      exact ⟨rfl, rfl⟩
  · rw [if_pos hx]
    have hx' : (x != 0) = true := by simp [hx]
    go_enter Try.func24, Try.ntmps24
    go_wp2
    refine wp_loop_rounds 4 ?_
    rw [rounds_succ]
    go_wp2
    go_ret
    exact ⟨rfl, rfl⟩

theorem ld_cell_new (W : World) (ROW : Array Value) (t : TypeId) (b j : Nat) (v : Value) (hb : b = W.heap.size) (hv : ROW[j]? = some v) : ((W.alloc (.cells ROW t)).drew).cell? ⟨b, j, none⟩ = some v :=
  (World.cell?_alloc_at (w := W) ROW t b j hb).trans hv


set_option maxHeartbeats 4000000 in
theorem ldCompareB_at (x y : Bl) (w : World) :
    Calls Try.prog 19 #[.agg x.cells, .agg y.cells] w fun e w' => e = .returned (.int .i64 (cmpB x y)) ∧ ∃ q os, w' = Sort.grow (w.drewN q) os := by
  obtain ⟨x0, x1, x2, x3⟩ := x
  obtain ⟨y0, y1, y2, y3⟩ := y
  simp only [Bl.cells, cmpB]
  obtain ⟨V, hV⟩ : ∃ V, (w.alloc (.cells #[.int .i64 x0, .string x1, .string x2, .int .i64 x3] 28)).alloc (.cells #[.int .i64 y0, .string y1, .string y2, .int .i64 y3] 28) = V := ⟨_, rfl⟩
  have c0 : ((V.alloc (.cells #[.int .i64 (cmpI x0 y0), .int .i64 (cmpS x1 y1), .int .i64 (cmpS x2 y2)] 3)).drew).cell? ⟨w.heap.size + 1 + 1, 0, none⟩ = some (.int .i64 (cmpI x0 y0)) := ld_cell_new _ _ _ _ _ _ (by rw [← hV]; simp) rfl
  have c1 : ((V.alloc (.cells #[.int .i64 (cmpI x0 y0), .int .i64 (cmpS x1 y1), .int .i64 (cmpS x2 y2)] 3)).drew).cell? ⟨w.heap.size + 1 + 1, 1, none⟩ = some (.int .i64 (cmpS x1 y1)) := ld_cell_new _ _ _ _ _ _ (by rw [← hV]; simp) rfl
  have c2 : ((V.alloc (.cells #[.int .i64 (cmpI x0 y0), .int .i64 (cmpS x1 y1), .int .i64 (cmpS x2 y2)] 3)).drew).cell? ⟨w.heap.size + 1 + 1, 2, none⟩ = some (.int .i64 (cmpS x2 y2)) := ld_cell_new _ _ _ _ _ _ (by rw [← hV]; simp) rfl
  have hO := ldOr3_any _ _ _ _ _ c0 c1 c2
  have bl : ∃ q os, ((V.alloc (.cells #[.int .i64 (cmpI x0 y0), .int .i64 (cmpS x1 y1), .int .i64 (cmpS x2 y2)] 3)).drew) = Sort.grow (w.drewN q) os := by
    rw [← hV]
    exact ⟨1, _, by rw [Sort.alloc_eq_grow, Sort.alloc_eq_grow, Sort.alloc_eq_grow, Sort.grow_grow, Sort.grow_grow, Sort.drew_grow]; rfl⟩
  subst hV
  clear c0 c1 c2
  obtain ⟨r, hr⟩ : ∃ r, (if cmpI x0 y0 ≠ 0 then cmpI x0 y0 else if cmpS x1 y1 ≠ 0 then cmpS x1 y1 else cmpS x2 y2) = r := ⟨_, rfl⟩
  rw [hr] at hO ⊢
  clear hr
  go_enter Try.func19, Try.ntmps19
  go_wp2
  go_region_held3 (fun u => (u.cell? ⟨w.heap.size, 0, none⟩ = some (.int .i64 x0) ∧ u.cell? ⟨w.heap.size, 1, none⟩ = some (.string x1) ∧ u.cell? ⟨w.heap.size, 2, none⟩ = some (.string x2)) ∧ u.cell? ⟨w.heap.size + 1, 0, none⟩ = some (.int .i64 y0) ∧ u.cell? ⟨w.heap.size + 1, 1, none⟩ = some (.string y1) ∧ u.cell? ⟨w.heap.size + 1, 2, none⟩ = some (.string y2)) (go_keep) (first | (go_at_call 25; refine (ldCompareI_any _ _ _).mono ?_; rintro e w' ⟨rfl, rfl⟩) | (go_at_call 26; refine (ldCompare_any _ _ _).mono ?_; rintro e w' ⟨rfl, rfl⟩) | (go_at_call 24; refine hO.mono ?_; rintro e w' ⟨rfl, rfl⟩))
  all_goals
    go_wp2
    go_ret
    exact ⟨rfl, bl⟩

theorem grow_below (w : World) (q : Nat) (os : Array Obj) : Below w.heap.size w (Sort.grow (w.drewN q) os) :=
  ⟨rfl, rfl, rfl, by rw [Sort.size_grow]; exact Nat.le_add_right _ _, fun b hb => Sort.heap_grow_old (w.drewN q) os hb⟩
theorem ldCompareB_any (x y : Bl) (w : World) :
    Calls Try.prog 19 #[.agg x.cells, .agg y.cells] w fun e w' => e = .returned (.int .i64 (cmpB x y)) ∧ Below w.heap.size w w' :=
  (ldCompareB_at x y w).mono fun e w' ⟨h, q, os, hw⟩ => ⟨h, by rw [hw]; exact grow_below w q os⟩
theorem isWithin_any (n m : Int) (hm : -9223372036854775808 ≤ -m ∧ -m ≤ 9223372036854775807) (w : World) :
    Calls Try.prog 15 #[.int .i64 n, .int .i64 m] w fun e w' => e = .returned (.bool (decide (-m ≤ n ∧ n ≤ m))) ∧ w' = w := by
  have hw : IntKind.i64.wrap (-m) = -m := by
    simp only [IntKind.wrap, IntKind.bits, IntKind.signed]
    simp
    omega
  by_cases h1 : -m ≤ n
  · by_cases h2 : n ≤ m
    · rw [decide_eq_true ⟨h1, h2⟩]
      go_enter Try.func15, Try.ntmps15
      go_wp2
      go_ret
      exact ⟨rfl, rfl⟩
    · rw [decide_eq_false (fun h => h2 h.2)]
      go_enter Try.func15, Try.ntmps15
      go_wp2
      go_ret
      exact ⟨rfl, rfl⟩
  · rw [decide_eq_false (fun h => h1 h.1)]
    go_enter Try.func15, Try.ntmps15
    go_wp2
    go_ret
    exact ⟨rfl, rfl⟩
theorem bal_struct : Try.prog.underlying 28 = some (.struct (Try.prog.fieldsOf 28)) := by kernel_rfl
theorem bal_stood : Try.prog.stoodInHeld 28 = false := by kernel_rfl
theorem bal_same (x0 : Int) (x1 x2 : ByteArray) (x3 : Int) (W : World) : (binOp .neq 28 (.agg #[.int .i64 x0, .string x1, .string x2, .int .i64 x3]) (.agg #[.int .i64 x0, .string x1, .string x2, .int .i64 x3])).run Try.prog W = .ok (.bool false) W := by
  rw [run_neq_struct, show (10000 : Nat) = 9998 + 1 + 1 from rfl, run_equalIn_agg W (9998 + 1) 28 _ _ bal_struct bal_stood]
  unfold Program.fieldsOf
  rw [Try.underlying28]
  simp [Op.eqFields, part, go_sem, run_equalIn_string W 9998 9 _ _ Try.underlying9, run_equalIn_int W 9998 3 .i64 .i64 _ _ Try.underlying3, Try.isAgg9, Try.isAgg3]

set_option maxHeartbeats 1000000 in
theorem sameBals_any (a1 a2 : Option Addr) (c1 c2 : Nat) (l : List Bl) (w : World) (hlen : l.length ≤ 1000) (h1 : IsBl w a1 l c1) (h2 : IsBl w a2 l c2) :
    Calls Try.prog 6 #[.slice a1 l.length c1, .slice a2 l.length c2] w fun e w' => e = .returned (.bool true) ∧ Below w.heap.size w w' := by
  have Hlen : (l.length : Int) ≤ 1000 := by omega
  have H1 : Hid (l = [] ∨ _) := h1.lies
  have H2 : Hid (l = [] ∨ _) := h2.lies
  clear h1 h2
  have hS := bal_same
  go_enter Try.func6, Try.ntmps6
  go_wp2
  go_loopw [5] (fun i wr => ∃ k : Nat, k ≤ l.length ∧ i = .int .i64 k ∧ ∃ n, wr = w.drewN n) (fun i _ => l.length - (intOf i).toNat)
  case atStart => exact ⟨0, Nat.zero_le _, rfl, 0, rfl⟩
  case round =>
    obtain ⟨k, hk, rfl, nd, rfl⟩ := hrel
    by_cases hlt : k < l.length
    · rcases H1.out with h | ⟨g1, o1, rfl, _, q1⟩
      · rw [h] at hlt; simp at hlt
      rcases H2.out with h | ⟨g2, o2, rfl, _, q2⟩
      · rw [h] at hlt; simp at hlt
      have d1 := q1 k hlt
      have d2 := q2 k hlt
      clear q1 q2 H1 H2
      generalize l.getD k bl0 = x at *
      obtain ⟨x0, x1, x2, x3⟩ := x
      obtain ⟨e0, e1, e2, e3⟩ := d1
      obtain ⟨f0, f1, f2, f3⟩ := d2
      simp only at e0 e1 e2 e3 f0 f1 f2 f3
      have i0 : (0 : Int) ≤ k := by omega
      have i1 : (k : Int) < l.length := by omega
      go_wp2_with fail
      go_quiet (fail)
      go_wp2
      go_roundw
      case rel => exact ⟨k + 1, by omega, by go_num, _, rfl⟩
      case measure => simp [intOf]; omega
    · have hk2 : k = l.length := by omega
      subst hk2
      go_wp2
      go_ret
      exact ⟨rfl, en_drewN (Below.refl _ _) _⟩
end Go.Proofs.Ytcamimjjmcdbcaa
