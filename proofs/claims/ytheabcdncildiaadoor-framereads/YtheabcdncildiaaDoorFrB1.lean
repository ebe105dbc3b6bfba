/-
  The contracts of frame.compare, frame.risesAt and daysame.Balances.
-/
import Derived.Test.YtheabcdncildiaaDoorFrBM
import Derived.Laws.StructEq
import Derived.Laws.Cover1
import Derived.Deep.RegionWith
import Derived.Deep.RegionHeld3
import Derived.BigRegion
import Derived.Laws.NewBlocks
namespace Go.Proofs.YtheabcdncildiaaDoor
set_option linter.unusedVariables false
set_option linter.unusedSimpArgs false
set_option maxRecDepth 100000
open Go.RowKit Go.Lib

theorem cmpNaN_any (s : ByteArray) (w : World) :
    Calls Tryd.prog 38 #[.string s] w fun e w' => e = .returned (.bool false) ∧ w' = w := by
  go_enter Tryd.func38, Tryd.ntmps38
  go_wp2
  go_ret
  exact ⟨rfl, rfl⟩

theorem cmpCompare_any (a b : ByteArray) (w : World) :
    Calls Tryd.prog 33 #[.string a, .string b] w fun e w' => e = .returned (.int .i64 (cmpS a b)) ∧ w' = w := by
  cases h1 : Op.bytesLess a.toList b.toList
  · cases h2 : (a.toList == b.toList)
    · have er : cmpS a b = 1 := by simp only [cmpS]; rw [h1, h2]; rfl
      rw [er]
      have h2' : ¬ a.toList = b.toList := by simpa using h2
      clear er
      go_enter Tryd.func33, Tryd.ntmps33
      go_wp2_with (go_at_call 38; refine (cmpNaN_any _ _).mono ?_; rintro e w' ⟨rfl, rfl⟩)
      go_ret
      exact ⟨rfl, rfl⟩
    · have er : cmpS a b = 0 := by simp only [cmpS]; rw [h1, h2]; rfl
      rw [er]
      have h2' : a = b := toList_inj (by simpa using h2)
      subst h2'
      clear er h2
      go_enter Tryd.func33, Tryd.ntmps33
      go_wp2_with (go_at_call 38; refine (cmpNaN_any _ _).mono ?_; rintro e w' ⟨rfl, rfl⟩)
      go_ret
      exact ⟨rfl, rfl⟩
  · have er : cmpS a b = -1 := by simp only [cmpS]; rw [h1]; rfl
    rw [er]
    clear er
    go_enter Tryd.func33, Tryd.ntmps33
    go_wp2_with (go_at_call 38; refine (cmpNaN_any _ _).mono ?_; rintro e w' ⟨rfl, rfl⟩)
    go_ret
    exact ⟨rfl, rfl⟩


theorem cmpNaNI_any (n : Int) (w : World) :
    Calls Tryd.prog 37 #[.int .i64 n] w fun e w' => e = .returned (.bool false) ∧ w' = w := by
  go_enter Tryd.func37, Tryd.ntmps37
  go_wp2
  go_ret
  exact ⟨rfl, rfl⟩
theorem cmpCompareI_any (a b : Int) (w : World) :
    Calls Tryd.prog 32 #[.int .i64 a, .int .i64 b] w fun e w' => e = .returned (.int .i64 (cmpI a b)) ∧ w' = w := by
  by_cases h1 : a < b
  · have er : cmpI a b = -1 := if_pos h1
    rw [er]
    go_enter Tryd.func32, Tryd.ntmps32
    go_wp2_with (go_at_call 37; refine (cmpNaNI_any _ _).mono ?_; rintro e w' ⟨rfl, rfl⟩)
    go_ret
    exact ⟨rfl, rfl⟩
  · by_cases h2 : b < a
    · have er : cmpI a b = 1 := by unfold cmpI; rw [if_neg h1, if_pos h2]
      rw [er]
      go_enter Tryd.func32, Tryd.ntmps32
      go_wp2_with (go_at_call 37; refine (cmpNaNI_any _ _).mono ?_; rintro e w' ⟨rfl, rfl⟩)
      go_ret
      exact ⟨rfl, rfl⟩
    · have er : cmpI a b = 0 := by unfold cmpI; rw [if_neg h1, if_neg h2]
      rw [er]
      go_enter Tryd.func32, Tryd.ntmps32
      go_wp2_with (go_at_call 37; refine (cmpNaNI_any _ _).mono ?_; rintro e w' ⟨rfl, rfl⟩)
      go_ret
      exact ⟨rfl, rfl⟩

theorem cmpOr3_any (b : Nat) (x y z : Int) (w : World) (h0 : w.cell? ⟨b, 0, none⟩ = some (.int .i64 x)) (h1 : w.cell? ⟨b, 1, none⟩ = some (.int .i64 y)) (h2 : w.cell? ⟨b, 2, none⟩ = some (.int .i64 z)) :
    Calls Tryd.prog 31 #[.slice (some ⟨b, 0, none⟩) 3 3] w fun e w' => e = .returned (.int .i64 (if x ≠ 0 then x else if y ≠ 0 then y else z)) ∧ w' = w := by
  by_cases hx : x = 0
  · subst hx
    rw [if_neg (by simp)]
    by_cases hy : y = 0
    · subst hy
      rw [if_neg (by simp)]
      by_cases hz : z = 0
      · subst hz
        go_enter Tryd.func31, Tryd.ntmps31
        go_wp2
        refine wp_loop_rounds 4 ?_
        rw [rounds_succ]
        go_wp2
        rw [rounds_succ]
        go_wp2
        rw [rounds_succ]
        go_wp2
        rw [rounds_succ]
        go_wp2
        go_ret
        exact ⟨rfl, rfl⟩
      · have hz' : (z != 0) = true := by simp [hz]
        go_enter Tryd.func31, Tryd.ntmps31
        go_wp2
        refine wp_loop_rounds 4 ?_
        rw [rounds_succ]
        go_wp2
        rw [rounds_succ]
        go_wp2
        rw [rounds_succ]
        go_wp2
        go_ret
        exact ⟨rfl, rfl⟩
    · rw [if_pos hy]
      have hy' : (y != 0) = true := by simp [hy]
      go_enter Tryd.func31, Tryd.ntmps31
      go_wp2
      refine wp_loop_rounds 4 ?_
      rw [rounds_succ]
      go_wp2
      rw [rounds_succ]
      go_wp2
      go_ret
      exact ⟨rfl, rfl⟩
  · rw [if_pos hx]
    have hx' : (x != 0) = true := by simp [hx]
    go_enter Tryd.func31, Tryd.ntmps31
    go_wp2
    refine wp_loop_rounds 4 ?_
    rw [rounds_succ]
    go_wp2
    go_ret
    exact ⟨rfl, rfl⟩

theorem cell_new (W : World) (ROW : Array Value) (t : TypeId) (b j : Nat) (v : Value) (hb : b = W.heap.size) (hv : ROW[j]? = some v) : ((W.alloc (.cells ROW t)).drew).cell? ⟨b, j, none⟩ = some v :=
  (World.cell?_alloc_at (w := W) ROW t b j hb).trans hv


set_option maxHeartbeats 4000000 in
theorem compareB_any (x y : Bl) (w : World) :
    Calls Tryd.prog 25 #[.agg x.cells, .agg y.cells] w fun e w' => e = .returned (.int .i64 (cmpB x y)) ∧ Below w.heap.size w w' := by
  obtain ⟨x0, x1, x2, x3⟩ := x
  obtain ⟨y0, y1, y2, y3⟩ := y
  simp only [Bl.cells, cmpB]
  obtain ⟨V, hV⟩ : ∃ V, (w.alloc (.cells #[.int .i64 x0, .string x1, .string x2, .int .i64 x3] 56)).alloc (.cells #[.int .i64 y0, .string y1, .string y2, .int .i64 y3] 56) = V := ⟨_, rfl⟩
  have c0 : ((V.alloc (.cells #[.int .i64 (cmpI x0 y0), .int .i64 (cmpS x1 y1), .int .i64 (cmpS x2 y2)] 3)).drew).cell? ⟨w.heap.size + 1 + 1, 0, none⟩ = some (.int .i64 (cmpI x0 y0)) := cell_new _ _ _ _ _ _ (by rw [← hV]; simp) rfl
  have c1 : ((V.alloc (.cells #[.int .i64 (cmpI x0 y0), .int .i64 (cmpS x1 y1), .int .i64 (cmpS x2 y2)] 3)).drew).cell? ⟨w.heap.size + 1 + 1, 1, none⟩ = some (.int .i64 (cmpS x1 y1)) := cell_new _ _ _ _ _ _ (by rw [← hV]; simp) rfl
  have c2 : ((V.alloc (.cells #[.int .i64 (cmpI x0 y0), .int .i64 (cmpS x1 y1), .int .i64 (cmpS x2 y2)] 3)).drew).cell? ⟨w.heap.size + 1 + 1, 2, none⟩ = some (.int .i64 (cmpS x2 y2)) := cell_new _ _ _ _ _ _ (by rw [← hV]; simp) rfl
  have hO := cmpOr3_any _ _ _ _ _ c0 c1 c2
  have bl : Below w.heap.size w ((V.alloc (.cells #[.int .i64 (cmpI x0 y0), .int .i64 (cmpS x1 y1), .int .i64 (cmpS x2 y2)] 3)).drew) := by
    rw [← hV]
    exact ((((Below.refl _ w).alloc (Nat.le_refl _) _).alloc (by simp) _).alloc (by simp; omega) _).drew
  subst hV
  clear c0 c1 c2
  obtain ⟨r, hr⟩ : ∃ r, (if cmpI x0 y0 ≠ 0 then cmpI x0 y0 else if cmpS x1 y1 ≠ 0 then cmpS x1 y1 else cmpS x2 y2) = r := ⟨_, rfl⟩
  rw [hr] at hO ⊢
  clear hr
  go_enter Tryd.func25, Tryd.ntmps25
  go_wp2
  go_region_held3 (fun u => (u.cell? ⟨w.heap.size, 0, none⟩ = some (.int .i64 x0) ∧ u.cell? ⟨w.heap.size, 1, none⟩ = some (.string x1) ∧ u.cell? ⟨w.heap.size, 2, none⟩ = some (.string x2)) ∧ u.cell? ⟨w.heap.size + 1, 0, none⟩ = some (.int .i64 y0) ∧ u.cell? ⟨w.heap.size + 1, 1, none⟩ = some (.string y1) ∧ u.cell? ⟨w.heap.size + 1, 2, none⟩ = some (.string y2)) (go_keep) (first | (go_at_call 32; refine (cmpCompareI_any _ _ _).mono ?_; rintro e w' ⟨rfl, rfl⟩) | (go_at_call 33; refine (cmpCompare_any _ _ _).mono ?_; rintro e w' ⟨rfl, rfl⟩) | (go_at_call 31; refine hO.mono ?_; rintro e w' ⟨rfl, rfl⟩))
  all_goals
    go_wp2
    go_ret
    exact ⟨rfl, bl⟩

/-- Does a balance stand behind the one ahead? -/
def risesB (l : List Bl) (k : Nat) : Bool := decide (ordAt l k = 0)
theorem rises_zero (a : Option Addr) (cap n : Nat) (w : World) :
    Calls Tryd.prog 20 #[.slice a n cap, .int .i64 0] w fun e w' => e = .returned (.bool true) ∧ Below w.heap.size w w' := by
  go_enter Tryd.func20, Tryd.ntmps20
  go_wp2_with fail
  go_quiet (fail)
  go_wp2
  go_ret
  exact ⟨rfl, en_drewN (Below.refl _ _) _⟩

set_option maxHeartbeats 4000000 in
theorem rises_succ (b off cap m : Nat) (l : List Bl) (w : World) (hb : b < w.heap.size) (hlen : l.length ≤ 1000) (hm : m + 1 < l.length) (hc : BlsAt w b off l) :
    Calls Tryd.prog 20 #[.slice (some ⟨b, off, none⟩) l.length cap, .int .i64 ((m : Int) + 1)] w fun e w' => e = .returned (.bool (risesB l (m + 1))) ∧ Below w.heap.size w w' := by
  have hx := hc m (by omega)
  have hy := hc (m + 1) hm
  have er : risesB l (m + 1) = decide (cmpB (l.getD m bl0) (l.getD (m + 1) bl0) < 0) := by
    unfold risesB ordAt
    simp only [Nat.add_sub_cancel]
    by_cases h : cmpB (l.getD m bl0) (l.getD (m + 1) bl0) < 0
    · rw [if_pos (.inr h), decide_eq_true h]; rfl
    · rw [if_neg (by rintro (h' | h'); omega; exact h h'), decide_eq_false h]; rfl
  rw [er]
  clear er hc
  have e4 : off + (m + 1) * 4 = off + m * 4 + 4 := by omega
  generalize l.getD m bl0 = x at *
  generalize l.getD (m + 1) bl0 = y at *
  have HC : Hid (∀ W, Calls Tryd.prog 25 #[.agg x.cells, .agg y.cells] W fun e w' => e = .returned (.int .i64 (cmpB x y)) ∧ Below W.heap.size W w') := fun W => compareB_any x y W
  generalize cmpB x y = c at *
  obtain ⟨x0, x1, x2, x3⟩ := x
  obtain ⟨y0, y1, y2, y3⟩ := y
  obtain ⟨d0, d1, d2, d3⟩ := hx
  obtain ⟨f0, f1, f2, f3⟩ := hy
  simp only [Bl.cells] at d0 d1 d2 d3 f0 f1 f2 f3 HC
  have HK : Hid (∀ W V, Below W.heap.size W V → b < W.heap.size → (W.cell? ⟨b, off + m * 4, none⟩ = some (.int .i64 x0) ∧ W.cell? ⟨b, off + m * 4 + 1, none⟩ = some (.string x1) ∧ W.cell? ⟨b, off + m * 4 + 2, none⟩ = some (.string x2) ∧ W.cell? ⟨b, off + m * 4 + 3, none⟩ = some (.int .i64 x3)) ∧ W.cell? ⟨b, off + (m + 1) * 4, none⟩ = some (.int .i64 y0) ∧ W.cell? ⟨b, off + (m + 1) * 4 + 1, none⟩ = some (.string y1) ∧ W.cell? ⟨b, off + (m + 1) * 4 + 2, none⟩ = some (.string y2) ∧ W.cell? ⟨b, off + (m + 1) * 4 + 3, none⟩ = some (.int .i64 y3) → (V.cell? ⟨b, off + m * 4, none⟩ = some (.int .i64 x0) ∧ V.cell? ⟨b, off + m * 4 + 1, none⟩ = some (.string x1) ∧ V.cell? ⟨b, off + m * 4 + 2, none⟩ = some (.string x2) ∧ V.cell? ⟨b, off + m * 4 + 3, none⟩ = some (.int .i64 x3)) ∧ V.cell? ⟨b, off + (m + 1) * 4, none⟩ = some (.int .i64 y0) ∧ V.cell? ⟨b, off + (m + 1) * 4 + 1, none⟩ = some (.string y1) ∧ V.cell? ⟨b, off + (m + 1) * 4 + 2, none⟩ = some (.string y2) ∧ V.cell? ⟨b, off + (m + 1) * 4 + 3, none⟩ = some (.int .i64 y3)) := fun W V hB hlt hh => by
    have C : ∀ o, V.cell? ⟨b, o, none⟩ = W.cell? ⟨b, o, none⟩ := fun o => hB.cell (p := ⟨b, o, none⟩) hlt
    simp only [C]
    exact hh
  have i0 : (0 : Int) ≤ m := by omega
  have i1 : (m : Int) + 1 < l.length := by omega
  have i2 : (m : Int) < l.length := by omega
  have i3 : (l.length : Int) ≤ 1000 := by omega
  have i4 : ¬ ((m : Int) + 1 = 0) := by omega
  have i5 : (((m : Int) + 1) == 0) = false := by simp; omega
  have i6 : (m : Int) + 1 - 1 = m := by omega
  have i7 : ((m : Int) + 1).toNat = m + 1 := by omega
  have i8 : (0 : Int) ≤ (m : Int) + 1 := by omega
  have iw1 : IntKind.i64.wrap (m : Int) = m := by
    simp only [IntKind.wrap, IntKind.bits, IntKind.signed]
    simp
    omega
  have iw2 : IntKind.i64.wrap ((m : Int) + 1 - 1) = m := by rw [i6, iw1]
  clear e4
  go_enter Tryd.func20, Tryd.ntmps20
  go_wp2_with fail
  go_region_held3 (fun u => (u.cell? ⟨b, off + m * 4, none⟩ = some (.int .i64 x0) ∧ u.cell? ⟨b, off + m * 4 + 1, none⟩ = some (.string x1) ∧ u.cell? ⟨b, off + m * 4 + 2, none⟩ = some (.string x2) ∧ u.cell? ⟨b, off + m * 4 + 3, none⟩ = some (.int .i64 x3)) ∧ u.cell? ⟨b, off + (m + 1) * 4, none⟩ = some (.int .i64 y0) ∧ u.cell? ⟨b, off + (m + 1) * 4 + 1, none⟩ = some (.string y1) ∧ u.cell? ⟨b, off + (m + 1) * 4 + 2, none⟩ = some (.string y2) ∧ u.cell? ⟨b, off + (m + 1) * 4 + 3, none⟩ = some (.int .i64 y3)) (go_keep) (first | (go_at_call 25; refine (HC.out _).mono ?_; rintro e w' ⟨rfl, hb'⟩; obtain ⟨⟨p0, p1, p2, p3⟩, p4, p5, p6, p7⟩ := HK.out _ _ hb' (by simpa using hb) (by simpa using ⟨⟨d0, d1, d2, d3⟩, f0, f1, f2, f3⟩)))
  all_goals
    go_wp2
    go_ret
    exact ⟨rfl, (Below.refl _ _).drew.trans hb'⟩

theorem rises_any (a : Option Addr) (cap k : Nat) (l : List Bl) (w : World) (hlen : l.length ≤ 1000) (hk : k < l.length) (h : IsBl w a l cap) :
    Calls Tryd.prog 20 #[.slice a l.length cap, .int .i64 k] w fun e w' => e = .returned (.bool (risesB l k)) ∧ Below w.heap.size w w' := by
  rcases h.lies with h0 | ⟨b, off, rfl, hlt, hc⟩
  · rw [h0] at hk; simp at hk
  rcases k with _ | m
  · have : risesB l 0 = true := by simp [risesB, ordAt]
    rw [this]
    exact rises_zero _ _ _ w
  · exact rises_succ b off cap m l w hlt hlen hk hc

theorem bal_struct : Tryd.prog.underlying 56 = some (.struct (Tryd.prog.fieldsOf 56)) := by kernel_rfl
theorem bal_stood : Tryd.prog.stoodInHeld 56 = false := by kernel_rfl
theorem bal_same (x0 : Int) (x1 x2 : ByteArray) (x3 : Int) (W : World) : (binOp .neq 56 (.agg #[.int .i64 x0, .string x1, .string x2, .int .i64 x3]) (.agg #[.int .i64 x0, .string x1, .string x2, .int .i64 x3])).run Tryd.prog W = .ok (.bool false) W := by
  rw [run_neq_struct, show (10000 : Nat) = 9998 + 1 + 1 from rfl, run_equalIn_agg W (9998 + 1) 56 _ _ bal_struct bal_stood]
  unfold Program.fieldsOf
  rw [Tryd.underlying56]
  simp [Op.eqFields, part, go_sem, run_equalIn_string W 9998 9 _ _ Tryd.underlying9, run_equalIn_int W 9998 3 .i64 .i64 _ _ Tryd.underlying3, Tryd.isAgg9, Tryd.isAgg3]

set_option maxHeartbeats 1000000 in
theorem sameBals_any (a1 a2 : Option Addr) (c1 c2 : Nat) (l : List Bl) (w : World) (hlen : l.length ≤ 1000) (h1 : IsBl w a1 l c1) (h2 : IsBl w a2 l c2) :
    Calls Tryd.prog 10 #[.slice a1 l.length c1, .slice a2 l.length c2] w fun e w' => e = .returned (.bool true) ∧ Below w.heap.size w w' := by
  have Hlen : (l.length : Int) ≤ 1000 := by omega
  have H1 : Hid (l = [] ∨ _) := h1.lies
  have H2 : Hid (l = [] ∨ _) := h2.lies
  clear h1 h2
  have hS := bal_same
  go_enter Tryd.func10, Tryd.ntmps10
  go_wp2
  go_loopw [5] (fun i wr => ∃ k : Nat, k ≤ l.length ∧ i = .int .i64 k ∧ ∃ n, wr = w.drewN n) (fun i _ => l.length - (intOf i).toNat)
  case atStart => exact ⟨0, Nat.zero_le _, rfl, 0, rfl⟩
  case round =>
    obtain ⟨k, hk, rfl, nd, rfl⟩ := hrel
    by_cases hlt : k < l.length
    · rcases H1.out with h | ⟨g1, o1, rfl, _, q1⟩
      · rw [h] at hlt; simp at hlt
      rcases H2.out with h | ⟨g2, o2, rfl, _, q2⟩
      · rw [h] at hlt; simp at hlt
      have d1 := q1 k hlt
      have d2 := q2 k hlt
      clear q1 q2 H1 H2
      generalize l.getD k bl0 = x at *
      obtain ⟨x0, x1, x2, x3⟩ := x
      obtain ⟨e0, e1, e2, e3⟩ := d1
      obtain ⟨f0, f1, f2, f3⟩ := d2
      simp only at e0 e1 e2 e3 f0 f1 f2 f3
      have i0 : (0 : Int) ≤ k := by omega
      have i1 : (k : Int) < l.length := by omega
      go_wp2_with fail
      go_quiet (fail)
      go_wp2
      go_roundw
      case rel => exact ⟨k + 1, by omega, by go_num, _, rfl⟩
      case measure => simp [intOf]; omega
    · have hk2 : k = l.length := by omega
      subst hk2
      go_wp2
      go_ret
      exact ⟨rfl, en_drewN (Below.refl _ _) _⟩
end Go.Proofs.YtheabcdncildiaaDoor
