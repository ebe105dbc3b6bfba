/-
  The contracts of rate.divisor (the greatest number that divides both) and rate.chain (one rate after the other).
-/
import Derived.Test.YtoggclbhjoodoaaDoorRate1
import Derived.Deep.RegionHeld3
import Derived.OwnWalk
namespace Go.Proofs.YtoggclbhjoodoaaDoor
set_option linter.unusedVariables false
open Go.RowKit Go.Lib

theorem divisor_any (a b : Nat) (w : World) (ha : a < 9223372036854775808) (hb : b < 9223372036854775808) :
    Calls Tryd.prog 43 #[.int .i64 a, .int .i64 b] w fun e w' => e = .returned (.int .i64 (Nat.gcd a b)) ∧ Below w.heap.size w w' := by
  have Hab : Hid (a < 9223372036854775808 ∧ b < 9223372036854775808) := ⟨ha, hb⟩
  clear ha hb
  go_enter Tryd.func43, Tryd.ntmps43
  go_wp2
  go_loopw [0, 1] (fun x y wr => ∃ u v : Nat, x = .int .i64 u ∧ y = .int .i64 v ∧ Hid (u < 9223372036854775808 ∧ v < 9223372036854775808 ∧ Nat.gcd u v = Nat.gcd a b) ∧ Below w.heap.size w wr) (fun _ y _ => (intOf y).toNat)
  case atStart => exact ⟨a, b, rfl, rfl, ⟨Hab.out.1, Hab.out.2, rfl⟩, Below.refl _ _⟩
  case round =>
    obtain ⟨u, v, rfl, rfl, H, hB⟩ := hrel
    by_cases h0 : v = 0
    · subst h0
      go_wp2
      go_ret
      refine ⟨?_, hB⟩
      rw [← H.out.2.2, Nat.gcd_zero_right]
      rfl
    · have v1 : 1 ≤ (v : Int) := by omega
      have v0 : ((v : Int) == 0) = false := by simp; omega
      have v2 : ¬ (v : Int) = 0 := by omega
      have e1 : (u : Int).tmod (v : Int) = ((u % v : Nat) : Int) := by rw [Int.tmod_eq_emod_of_nonneg (by omega)]; rfl
      have e2 : u % v < v := Nat.mod_lt _ (by omega)
      have u1 := H.out.1
      have v3 := H.out.2.1
      go_wp2
      go_region
      go_wp2
      go_roundw
      case rel =>
        refine ⟨v, u % v, rfl, rfl, ⟨v3, by omega, ?_⟩, hB.drew⟩
        rw [← H.out.2.2, Nat.gcd_comm, ← Nat.gcd_rec, Nat.gcd_comm]
      case measure => simp [intOf]; omega

/-- What one rate after the other comes to. -/
def chainN (a b : Nat) : Nat := a / Nat.gcd a b
def chainS (n1 d1 n2 d2 : Nat) : Int × Int × Int :=
  if 1000000000 < chainN (n1 * n2) (d1 * d2) ∨ 1000000000 < chainN (d1 * d2) (n1 * n2) then (0, 0, 10) else (chainN (n1 * n2) (d1 * d2), chainN (d1 * d2) (n1 * n2), 0)

set_option maxHeartbeats 1000000 in
theorem chain_any (n1 d1 n2 d2 : Nat) (w : World) (h1 : 1 ≤ n1 ∧ n1 ≤ 1000000000) (h2 : 1 ≤ d1 ∧ d1 ≤ 1000000000) (h3 : 1 ≤ n2 ∧ n2 ≤ 1000000000) (h4 : 1 ≤ d2 ∧ d2 ≤ 1000000000) :
    Calls Tryd.prog 26 #[.agg #[.int .i64 n1, .int .i64 d1], .agg #[.int .i64 n2, .int .i64 d2]] w fun e w' => e = .returned (.tuple #[.int .i64 (chainS n1 d1 n2 d2).1, .int .i64 (chainS n1 d1 n2 d2).2.1, errV (chainS n1 d1 n2 d2).2.2]) ∧ Below w.heap.size w w' := by
  obtain ⟨N, hN⟩ : ∃ N, n1 * n2 = N := ⟨_, rfl⟩
  obtain ⟨M, hM⟩ : ∃ M, d1 * d2 = M := ⟨_, rfl⟩
  have N1 : 1 ≤ N ∧ N ≤ 1000000000000000000 := by
    rw [← hN]
    exact ⟨Nat.mul_pos h1.1 h3.1, Nat.le_trans (Nat.mul_le_mul h1.2 h3.2) (by omega)⟩
  have M1 : 1 ≤ M ∧ M ≤ 1000000000000000000 := by
    rw [← hM]
    exact ⟨Nat.mul_pos h2.1 h4.1, Nat.le_trans (Nat.mul_le_mul h2.2 h4.2) (by omega)⟩
  have eN : (n1 : Int) * n2 = N := by rw [← hN]; simp
  have eM : (d1 : Int) * d2 = M := by rw [← hM]; simp
  obtain ⟨g, hg⟩ : ∃ g, Nat.gcd N M = g := ⟨_, rfl⟩
  have g1 : 1 ≤ g := by rw [← hg]; exact Nat.gcd_pos_of_pos_left _ (by omega)
  have dv := divisor_any N M
  rw [hg] at dv
  have C1 : chainN N M = N / g := by unfold chainN; rw [hg]
  have C2 : chainN M N = M / g := by unfold chainN; rw [Nat.gcd_comm, hg]
  have RS : Hid (chainS n1 d1 n2 d2 = if 1000000000 < N / g ∨ 1000000000 < M / g then (0, 0, 10) else (((N / g : Nat) : Int), ((M / g : Nat) : Int), 0)) := by
    unfold Hid chainS; rw [hN, hM, C1, C2]
  obtain ⟨x, hx⟩ : ∃ x, N / g = x := ⟨_, rfl⟩
  obtain ⟨y, hy⟩ : ∃ y, M / g = y := ⟨_, rfl⟩
  have ex : (N : Int) / (g : Int) = x := by rw [← hx]; rfl
  have ey : (M : Int) / (g : Int) = y := by rw [← hy]; rfl
  have lx : x ≤ N := by rw [← hx]; exact Nat.div_le_self _ _
  have ly : y ≤ M := by rw [← hy]; exact Nat.div_le_self _ _
  rw [hx, hy] at RS
  have tx : (N : Int).tdiv (g : Int) = x := by rw [Int.tdiv_eq_ediv_of_nonneg (by omega)]; exact ex
  have ty : (M : Int).tdiv (g : Int) = y := by rw [Int.tdiv_eq_ediv_of_nonneg (by omega)]; exact ey
  clear hx hy C1 C2 hg hN hM
  have g0 : ((g : Int) == 0) = false := by simp; omega
  have g2 : ¬ (g : Int) = 0 := by omega
  have Hdv : Hid (∀ W, Calls Tryd.prog 43 #[.int .i64 N, .int .i64 M] W fun e w' => e = .returned (.int .i64 g) ∧ Below W.heap.size W w') := fun W => dv W (by omega) (by omega)
  clear dv
  have a1 : (N : Int) ≤ 1000000000000000000 := by omega
  have a2 : (M : Int) ≤ 1000000000000000000 := by omega
  have a3 : (0 : Int) ≤ N := by omega
  have a4 : (0 : Int) ≤ M := by omega
  go_enter Tryd.func26, Tryd.ntmps26
  go_wp2
  go_region
  go_wp2_with fail
  refine (Hdv.out _).mono ?_
  rintro e w1 ⟨rfl, hb⟩
  have B1 : Below w.heap.size w w1 := ((((Below.refl _ w).alloc (Nat.le_refl _) _).alloc (by simp) _).drew).trans (hb.mono (by simp; omega))
  clear hb
  go_wp2
  go_region
  by_cases k1 : 1000000000 < (x : Int)
  · go_wp2
    go_ret3
    refine ⟨?_, B1.drew⟩
    rw [RS.out, if_pos (by omega)]
    rfl
  by_cases k2 : 1000000000 < (y : Int)
  · go_wp2
    go_ret3
    refine ⟨?_, B1.drew⟩
    rw [RS.out, if_pos (by omega)]
    rfl
  go_wp2
  go_ret3
  refine ⟨?_, B1.drew⟩
  rw [RS.out, if_neg (by omega)]
  rfl
end Go.Proofs.YtoggclbhjoodoaaDoor
