/-
  The contract of daylaw3.zero.
-/
import Derived.Test.YtdadhoangnkfeaaDoorJn1
import Derived.Test.YtdadhoangnkfeaaDoorRfE3
namespace Go.Proofs.YtdadhoangnkfeaaDoor
set_option linter.unusedVariables false
set_option linter.unusedSimpArgs false
set_option maxRecDepth 100000
open Go.RowKit Go.Lib

set_option maxHeartbeats 4000000 in
theorem zero_any (a : Option Addr) (cap : Nat) (L : List Je) (w : World) (hlen : L.length ≤ 1000) (h : IsJs w a L cap) (hz : ∀ x ∈ L, 0 < x.lns.length ∧ x.lns.length ≤ 20 ∧ Within mostA x.lns ∧ ∀ y ∈ curSums x.lns, y.amt = 0) :
    Calls Tryd.prog 6 #[.slice a L.length cap] w fun e w' => e = .returned (.bool true) ∧ Below w.heap.size w w' := by
  have HH : Hid (IsJs w a L cap) := h
  have HZ : Hid (∀ x ∈ L, 0 < x.lns.length ∧ x.lns.length ≤ 20 ∧ Within mostA x.lns ∧ ∀ y ∈ curSums x.lns, y.amt = 0) := hz
  have hl1 : (L.length : Int) ≤ 1000 := by omega
  clear h hz
  go_enter Tryd.func6, Tryd.ntmps6
  go_wp2
  go_loopw [3] (fun i wr => ∃ k : Nat, k ≤ L.length ∧ i = .int .i64 k ∧ Hid (Below w.heap.size w wr)) (fun i _ => L.length - (RowKit.intOf i).toNat)
  case atStart => exact ⟨0, Nat.zero_le _, rfl, Below.refl _ _⟩
  case round =>
    obtain ⟨k, hk, rfl, HB⟩ := hrel
    by_cases hlt : k < L.length
    · have hjs := HH.out.below HB.out
      rcases hjs.lies with h0 | ⟨jb, jo, e, hjb, hat⟩
      · rw [h0] at hlt; simp at hlt
      subst e
      have hy := hat k hlt
      have hln := hjs.lns _ (jes_mem L k hlt)
      obtain ⟨z1, z2, z3, z4⟩ := HZ.out _ (jes_mem L k hlt)
      have HS : Hid (Calls Tryd.prog 13 #[.agg (L.getD k je0).cells] wr fun e w' => ∃ v, e = .returned v ∧ LnRow w' wr.heap.size v (curSums (L.getD k je0).lns) ∧ Below wr.heap.size wr w') := refSums_any _ _ _ _ _ _ wr z2 z1 z3 hln
      have HZ4 : Hid (∀ y ∈ curSums (L.getD k je0).lns, y.amt = 0) := z4
      have hsl : (curSums (L.getD k je0).lns).length ≤ 20 := by
        have := grp_length ((L.getD k je0).lns.map bareL)
        rw [List.length_map] at this
        exact Nat.le_trans this z2
      clear hat hln z1 z2 z3 z4 hjs
      generalize curSums (L.getD k je0).lns = S at *
      generalize L.getD k je0 = x at *
      obtain ⟨x0, x1, x2, x3, x4, x5⟩ := x
      obtain ⟨d0, d1, d2, d3⟩ := hy
      simp only [Je.cells] at d0 d1 d2 d3 HS
      have i0 : (0 : Int) ≤ k := by omega
      have i1 : (k : Int) < L.length := by omega
      have i2 : (S.length : Int) ≤ 20 := by omega
      obtain ⟨wo, hwo⟩ : ∃ wo, wo = wr := ⟨_, rfl⟩
      subst hwo
      go_wp2_with fail
      refine HS.out.mono ?_
      rintro e w1 ⟨v, rfl, hr, hb1⟩
      obtain ⟨sa, sc, e, hsS⟩ := hr.isLn
      subst e
      have HB1 : Hid (Below w.heap.size w w1) := HB.out.trans (hb1.mono HB.out.size)
      have HSl : Hid (IsLn w1 sa S sc) := hsS
      clear HS hr hb1 hsS d0 d1 d2 d3
      go_wp2
      go_loop [5] (fun i => ∃ j : Nat, j ≤ S.length ∧ i = .int .i64 j) (fun i => S.length - (RowKit.intOf i).toNat)
      case atStart => exact ⟨0, Nat.zero_le _, rfl⟩
      case round =>
        obtain ⟨j, hj, rfl⟩ := hrel
        by_cases hjl : j < S.length
        · rcases HSl.out.lies with h0 | ⟨lb, lo, e, hlb, hat⟩
          · rw [h0] at hjl; simp at hjl
          subst e
          have c2 := (hat j hjl).c2
          rw [HZ4.out _ (lns_mem S j hjl)] at c2
          have m0 : (0 : Int) ≤ j := by omega
          have m1 : (j : Int) < S.length := by omega
          clear hat
          go_wp2
          go_round
          case rel => exact ⟨j + 1, by omega, by go_num⟩
          case measure => simp [RowKit.intOf]; omega
        · have ej : j = S.length := by omega
          subst ej
          have m1 : ¬ (S.length : Int) < S.length := by omega
          go_wp2
          go_roundw
          case rel => exact ⟨k + 1, by omega, by go_num, HB1⟩
          case measure => simp [RowKit.intOf]; omega
    · have ek : k = L.length := by omega
      subst ek
      have m1 : ¬ (L.length : Int) < L.length := by omega
      go_wp2
      go_ret
      exact ⟨rfl, HB.out⟩
end Go.Proofs.YtdadhoangnkfeaaDoor
