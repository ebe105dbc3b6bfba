/-
  The contracts of chart.Find and of dayref1.At.
-/
import Derived.Test.YtggabmjbblgfeaaDoorChM0
namespace Go.Proofs.YtggabmjbblgfeaaDoor
set_option linter.unusedVariables false
set_option linter.unusedSimpArgs false
set_option maxRecDepth 100000
open Go.RowKit Go.Lib

/-- What is found. -/
def findA (l : List Ac) (c : ByteArray) : Ac := if placeBad l c = 0 then l.getD (idxP (hasCode c) l).toNat ac0 else ac0

theorem refAt_none (a : Option Addr) (cap : Nat) (c : ByteArray) (w : World) :
    Calls Tryd.prog 23 #[.slice a 0 cap, .string c] w fun e w' => e = .returned (.int .i64 (-1)) ∧ w' = w := by
  go_enter Tryd.func23, Tryd.ntmps23
  go_wp2
  refine wp_loop_rounds 1 ?_
  rw [rounds_succ]
  go_wp2
  go_ret
  exact ⟨rfl, rfl⟩

set_option maxHeartbeats 1000000 in
theorem refAt_some (b off cap : Nat) (l : List Ac) (c : ByteArray) (w : World) (hlen : l.length ≤ 1000) (hc : AcsAt w b off l) :
    Calls Tryd.prog 23 #[.slice (some ⟨b, off, none⟩) l.length cap, .string c] w fun e w' => e = .returned (.int .i64 (idxP (hasCode c) l)) ∧ w' = w := by
  have Hc : Hid (AcsAt w b off l) := hc
  have Hlen : (l.length : Int) ≤ 1000 := by omega
  clear hc
  obtain ⟨res, hres⟩ : ∃ res, idxP (hasCode c) l = res := ⟨_, rfl⟩
  have Hres : Hid (idxP (hasCode c) l = res) := hres
  rw [hres]
  clear hres
  go_enter Tryd.func23, Tryd.ntmps23
  go_wp2
  go_loop [5] (fun i => ∃ k : Nat, k ≤ l.length ∧ i = .int .i64 k ∧ Hid (idxFrom (hasCode c) k (l.drop k) = res)) (fun i => l.length - (intOf i).toNat)
  case atStart => exact ⟨0, Nat.zero_le _, rfl, Hres.out⟩
  case round =>
    obtain ⟨k, hk, rfl, H⟩ := hrel
    by_cases hlt : k < l.length
    · have hn := Hc.out k hlt
      have E : Hid ((if hasCode c (l.getD k ac0) = true then (k : Int) else idxFrom (hasCode c) (k + 1) (l.drop (k + 1))) = res) := by
        have := H.out
        rw [acs_drop l k hlt] at this
        exact this
      clear H
      generalize l.getD k ac0 = x at *
      obtain ⟨x0, x1, x2, x3, x4⟩ := x
      obtain ⟨c0, c1, c2, c3, c4⟩ := hn
      simp only at c0 c1 c2 c3 c4
      have i0 : (0 : Int) ≤ k := by omega
      have i1 : (k : Int) < l.length := by omega
      by_cases hx : x0 = c
      · have er : res = k := by rw [← E.out, if_pos (by simp [hasCode, hx])]
        subst er
        subst hx
        go_wp2
        go_ret
        exact ⟨rfl, rfl⟩
      · have hx' := ch_ne hx
        have HN : Hid (idxFrom (hasCode c) (k + 1) (l.drop (k + 1)) = res) := by
          have := E.out; rw [if_neg (by simp [hasCode, hx])] at this; exact this
        go_wp2
        go_round
        case rel => exact ⟨k + 1, by omega, by go_num, HN⟩
        case measure => simp [intOf]; omega
    · have hk2 : k = l.length := by omega
      subst hk2
      have er : res = -1 := by rw [← H.out, List.drop_length]; rfl
      subst er
      go_wp2
      go_ret
      exact ⟨rfl, rfl⟩

theorem refAt_any (a : Option Addr) (cap : Nat) (l : List Ac) (c : ByteArray) (w : World) (hlen : l.length ≤ 1000) (h : IsSl w a l cap) :
    Calls Tryd.prog 23 #[.slice a l.length cap, .string c] w fun e w' => e = .returned (.int .i64 (idxP (hasCode c) l)) ∧ w' = w := by
  rcases h.lies with rfl | ⟨b, off, rfl, hlt, hc⟩
  · exact refAt_none a cap c w
  · exact refAt_some b off cap l c w hlen hc
end Go.Proofs.YtggabmjbblgfeaaDoor
