/-
  The contracts of dayref1's Cur, Period and direct.
-/
import Derived.Test.YtoggclbhjoodoaaDoorRefR1
import Derived.Test.YtoggclbhjoodoaaDoorRateOpen
import Derived.Deep.QuietTactic
import Derived.BigQuiet
namespace Go.Proofs.YtoggclbhjoodoaaDoor
set_option linter.unusedVariables false
set_option linter.unusedSimpArgs false
set_option maxRecDepth 100000
open Go.RowKit Go.Lib Go.Maps

/-- A letter A to Z stands at a place. -/
def good (s : ByteArray) (k : Nat) : Prop := 65 ≤ (s.get! k).toNat ∧ (s.get! k).toNat ≤ 90

theorem isCurB_iff (s : ByteArray) : isCurB s = true ↔ s.size = 3 ∧ good s 0 ∧ good s 1 ∧ good s 2 := by
  unfold isCurB good
  simp only [Bool.and_eq_true, beq_iff_eq, decide_eq_true_eq]

theorem refCur_any (s : ByteArray) (w : World) :
    Calls Tryd.prog 7 #[.string s] w fun e w' => e = .returned (.bool (isCur s)) ∧ w' = w := by
  rw [isCur_eq]
  by_cases h : s.size = 3
  · have h' : ((s.size : Int) != 3) = false := by simp; omega
    obtain ⟨res, hres⟩ : ∃ res, isCurB s = res := ⟨_, rfl⟩
    have Hres : Hid (isCurB s = res) := hres
    rw [hres]
    clear hres
    go_enter Tryd.func7, Tryd.ntmps7
    go_wp2
    go_loop [3] (fun i => ∃ k : Nat, k ≤ 3 ∧ i = .int .i64 k ∧ Hid (∀ j, j < k → good s j)) (fun i => 3 - (intOf i).toNat)
    case atStart => exact ⟨0, by omega, rfl, fun j hj => absurd hj (Nat.not_lt_zero _)⟩
    case round =>
      obtain ⟨k, hk, rfl, Hk⟩ := hrel
      by_cases hlt : k < 3
      · have i0 : (0 : Int) ≤ k := by omega
        have i1 : (k : Int) < 3 := by omega
        have i2 : (k : Int) < s.size := by omega
        have hks : k < s.size := by omega
        obtain ⟨c, hc⟩ : ∃ c, (s[k]'hks).toNat = c := ⟨_, rfl⟩
        have hgood : good s k ↔ 65 ≤ c ∧ c ≤ 90 := by
          unfold good
          have : s.get! k = s[k]'hks := by
            show s.data[k]! = s.data[k]'hks
            exact getElem!_pos s.data k hks
          rw [this, hc]
        have Hg : Hid (good s k ↔ 65 ≤ c ∧ c ≤ 90) := hgood
        clear hgood
        have bad : ¬ (65 ≤ c ∧ c ≤ 90) → res = false := fun hn => by
          rw [← Hres.out]
          cases hcb : isCurB s
          · rfl
          · obtain ⟨_, q0, q1, q2⟩ := (isCurB_iff s).1 hcb
            have : good s k := by
              rcases (by omega : k = 0 ∨ k = 1 ∨ k = 2) with rfl | rfl | rfl
              · exact q0
              · exact q1
              · exact q2
            exact absurd (Hg.out.1 this) hn
        by_cases h65 : (c : Int) < 65
        · have e1 := bad (by omega)
          subst e1
          clear bad
          go_wp2
          go_ret
          exact ⟨rfl, rfl⟩
        by_cases h90 : 90 < (c : Int)
        · have e1 := bad (by omega)
          subst e1
          clear bad
          go_wp2
          go_ret
          exact ⟨rfl, rfl⟩
        clear bad
        have HN : Hid (∀ j, j < k + 1 → good s j) := fun j hj => by
          rcases (by omega : j < k ∨ j = k) with h' | rfl
          · exact Hk.out j h'
          · exact Hg.out.2 (by omega)
        go_wp2
        go_round
        case rel => exact ⟨k + 1, by omega, by go_num, HN⟩
        case measure => simp [intOf]; omega
      · have : k = 3 := by omega
        subst this
        have e1 : res = true := by rw [← Hres.out, isCurB_iff]; exact ⟨h, Hk.out 0 (by omega), Hk.out 1 (by omega), Hk.out 2 (by omega)⟩
        subst e1
        go_wp2
        go_ret
        exact ⟨rfl, rfl⟩
  · have h' : ((s.size : Int) != 3) = true := by simp; omega
    have e1 : isCurB s = false := by
      cases hc : isCurB s
      · rfl
      · exact absurd ((isCurB_iff s).1 hc).1 h
    rw [e1]
    go_enter Tryd.func7, Tryd.ntmps7
    go_wp2
    go_ret
    exact ⟨rfl, rfl⟩

theorem period_any (n : Int) (w : World) :
    Calls Tryd.prog 17 #[.int .i64 n] w fun e w' => e = .returned (.bool (upTo n 120)) ∧ w' = w := by
  by_cases h : 1 ≤ n
  · have e1 : upTo n 120 = decide (n ≤ 120) := by simp [upTo, h]
    rw [e1]
    go_enter Tryd.func17, Tryd.ntmps17
    go_wp2
    go_ret
    exact ⟨rfl, rfl⟩
  · have e1 : upTo n 120 = false := by simp [upTo, h]
    rw [e1]
    go_enter Tryd.func17, Tryd.ntmps17
    go_wp2
    go_ret
    exact ⟨rfl, rfl⟩

/-- What a search hands back. -/
def dirV : Option (Int × Int) → Value
  | some v => .tuple #[.int .i64 v.1, .int .i64 v.2, .bool true]
  | none => .tuple #[.int .i64 0, .int .i64 0, .bool false]

/-- Rates in memory. -/
def RtsAt (w : World) (b off : Nat) (rs : List Rt) : Prop := ∀ k, k < rs.length → RtAt w b (off + k * 5) (rs.getD k rt0)

theorem dirS_drop (rs : List Rt) (k : Nat) (h : k < rs.length) (f t : ByteArray) (p : Int) : dirS (rs.drop k) f t p = if hit1 (rs.getD k rt0) f t p = true then some ((rs.getD k rt0).num, (rs.getD k rt0).den) else if hit1 (rs.getD k rt0) t f p = true then some ((rs.getD k rt0).den, (rs.getD k rt0).num) else dirS (rs.drop (k + 1)) f t p := by
  rw [drop_get rs k h]; rfl

set_option maxRecDepth 100000 in
set_option maxHeartbeats 4000000 in
theorem direct_some (b off cap : Nat) (rs : List Rt) (f t : ByteArray) (p : Int) (w : World) (hlen : rs.length ≤ 100) (hc : RtsAt w b off rs) :
    Calls Tryd.prog 18 #[.slice (some ⟨b, off, none⟩) rs.length cap, .string f, .string t, .int .i64 p] w fun e w' => e = .returned (dirV (dirS rs f t p)) ∧ ∃ n, w' = w.drewN n := by
  have Hlen : (rs.length : Int) ≤ 100 := by omega
  have Hc : Hid (RtsAt w b off rs) := hc
  clear hc
  obtain ⟨res, hres⟩ : ∃ res, dirS rs f t p = res := ⟨_, rfl⟩
  have Hres : Hid (dirS rs f t p = res) := hres
  rw [hres]
  clear hres
  go_enter Tryd.func18, Tryd.ntmps18
  go_wp2
  go_loop [11] (fun i => ∃ k : Nat, k ≤ rs.length ∧ i = .int .i64 k ∧ Hid (dirS (rs.drop k) f t p = res)) (fun i => rs.length - (intOf i).toNat)
  case atStart => exact ⟨0, Nat.zero_le _, rfl, Hres.out⟩
  case round =>
    obtain ⟨k, hk, rfl, H⟩ := hrel
    by_cases hlt : k < rs.length
    · have hn := Hc.out k hlt
      have E : Hid ((if hit1 (rs.getD k rt0) f t p = true then some ((rs.getD k rt0).num, (rs.getD k rt0).den) else if hit1 (rs.getD k rt0) t f p = true then some ((rs.getD k rt0).den, (rs.getD k rt0).num) else dirS (rs.drop (k + 1)) f t p) = res) := by
        unfold Hid; rw [← dirS_drop rs k hlt]; exact H.out
      clear H
      generalize rs.getD k rt0 = r at *
      obtain ⟨rf, rt, rp, rn, rd⟩ := r
      obtain ⟨c0, c1, c2, c3, c4⟩ := hn
      simp only at c0 c1 c2 c3 c4
      have i0 : (0 : Int) ≤ k := by omega
      have i1 : (k : Int) < rs.length := by omega
      by_cases h1 : rp = p
      · subst h1
        by_cases h2 : rf = f
        · subst h2
          by_cases h3 : rt = t
          · subst h3
            have er : res = some (rn, rd) := by rw [← E.out, if_pos (by simp [hit1])]
            subst er
            go_wp2
            go_quiet (fail)
            go_wp2
            go_ret3
            exact ⟨rfl, _, rfl⟩
          · have h3' := texts_ne h3
            have n1 : hit1 ⟨rf, rt, rp, rn, rd⟩ rf t rp = false := by simp [hit1, h3]
            by_cases h4 : rf = t
            · subst h4
              have HN : Hid (dirS (rs.drop (k + 1)) rf rf rp = res) := by
                have := E.out; rw [if_neg (by rw [n1]; simp), if_neg (by rw [n1]; simp)] at this; exact this
              go_wp2
              go_round
              case rel => exact ⟨k + 1, by omega, by go_num, HN⟩
              case measure => simp [intOf]; omega
            · have h4' := texts_ne h4
              have n2 : hit1 ⟨rf, rt, rp, rn, rd⟩ t rf rp = false := by simp [hit1, h4]
              have HN : Hid (dirS (rs.drop (k + 1)) rf t rp = res) := by
                have := E.out; rw [if_neg (by rw [n1]; simp), if_neg (by rw [n2]; simp)] at this; exact this
              go_wp2
              go_round
              case rel => exact ⟨k + 1, by omega, by go_num, HN⟩
              case measure => simp [intOf]; omega
        · have h2' := texts_ne h2
          have n1 : hit1 ⟨rf, rt, rp, rn, rd⟩ f t rp = false := by simp [hit1, h2]
          by_cases h4 : rf = t
          · subst h4
            by_cases h5 : rt = f
            · subst h5
              have er : res = some (rd, rn) := by rw [← E.out, if_neg (by rw [n1]; simp), if_pos (by simp [hit1])]
              subst er
              go_wp2
              go_quiet (fail)
              go_wp2
              go_ret3
              exact ⟨rfl, _, rfl⟩
            · have h5' := texts_ne h5
              have n2 : hit1 ⟨rf, rt, rp, rn, rd⟩ rf f rp = false := by simp [hit1, h5]
              have HN : Hid (dirS (rs.drop (k + 1)) f rf rp = res) := by
                have := E.out; rw [if_neg (by rw [n1]; simp), if_neg (by rw [n2]; simp)] at this; exact this
              go_wp2
              go_round
              case rel => exact ⟨k + 1, by omega, by go_num, HN⟩
              case measure => simp [intOf]; omega
          · have h4' := texts_ne h4
            have n2 : hit1 ⟨rf, rt, rp, rn, rd⟩ t f rp = false := by simp [hit1, h4]
            have HN : Hid (dirS (rs.drop (k + 1)) f t rp = res) := by
              have := E.out; rw [if_neg (by rw [n1]; simp), if_neg (by rw [n2]; simp)] at this; exact this
            go_wp2
            go_round
            case rel => exact ⟨k + 1, by omega, by go_num, HN⟩
            case measure => simp [intOf]; omega
      · have h1' : (rp == p) = false := by simp [h1]
        have n1 : hit1 ⟨rf, rt, rp, rn, rd⟩ f t p = false := by simp [hit1, h1]
        have n2 : hit1 ⟨rf, rt, rp, rn, rd⟩ t f p = false := by simp [hit1, h1]
        have HN : Hid (dirS (rs.drop (k + 1)) f t p = res) := by
          have := E.out; rw [if_neg (by rw [n1]; simp), if_neg (by rw [n2]; simp)] at this; exact this
        go_wp2
        go_round
        case rel => exact ⟨k + 1, by omega, by go_num, HN⟩
        case measure => simp [intOf]; omega
    · have hk2 : k = rs.length := by omega
      subst hk2
      have er : res = none := by rw [← H.out, List.drop_length]; rfl
      subst er
      go_wp2
      go_ret3
      exact ⟨rfl, 0, rfl⟩

theorem direct_none (a : Option Addr) (cap : Nat) (f t : ByteArray) (p : Int) (w : World) :
    Calls Tryd.prog 18 #[.slice a 0 cap, .string f, .string t, .int .i64 p] w fun e w' => e = .returned (dirV (dirS [] f t p)) ∧ ∃ n, w' = w.drewN n := by
  have er : dirV (dirS [] f t p) = .tuple #[.int .i64 0, .int .i64 0, .bool false] := rfl
  rw [er]
  go_enter Tryd.func18, Tryd.ntmps18
  go_wp2
  refine wp_loop_rounds 1 ?_
  rw [rounds_succ]
  go_wp2
  go_ret3
  exact ⟨rfl, 0, rfl⟩
end Go.Proofs.YtoggclbhjoodoaaDoor
