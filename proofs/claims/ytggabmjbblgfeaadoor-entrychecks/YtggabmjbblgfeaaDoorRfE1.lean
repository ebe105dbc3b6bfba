/-
  The contracts of dayref1.Amount, Few, Ref: they say what the program's own say.
-/
import Derived.Test.YtggabmjbblgfeaaDoorEn9
namespace Go.Proofs.YtggabmjbblgfeaaDoor
set_option linter.unusedVariables false
set_option linter.unusedSimpArgs false
set_option maxRecDepth 100000
open Go.RowKit Go.Lib

theorem en_get (s : ByteArray) (k : Nat) (h : k < s.size) : s.get! k = s[k]'h := by
  show s.data[k]! = s.data[k]'h
  exact getElem!_pos s.data k h

theorem refAmount_any (n : Int) (w : World) :
    Calls Tryd.prog 13 #[.int .i64 n] w fun e w' => e = .returned (.bool (isAmtB n)) ∧ w' = w := by
  by_cases h : -1000000000000000 ≤ n
  · have : isAmtB n = decide (n ≤ 1000000000000000) := by simp [isAmtB, h]
    rw [this]
    go_enter Tryd.func13, Tryd.ntmps13
    go_wp2
    go_ret
    exact ⟨rfl, rfl⟩
  · have : isAmtB n = false := by simp [isAmtB, h]
    rw [this]
    go_enter Tryd.func13, Tryd.ntmps13
    go_wp2
    go_ret
    exact ⟨rfl, rfl⟩

theorem refRef_any (s : ByteArray) (w : World) :
    Calls Tryd.prog 8 #[.string s] w fun e w' => e = .returned (.bool (isRefB s)) ∧ w' = w := by
  by_cases h0 : s.size = 0
  · have e0 := en_empty h0
    have e1 : isRefB s = false := by simp [isRefB, h0]
    rw [e1]
    go_enter Tryd.func8, Tryd.ntmps8
    go_wp2
    go_ret
    exact ⟨rfl, rfl⟩
  have e0 := en_some h0
  have e0' : s.toList.isEmpty = false := by simpa using e0
  by_cases h1 : s.size ≤ 12
  · have h1'' : ¬ ((12 : Int) < s.size) := by omega
    have h2' : (0 : Int) < s.size := by omega
    have hp : 0 < s.size := by omega
    have hg : s.get! 0 = s[0]'hp := getElem!_pos s.data 0 hp
    by_cases h2 : (s.get! 0).toNat = 45
    · have er : isRefB s = false := by simp [isRefB, h2]
      have h3 : ((s[0]'hp).toNat : Int) = 45 := by rw [← hg, h2]; rfl
      rw [er]
      clear h2 hg
      go_enter Tryd.func8, Tryd.ntmps8
      go_wp2
      go_ret
      exact ⟨rfl, rfl⟩
    have h3 : ¬ ((s[0]'hp).toNat : Int) = 45 := by rw [← hg]; omega
    have h3b : (((s[0]'hp).toNat : Int) == 45) = false := by simpa using h3
    have H2 : Hid ((s.get! 0).toNat ≠ 45) := h2
    clear h2 hg
    obtain ⟨res, hres⟩ : ∃ res, isRefB s = res := ⟨_, rfl⟩
    have Hres : Hid (isRefB s = res) := hres
    rw [hres]
    clear hres
    go_enter Tryd.func8, Tryd.ntmps8
    go_wp2
    go_loop [3] (fun i => ∃ k : Nat, k ≤ s.size ∧ i = .int .i64 k ∧ Hid (∀ j, j < k → badR (s.get! j).toNat = false)) (fun i => s.size - (intOf i).toNat)
    case atStart => exact ⟨0, Nat.zero_le _, rfl, fun j hj => absurd hj (Nat.not_lt_zero _)⟩
    case round =>
      obtain ⟨k, hk, rfl, Hk⟩ := hrel
      by_cases hlt : k < s.size
      · have i0 : (0 : Int) ≤ k := by omega
        have i1 : (k : Int) < s.size := by omega
        obtain ⟨c, hc⟩ : ∃ c, (s[k]'hlt).toNat = c := ⟨_, rfl⟩
        have Hg : Hid (badR (s.get! k).toNat = badR c) := by unfold Hid; rw [en_get s k hlt, hc]
        have bad : badR c = true → res = false := fun hb => by
          rw [← Hres.out]
          cases hm : isRefB s
          · rfl
          · have := (isRefB_iff.1 hm).2.2.2 k hlt
            rw [Hg.out, hb] at this
            cases this
        have HN : Hid (badR c = false → ∀ j, j < k + 1 → badR (s.get! j).toNat = false) := fun hb j hj => by
          rcases (by omega : j < k ∨ j = k) with h' | rfl
          · exact Hk.out j h'
          · rw [Hg.out]; exact hb
        have hcs : (c : Int) = 45 ∨ ((c : Int) ≠ 45 ∧ (c : Int) < 48) ∨ ((48 : Int) ≤ c ∧ (c : Int) ≤ 57) ∨ ((57 : Int) < c ∧ (c : Int) < 97) ∨ ((97 : Int) ≤ c ∧ (c : Int) ≤ 122) ∨ (122 : Int) < c := by omega
        rcases hcs with a | ⟨a, b⟩ | ⟨a, b⟩ | ⟨a, b⟩ | ⟨a, b⟩ | a
        · have HM : Hid _ := HN.out (by simp [badR]; omega)
          clear bad HN
          have q : ((c : Int) != 45) = false := by simp; omega
          go_wp2
          go_round
          case rel => exact ⟨k + 1, by omega, by go_num, HM⟩
          case measure => simp [intOf]; omega
        · have e1 := bad (by simp [badR]; omega)
          subst e1
          clear bad HN
          have q : ((c : Int) != 45) = true := by simp; omega
          have q2 : (c : Int) < 97 := by omega
          go_wp2
          go_ret
          exact ⟨rfl, rfl⟩
        · have HM : Hid _ := HN.out (by simp [badR]; omega)
          clear bad HN
          have q : ((c : Int) != 45) = true := by simp; omega
          have q2 : ¬ (c : Int) < 48 := by omega
          have q3 : ¬ (57 : Int) < c := by omega
          go_wp2
          go_round
          case rel => exact ⟨k + 1, by omega, by go_num, HM⟩
          case measure => simp [intOf]; omega
        · have e1 := bad (by simp [badR]; omega)
          subst e1
          clear bad HN
          have q : ((c : Int) != 45) = true := by simp; omega
          have q2 : ¬ (c : Int) < 48 := by omega
          go_wp2
          go_ret
          exact ⟨rfl, rfl⟩
        · have HM : Hid _ := HN.out (by simp [badR]; omega)
          clear bad HN
          have q : ((c : Int) != 45) = true := by simp; omega
          have q2 : ¬ (c : Int) < 48 := by omega
          have q3 : (57 : Int) < c := by omega
          have q4 : ¬ (c : Int) < 97 := by omega
          have q5 : ¬ (122 : Int) < c := by omega
          go_wp2
          go_round
          case rel => exact ⟨k + 1, by omega, by go_num, HM⟩
          case measure => simp [intOf]; omega
        · have e1 := bad (by simp [badR]; omega)
          subst e1
          clear bad HN
          have q : ((c : Int) != 45) = true := by simp; omega
          have q2 : ¬ (c : Int) < 48 := by omega
          have q3 : (57 : Int) < c := by omega
          have q4 : ¬ (c : Int) < 97 := by omega
          go_wp2
          go_ret
          exact ⟨rfl, rfl⟩
      · have hk2 : k = s.size := by omega
        have er : res = true := by
          rw [← Hres.out]
          exact isRefB_iff.2 ⟨h0, h1, H2.out, fun i hi => Hk.out i (by omega)⟩
        subst er
        go_wp2
        go_ret
        exact ⟨rfl, rfl⟩
  · have h1'' : (12 : Int) < s.size := by omega
    have e1 : isRefB s = false := by simp [isRefB, h1]
    rw [e1]
    go_enter Tryd.func8, Tryd.ntmps8
    go_wp2
    go_ret
    exact ⟨rfl, rfl⟩

end Go.Proofs.YtggabmjbblgfeaaDoor
