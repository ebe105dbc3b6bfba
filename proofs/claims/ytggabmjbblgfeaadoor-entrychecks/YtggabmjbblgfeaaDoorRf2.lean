/-
  The contracts of dayref1's Chart and In, and of daysame's Ints.
-/
import Derived.Test.YtggabmjbblgfeaaDoorRf1
namespace Go.Proofs.YtggabmjbblgfeaaDoor
set_option linter.unusedVariables false
set_option linter.unusedSimpArgs false
set_option maxRecDepth 100000
open Go.RowKit Go.Lib

theorem refChart_full (a : Option Addr) (len cap : Nat) (w : World) (h : 60 < len) :
    Calls Tryd.prog 7 #[.slice a len cap] w fun e w' => e = .returned (.int .i64 4) ∧ Below w.heap.size w w' := by
  have h' : (60 : Int) < len := by omega
  go_enter Tryd.func7, Tryd.ntmps7
  go_wp2
  go_ret
  exact ⟨rfl, Below.refl _ _⟩

theorem refChart_none (a : Option Addr) (cap : Nat) (w : World) :
    Calls Tryd.prog 7 #[.slice a 0 cap] w fun e w' => e = .returned (.int .i64 0) ∧ Below w.heap.size w w' := by
  go_enter Tryd.func7, Tryd.ntmps7
  go_wp2
  refine wp_loop_rounds 1 ?_
  rw [rounds_succ]
  go_wp2
  go_ret
  exact ⟨rfl, Below.refl _ _⟩

set_option maxHeartbeats 2000000 in
theorem refChart_some (b off cap : Nat) (l : List Ac) (w : World) (hb : b < w.heap.size) (hlen : l.length ≤ 60) (hcap : l.length ≤ cap) (hc : AcsAt w b off l) (hok : ∀ k, k < l.length → (l.getD k ac0).code.size ≤ maxLen ∧ (l.getD k ac0).name.size ≤ maxLen) :
    Calls Tryd.prog 7 #[.slice (some ⟨b, off, none⟩) l.length cap] w fun e w' => e = .returned (.int .i64 (chGo [] l)) ∧ Below w.heap.size w w' := by
  have Hlen : (l.length : Int) ≤ 60 := by omega
  have HA : Hid (∀ W, Below w.heap.size w W → ∀ i, i < l.length → Calls Tryd.prog 22 #[.slice (some ⟨b, off, none⟩) l.length cap, .int .i64 (i : Nat)] W fun e w' => e = .returned (.int .i64 (nextBad (l.take i) (l.getD i ac0))) ∧ Below w.heap.size w w') := fun W hW i hi => by
    refine (refAccount_any b off cap i l W hi (by omega) hcap (by have := hW.size; omega) (fun k hk => (hc k hk).below hW hb) (hok i hi)).mono ?_
    rintro e w' ⟨rfl, hb'⟩
    exact ⟨rfl, hW.trans (hb'.mono hW.size)⟩
  obtain ⟨res, hres⟩ : ∃ res, chGo [] l = res := ⟨_, rfl⟩
  have Hres : Hid (chGo [] l = res) := hres
  rw [hres]
  clear hres hc hok
  go_enter Tryd.func7, Tryd.ntmps7
  go_wp2
  go_loopw [3] (fun i wr => ∃ k : Nat, k ≤ l.length ∧ i = .int .i64 k ∧ Hid (chGo (l.take k) (l.drop k) = res) ∧ Below w.heap.size w wr) (fun i _ => l.length - (intOf i).toNat)
  case atStart => exact ⟨0, Nat.zero_le _, rfl, by unfold Hid; simpa using Hres.out, Below.refl _ _⟩
  case round =>
    obtain ⟨k, hk, rfl, H, BW⟩ := hrel
    by_cases hlt : k < l.length
    · have E : Hid ((if nextBad (l.take k) (l.getD k ac0) ≠ 0 then nextBad (l.take k) (l.getD k ac0) else chGo (l.take (k + 1)) (l.drop (k + 1))) = res) := by
        have := H.out
        rw [acs_drop l k hlt] at this
        have e2 : l.take k ++ [l.getD k ac0] = l.take (k + 1) := by
          rw [List.take_succ_eq_append_getElem hlt, List.getD_eq_getElem?_getD, List.getElem?_eq_getElem hlt]; rfl
        unfold Hid
        rw [← e2]
        exact this
      have hcall := HA.out wr BW k hlt
      generalize nextBad (l.take k) (l.getD k ac0) = bad at *
      have Hcall : Hid (Calls _ _ _ _ _) := hcall
      clear hcall H
      by_cases hb0 : bad = 0
      · subst hb0
        have HN : Hid (chGo (l.take (k + 1)) (l.drop (k + 1)) = res) := by
          have := E.out; rw [if_neg (by simp)] at this; exact this
        go_wp2_with fail
        refine Hcall.out.mono ?_
        rintro e w' ⟨rfl, hb'⟩
        go_wp2
        go_roundw
        case rel => exact ⟨k + 1, by omega, by go_num, HN, hb'⟩
        case measure => simp [intOf]; omega
      · have er : res = bad := by rw [← E.out, if_pos hb0]
        subst er
        have hb0' : (res != 0) = true := by simp [hb0]
        go_wp2_with fail
        refine Hcall.out.mono ?_
        rintro e w' ⟨rfl, hb'⟩
        go_wp2
        go_ret
        exact ⟨rfl, hb'⟩
    · have hk2 : k = l.length := by omega
      subst hk2
      have er : res = 0 := by rw [← H.out, List.drop_length]; rfl
      subst er
      go_wp2
      go_ret
      exact ⟨rfl, BW⟩

theorem refChart_any (a : Option Addr) (cap : Nat) (l : List Ac) (w : World) (h : IsSl w a l cap) (hok : ∀ k, k < l.length → (l.getD k ac0).code.size ≤ maxLen ∧ (l.getD k ac0).name.size ≤ maxLen) :
    Calls Tryd.prog 7 #[.slice a l.length cap] w fun e w' => e = .returned (.int .i64 (chBad l)) ∧ Below w.heap.size w w' := by
  unfold chBad
  by_cases h60 : 60 < l.length
  · rw [if_pos h60]
    exact refChart_full a l.length cap w h60
  · rw [if_neg h60]
    rcases h.lies with rfl | ⟨b, off, rfl, hlt, hc⟩
    · exact refChart_none a cap w
    · exact refChart_some b off cap l w hlt (by omega) h.cap hc hok


/-- Numbers behind a slice. -/
def HasInts (w : World) (v : Value) (xs : List Int) : Prop := ∃ a cap, v = .slice a xs.length cap ∧ (xs = [] ∨ ∃ g off, a = some ⟨g, off, none⟩ ∧ ∀ k, k < xs.length → w.cell? ⟨g, off + k, none⟩ = some (.int .i64 (xs.getD k 0)))

theorem hasInts_nil (w : World) : HasInts w (.slice none 0 0) [] := ⟨none, 0, rfl, .inl rfl⟩

--@fi
end Go.Proofs.YtggabmjbblgfeaaDoor
