/-
  The contracts of dayref1.Leaf and dayref1.Entry.
-/
import Derived.Test.YtggabmjbblgfeaaDoorRfE3
import Derived.Test.YtggabmjbblgfeaaDoorEn11
import Derived.Test.YtggabmjbblgfeaaDoorRf2
import Derived.Test.YtggabmjbblgfeaaDoorRfCur
namespace Go.Proofs.YtggabmjbblgfeaaDoor
set_option linter.unusedVariables false
set_option linter.unusedSimpArgs false
set_option maxRecDepth 100000
open Go.RowKit Go.Lib

theorem memE_iff {code : ByteArray} {l : List ByteArray} : memB code l = true ↔ code ∈ l := by
  unfold memB
  rw [List.any_eq_true]
  constructor
  · rintro ⟨x, hx, e⟩
    have := of_decide_eq_true e
    rw [← this]; exact hx
  · intro h
    exact ⟨code, h, by simp⟩
theorem leaf_mem {c : List Ac} {code : ByteArray} (h : ¬ idxP (hasCode code) c < 0) : memB code (lvs c) = decide (idxP (hasPar code) c < 0) := by
  rw [Bool.eq_iff_iff, memE_iff, decide_eq_true_eq]
  unfold lvs
  rw [List.mem_map]
  constructor
  · rintro ⟨a, ha, rfl⟩
    have := (List.mem_filter.1 ha).2
    unfold leafB at this
    exact of_decide_eq_true this
  · intro hp
    obtain ⟨j, hj, _, hj2, _⟩ := idxP_some (p := hasCode code) (l := c) (by omega)
    have hc : (c.getD j ac0).code = code := of_decide_eq_true hj2
    refine ⟨c.getD j ac0, List.mem_filter.2 ⟨?_, ?_⟩, hc⟩
    · rw [List.getD_eq_getElem?_getD, List.getElem?_eq_getElem hj]
      exact List.getElem_mem hj
    · unfold leafB
      rw [hc]
      exact decide_eq_true hp
/-- The same, by who is whose parent. -/
theorem leafBad_par (c : List Ac) (code : ByteArray) : leafBad c code = if idxP (hasCode code) c < 0 then 6 else if idxP (hasPar code) c < 0 then 0 else 12 := by
  unfold leafBad
  by_cases h1 : idxP (hasCode code) c < 0
  · rw [if_pos h1, if_pos h1]
  · rw [if_neg h1, if_neg h1, leaf_mem h1]
    by_cases h2 : idxP (hasPar code) c < 0
    · rw [decide_eq_true h2]; simp [h2]
    · rw [decide_eq_false h2]; simp [h2]

set_option maxHeartbeats 1000000 in
theorem refLeafE_any (a : Option Addr) (cap : Nat) (l : List Ac) (c : ByteArray) (w : World) (h : IsSl w a l cap) (hlen : l.length ≤ 60) :
    Calls Tryd.prog 11 #[.slice a l.length cap, .string c] w fun e w' => e = .returned (.int .i64 (leafBad l c)) ∧ w' = w := by
  have Hlen : (l.length : Int) ≤ 60 := by omega
  have HA := refAt_any a cap l c w (by omega) h
  by_cases h1 : idxP (hasCode c) l < 0
  · have er : leafBad l c = 6 := by rw [leafBad_par, if_pos h1]
    rw [er]
    generalize idxP (hasCode c) l = r at *
    have HHA : Hid (Calls _ _ _ _ _) := HA
    clear HA h er
    go_enter Tryd.func11, Tryd.ntmps11
    go_wp2_with (go_at_call 23; refine HHA.out.mono ?_; rintro e w' ⟨rfl, rfl⟩)
    go_ret
    exact ⟨rfl, rfl⟩
  obtain ⟨j, hj, ej, _, _⟩ := idxP_some (p := hasCode c) (l := l) (by omega)
  rw [ej] at HA
  rcases h.lies with h1' | ⟨b, off, rfl, hlt, hc⟩
  · rw [h1'] at hj; simp at hj
  have Hc : Hid (AcsAt w b off l) := hc
  obtain ⟨res, hres⟩ : ∃ res, leafBad l c = res := ⟨_, rfl⟩
  have Hres : Hid ((if decide (idxFrom (hasPar c) 0 (l.drop 0) < 0) = true then (0 : Int) else 12) = res) := by
    unfold Hid
    rw [← hres, leafBad_par, if_neg h1]
    by_cases h2 : idxP (hasPar c) l < 0
    · rw [if_pos h2]; exact if_pos (decide_eq_true h2)
    · rw [if_neg h2]; exact if_neg (by rw [decide_eq_true_eq]; exact h2)
  rw [hres]
  clear hres h hc h1 ej
  have i0 : (0 : Int) ≤ j := by omega
  have HHA : Hid (Calls _ _ _ _ _) := HA
  clear HA
  go_enter Tryd.func11, Tryd.ntmps11
  go_wp2_with (go_at_call 23; refine HHA.out.mono ?_; rintro e w' ⟨rfl, rfl⟩)
  go_loop [6] (fun s6 => ∃ k : Nat, k ≤ l.length ∧ s6 = .int .i64 k ∧ Hid ((if decide (idxFrom (hasPar c) k (l.drop k) < 0) = true then (0 : Int) else 12) = res)) (fun s6 => l.length - (intOf s6).toNat)
  case atStart => exact ⟨0, Nat.zero_le _, rfl, Hres⟩
  case round =>
    obtain ⟨k, hk, rfl, H⟩ := hrel
    by_cases hlt2 : k < l.length
    · have hn := Hc.out k hlt2
      have E := H.out
      rw [acs_drop l k hlt2, idxFrom] at E
      clear H
      generalize l.getD k ac0 = x at *
      obtain ⟨x0, x1, x2, x3, x4⟩ := x
      obtain ⟨c0, c1, c2, c3, c4⟩ := hn
      simp only at c0 c1 c2 c3 c4
      have k0 : (0 : Int) ≤ k := by omega
      have k1 : (k : Int) < l.length := by omega
      by_cases hx : x3 = c
      · rw [if_pos (by simp [hasPar, hx] : hasPar c ⟨x0, x1, x2, x3, x4⟩ = true)] at E
        have er : res = 12 := by
          rw [← E, if_neg]
          simp
        subst er
        subst hx
        clear E
        go_wp2
        go_ret
        exact ⟨rfl, rfl⟩
      · have hx' := ch_ne hx
        rw [if_neg (by simp [hasPar, hx] : ¬ hasPar c ⟨x0, x1, x2, x3, x4⟩ = true)] at E
        have HN : Hid (_ = res) := E
        clear E
        go_wp2
        go_round
        case rel => exact ⟨k + 1, by omega, by go_num, HN⟩
        case measure => simp [intOf]; omega
    · have hk2 : k = l.length := by omega
      subst hk2
      have er : res = 0 := by
        rw [← H.out, List.drop_length, if_pos]
        simp [idxFrom]
      subst er
      go_wp2
      go_ret
      exact ⟨rfl, rfl⟩
end Go.Proofs.YtggabmjbblgfeaaDoor
