/-
  The contracts of dayref1's Chart and In, and of daysame's Ints.
-/
import Derived.Test.YtoipnafljmhceaaDoorRf1
namespace Go.Proofs.YtoipnafljmhceaaDoor
set_option linter.unusedVariables false
set_option linter.unusedSimpArgs false
set_option maxRecDepth 100000
open Go.RowKit Go.Lib

theorem refChart_full (a : Option Addr) (len cap : Nat) (w : World) (h : 60 < len) :
    Calls Tryd.prog 4 #[.slice a len cap] w fun e w' => e = .returned (.int .i64 4) ∧ Below w.heap.size w w' := by
  have h' : (60 : Int) < len := by omega
  go_enter Tryd.func4, Tryd.ntmps4
  go_wp2
  go_ret
  exact ⟨rfl, Below.refl _ _⟩

theorem refChart_none (a : Option Addr) (cap : Nat) (w : World) :
    Calls Tryd.prog 4 #[.slice a 0 cap] w fun e w' => e = .returned (.int .i64 0) ∧ Below w.heap.size w w' := by
  go_enter Tryd.func4, Tryd.ntmps4
  go_wp2
  refine wp_loop_rounds 1 ?_
  rw [rounds_succ]
  go_wp2
  go_ret
  exact ⟨rfl, Below.refl _ _⟩

set_option maxHeartbeats 2000000 in
theorem refChart_some (b off cap : Nat) (l : List Ac) (w : World) (hb : b < w.heap.size) (hlen : l.length ≤ 60) (hcap : l.length ≤ cap) (hc : AcsAt w b off l) (hok : ∀ k, k < l.length → (l.getD k ac0).code.size ≤ maxLen ∧ (l.getD k ac0).name.size ≤ maxLen) :
    Calls Tryd.prog 4 #[.slice (some ⟨b, off, none⟩) l.length cap] w fun e w' => e = .returned (.int .i64 (chGo [] l)) ∧ Below w.heap.size w w' := by
  have Hlen : (l.length : Int) ≤ 60 := by omega
  have HA : Hid (∀ W, Below w.heap.size w W → ∀ i, i < l.length → Calls Tryd.prog 16 #[.slice (some ⟨b, off, none⟩) l.length cap, .int .i64 (i : Nat)] W fun e w' => e = .returned (.int .i64 (nextBad (l.take i) (l.getD i ac0))) ∧ Below w.heap.size w w') := fun W hW i hi => by
    refine (refAccount_any b off cap i l W hi (by omega) hcap (by have := hW.size; omega) (fun k hk => (hc k hk).below hW hb) (hok i hi)).mono ?_
    rintro e w' ⟨rfl, hb'⟩
    exact ⟨rfl, hW.trans (hb'.mono hW.size)⟩
  obtain ⟨res, hres⟩ : ∃ res, chGo [] l = res := ⟨_, rfl⟩
  have Hres : Hid (chGo [] l = res) := hres
  rw [hres]
  clear hres hc hok
  go_enter Tryd.func4, Tryd.ntmps4
  go_wp2
  go_loopw [3] (fun i wr => ∃ k : Nat, k ≤ l.length ∧ i = .int .i64 k ∧ Hid (chGo (l.take k) (l.drop k) = res) ∧ Below w.heap.size w wr) (fun i _ => l.length - (intOf i).toNat)
  case atStart => exact ⟨0, Nat.zero_le _, rfl, by unfold Hid; simpa using Hres.out, Below.refl _ _⟩
  case round =>
    obtain ⟨k, hk, rfl, H, BW⟩ := hrel
    by_cases hlt : k < l.length
    · have E : Hid ((if nextBad (l.take k) (l.getD k ac0) ≠ 0 then nextBad (l.take k) (l.getD k ac0) else chGo (l.take (k + 1)) (l.drop (k + 1))) = res) := by
        have := H.out
        rw [acs_drop l k hlt] at this
        have e2 : l.take k ++ [l.getD k ac0] = l.take (k + 1) := by
          rw [List.take_succ_eq_append_getElem hlt, List.getD_eq_getElem?_getD, List.getElem?_eq_getElem hlt]; rfl
        unfold Hid
        rw [← e2]
        exact this
      have hcall := HA.out wr BW k hlt
      generalize nextBad (l.take k) (l.getD k ac0) = bad at *
      have Hcall : Hid (Calls _ _ _ _ _) := hcall
      clear hcall H
      by_cases hb0 : bad = 0
      · subst hb0
        have HN : Hid (chGo (l.take (k + 1)) (l.drop (k + 1)) = res) := by
          have := E.out; rw [if_neg (by simp)] at this; exact this
        go_wp2_with fail
        refine Hcall.out.mono ?_
        rintro e w' ⟨rfl, hb'⟩
        go_wp2
        go_roundw
        case rel => exact ⟨k + 1, by omega, by go_num, HN, hb'⟩
        case measure => simp [intOf]; omega
      · have er : res = bad := by rw [← E.out, if_pos hb0]
        subst er
        have hb0' : (res != 0) = true := by simp [hb0]
        go_wp2_with fail
        refine Hcall.out.mono ?_
        rintro e w' ⟨rfl, hb'⟩
        go_wp2
        go_ret
        exact ⟨rfl, hb'⟩
    · have hk2 : k = l.length := by omega
      subst hk2
      have er : res = 0 := by rw [← H.out, List.drop_length]; rfl
      subst er
      go_wp2
      go_ret
      exact ⟨rfl, BW⟩

theorem refChart_any (a : Option Addr) (cap : Nat) (l : List Ac) (w : World) (h : IsSl w a l cap) (hok : ∀ k, k < l.length → (l.getD k ac0).code.size ≤ maxLen ∧ (l.getD k ac0).name.size ≤ maxLen) :
    Calls Tryd.prog 4 #[.slice a l.length cap] w fun e w' => e = .returned (.int .i64 (chBad l)) ∧ Below w.heap.size w w' := by
  unfold chBad
  by_cases h60 : 60 < l.length
  · rw [if_pos h60]
    exact refChart_full a l.length cap w h60
  · rw [if_neg h60]
    rcases h.lies with rfl | ⟨b, off, rfl, hlt, hc⟩
    · exact refChart_none a cap w
    · exact refChart_some b off cap l w hlt (by omega) h.cap hc hok

set_option maxHeartbeats 2000000 in
theorem refIn_any (a : Option Addr) (cap : Nat) (l : List Ac) (k i : Nat) (w : World) (h : IsSl w a l cap) (h0 : chBad l = 0) (hk : k < l.length) :
    Calls Tryd.prog 10 #[.slice a l.length cap, .int .i64 (k : Nat), .int .i64 (i : Nat)] w fun e w' => e = .returned (.bool (isU l i k)) ∧ w' = w := by
  have hlen := chBad_len h0
  have Hlen : (l.length : Int) ≤ 60 := by omega
  have HA : Hid (∀ c, Calls Tryd.prog 8 #[.slice a l.length cap, .string c] w fun e w' => e = .returned (.int .i64 (idxP (hasCode c) l)) ∧ w' = w) := fun c => refAt_any a cap l c w (by omega) h
  rcases h.lies with h1 | ⟨b, off, rfl, hlt, hc⟩
  · rw [h1] at hk; simp at hk
  have Hc : Hid (AcsAt w b off l) := hc
  have H0 : Hid (chBad l = 0) := h0
  obtain ⟨res, hres⟩ : ∃ res, isU l i k = res := ⟨_, rfl⟩
  have Hres : Hid (isU l i k = res) := hres
  rw [hres]
  clear hres hc h0 h
  go_enter Tryd.func10, Tryd.ntmps10
  go_wp2
  go_loop [1] (fun s1 => ∃ t : Nat, t < l.length ∧ s1 = .int .i64 t ∧ Hid (isU l i t = res)) (fun s1 => (intOf s1).toNat)
  case atStart => exact ⟨k, hk, rfl, Hres.out⟩
  case round =>
    obtain ⟨t, ht, rfl, H⟩ := hrel
    have t0 : (0 : Int) ≤ t := by omega
    have t1 : (t : Int) < l.length := by omega
    have hst := isU_step H0.out (i := i) ht
    by_cases hti : t = i
    · subst hti
      have er : res = true := by rw [← H.out, hst]; simp
      subst er
      clear hst
      go_wp2
      go_ret
      exact ⟨rfl, rfl⟩
    · have hti' : ((t : Int) == i) = false := by simp; omega
      have hst2 : Hid ((match parOf l t with | none => false | some j => isU l i j) = res) := by
        have hb : (t == i) = false := by rw [beq_eq_false_iff_ne]; exact hti
        rw [hb, Bool.false_or] at hst
        exact hst.symm.trans H.out
      have hx := Hc.out t ht
      clear hst
      cases hp : parOf l t with
      | none =>
        have e0 := ch_empty (parOf_none.1 hp)
        have er : res = false := by rw [← hst2.out, hp]
        subst er
        obtain ⟨c0, c1, c2, c3, c4⟩ := hx
        generalize l.getD t ac0 = x at *
        obtain ⟨x0, x1, x2, x3, x4⟩ := x
        try simp only at c0 c1 c2 c3 c4 e0
        go_wp2
        go_ret
        exact ⟨rfl, rfl⟩
      | some j =>
        obtain ⟨q1, q2, _⟩ := parOf_some H0.out ht hp
        have hne : (l.getD t ac0).par.size ≠ 0 := by rw [← q2]; exact code_size H0.out (by omega)
        have e0 := ch_some hne
        have e0' : (l.getD t ac0).par.toList.isEmpty = false := by simpa using e0
        have HN : Hid (isU l i j = res) := by
          have := hst2.out
          rw [hp] at this
          exact this
        have hA := HA.out (l.getD t ac0).par
        have ej : idxP (hasCode (l.getD t ac0).par) l = (j : Int) := by rw [← q2]; exact idx_code H0.out (by omega)
        rw [ej] at hA
        have HHA : Hid (Calls _ _ _ _ _) := hA
        clear hA ej q2 hne hst2 hp
        obtain ⟨c0, c1, c2, c3, c4⟩ := hx
        generalize l.getD t ac0 = x at *
        obtain ⟨x0, x1, x2, x3, x4⟩ := x
        simp only at c0 c1 c2 c3 c4 e0 e0' HHA
        go_wp2_with (go_at_call 8; refine HHA.out.mono ?_; rintro e w' ⟨rfl, rfl⟩)
        go_round
        case rel => exact ⟨j, by omega, rfl, HN⟩
        case measure => simp [intOf]; omega

/-- Numbers behind a slice. -/
def HasInts (w : World) (v : Value) (xs : List Int) : Prop := ∃ a cap, v = .slice a xs.length cap ∧ (xs = [] ∨ ∃ g off, a = some ⟨g, off, none⟩ ∧ ∀ k, k < xs.length → w.cell? ⟨g, off + k, none⟩ = some (.int .i64 (xs.getD k 0)))

theorem hasInts_nil (w : World) : HasInts w (.slice none 0 0) [] := ⟨none, 0, rfl, .inl rfl⟩

end Go.Proofs.YtoipnafljmhceaaDoor
