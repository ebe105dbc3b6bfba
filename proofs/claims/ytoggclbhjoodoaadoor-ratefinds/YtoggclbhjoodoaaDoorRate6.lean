/-
  The contracts of rate.Find and rate.Convert, over any list whose table is known.
-/
import Derived.Test.YtoggclbhjoodoaaDoorRate5
namespace Go.Proofs.YtoggclbhjoodoaaDoor
set_option linter.unusedVariables false
open Go.RowKit Go.Lib Go.Maps

theorem errV_ne {n : Int} (h : n ≠ 0) : errV n = .iface 40 (.int .i64 n) := if_neg h

theorem chain_of {D : DataW Unit} {k1 k2 : Lit} {p1 q1 p2 q2 : Int} {R : Int × Int × Int} (H1 : tabNum D k1 = (p1, q1)) (H2 : tabNum D k2 = (p2, q2))
    (g1 : (1 ≤ (tabNum D k1).1 ∧ (tabNum D k1).1 ≤ 1000000000) ∧ 1 ≤ (tabNum D k1).2 ∧ (tabNum D k1).2 ≤ 1000000000) (g2 : (1 ≤ (tabNum D k2).1 ∧ (tabNum D k2).1 ≤ 1000000000) ∧ 1 ≤ (tabNum D k2).2 ∧ (tabNum D k2).2 ≤ 1000000000)
    (e1 : R = chainS (tabNum D k1).1.toNat (tabNum D k1).2.toNat (tabNum D k2).1.toNat (tabNum D k2).2.toNat) (W : World) :
    Calls Tryd.prog 26 #[.agg #[.int .i64 p1, .int .i64 q1], .agg #[.int .i64 p2, .int .i64 q2]] W fun e w' => e = .returned (.tuple #[.int .i64 R.1, .int .i64 R.2.1, errV R.2.2]) ∧ Below W.heap.size W w' := by
  rw [H1] at g1 e1
  rw [H2] at g2 e1
  simp only at g1 g2 e1
  have := chain_any p1.toNat q1.toNat p2.toNat q2.toNat W (by omega) (by omega) (by omega) (by omega)
  rw [← e1, Int.toNat_of_nonneg (by omega), Int.toNat_of_nonneg (by omega), Int.toNat_of_nonneg (by omega), Int.toNat_of_nonneg (by omega)] at this
  exact this

set_option maxHeartbeats 4000000 in
theorem find_any (a : Option Addr) (len cap : Nat) (S : Int × DataW Unit) (base f t : ByteArray) (p : Int) (w : World) (ht : Calls Tryd.prog 14 #[.slice a len cap] w (TabEnd w S)) (hg : TabGood S.2) :
    Calls Tryd.prog 10 #[.slice a len cap, .string base, .string f, .string t, .int .i64 p] w fun e w' => e = .returned (.tuple #[.int .i64 (findS S base f t p).1, .int .i64 (findS S base f t p).2.1, errV (findS S base f t p).2.2]) ∧ Below w.heap.size w w' := by
  obtain ⟨R, hR⟩ : ∃ R, findS S base f t p = R := ⟨_, rfl⟩
  rw [hR]
  have HR : Hid (findS S base f t p = R) := hR
  clear hR
  have Ht : Hid (Calls Tryd.prog 14 #[.slice a len cap] w (TabEnd w S)) := ht
  have Hg : Hid (TabGood S.2) := hg
  clear ht hg
  obtain ⟨E, D⟩ := S
  go_enter Tryd.func10, Tryd.ntmps10
  go_wp2_with fail
  refine Ht.out.mono ?_
  rintro e w1 ⟨B1, hbad, hok⟩
  simp only at hbad hok
  by_cases hE : E ≠ 0
  · obtain rfl := hbad hE
    have eR : R = (0, 0, E) := by rw [← HR.out]; simp [findS, hE]
    rw [errV_ne hE]
    subst eR
    clear hok hbad Ht
    go_wp2
    go_ret3
    exact ⟨by rw [errV_ne hE]; rfl, B1⟩
  have hE : E = 0 := Decidable.not_not.1 hE
  obtain ⟨N, rfl, hN, hT⟩ := hok hE
  subst hE
  clear hbad hok Ht
  have HT : Hid (TabAt w1 N 200 D) := hT
  clear hT
  have eR : Hid (R = if isCur base = false ∨ isCur f = false ∨ isCur t = false then (0, 0, 2) else if upTo p 120 = false then (0, 0, 1) else if f = t then (1, 1, 0) else if has D (keyL f t p) = true then ((tabNum D (keyL f t p)).1, (tabNum D (keyL f t p)).2, 0)
    else if has D (keyL f base p) = false ∨ has D (keyL base t p) = false then (0, 0, 6)
    else chainS (tabNum D (keyL f base p)).1.toNat (tabNum D (keyL f base p)).2.toNat (tabNum D (keyL base t p)).1.toNat (tabNum D (keyL base t p)).2.toNat) := by
    unfold Hid; rw [← HR.out]; simp [findS]
  clear HR
  go_wp2_with fail
  refine (cur_any base _).mono ?_
  rintro e w2 ⟨rfl, hb2⟩
  have B2 := B1.trans (hb2.mono B1.size)
  have T2 : Hid (TabAt w2 N 200 D) := by
    obtain ⟨es, clock, q1, q2⟩ := HT.out
    exact ⟨es, clock, (hb2.block _ HT.out.lt).trans q1, q2⟩
  clear hb2 HT B1
  cases h1 : isCur base
  · have e1 : R = (0, 0, 2) := by rw [eR.out]; simp [h1]
    subst e1
    go_wp2
    go_ret3
    exact ⟨rfl, B2⟩
  go_wp2_with fail
  refine (cur_any f _).mono ?_
  rintro e w3 ⟨rfl, hb3⟩
  have B3 := B2.trans (hb3.mono B2.size)
  have T3 : Hid (TabAt w3 N 200 D) := by
    obtain ⟨es, clock, q1, q2⟩ := T2.out
    exact ⟨es, clock, (hb3.block _ T2.out.lt).trans q1, q2⟩
  clear hb3 T2 B2
  cases h2 : isCur f
  · have e1 : R = (0, 0, 2) := by rw [eR.out]; simp [h2]
    subst e1
    go_wp2
    go_ret3
    exact ⟨rfl, B3⟩
  go_wp2_with fail
  refine (cur_any t _).mono ?_
  rintro e w4 ⟨rfl, hb4⟩
  have B4 := B3.trans (hb4.mono B3.size)
  have T4 : Hid (TabAt w4 N 200 D) := by
    obtain ⟨es, clock, q1, q2⟩ := T3.out
    exact ⟨es, clock, (hb4.block _ T3.out.lt).trans q1, q2⟩
  clear hb4 T3 B3
  cases h3 : isCur t
  · have e1 : R = (0, 0, 2) := by rw [eR.out]; simp [h3]
    subst e1
    go_wp2
    go_ret3
    exact ⟨rfl, B4⟩
  go_wp2_with fail
  refine (upTo_any p 120 _).mono ?_
  rintro e w' ⟨rfl, hw⟩
  rw [hw]; clear hw w'
  cases h4 : upTo p 120
  · have e1 : R = (0, 0, 1) := by rw [eR.out]; simp [h1, h2, h3, h4]
    subst e1
    go_wp2
    go_ret3
    exact ⟨rfl, B4⟩
  by_cases h5 : f = t
  · have e1 : R = (1, 1, 0) := by rw [eR.out]; simp [h1, h3, h4, h5]
    subst e1
    subst h5
    go_wp2
    go_ret3
    exact ⟨rfl, B4⟩
  have h5' := texts_ne h5
  have k1 : Hid (keyOf Tryd.prog 64 (pairV f t p) = some (keyL f t p)) := keyOf_pair (cur_size h2) (cur_size h3) (upTo_wf h4)
  have k2 : Hid (keyOf Tryd.prog 64 (pairV f base p) = some (keyL f base p)) := keyOf_pair (cur_size h2) (cur_size h1) (upTo_wf h4)
  have k3 : Hid (keyOf Tryd.prog 64 (pairV base t p) = some (keyL base t p)) := keyOf_pair (cur_size h1) (cur_size h3) (upTo_wf h4)
  have eR2 : Hid (R = if has D (keyL f t p) = true then ((tabNum D (keyL f t p)).1, (tabNum D (keyL f t p)).2, 0)
    else if has D (keyL f base p) = false ∨ has D (keyL base t p) = false then (0, 0, 6)
    else chainS (tabNum D (keyL f base p)).1.toNat (tabNum D (keyL f base p)).2.toNat (tabNum D (keyL base t p)).1.toNat (tabNum D (keyL base t p)).2.toNat) := by
    unfold Hid; rw [eR.out]; simp [h1, h2, h3, h4, h5]
  clear eR h1 h2 h3 h4
  have hsz := B4.size
  cases h6 : has D (keyL f t p)
  · have eR3 : Hid (R = if has D (keyL f base p) = false ∨ has D (keyL base t p) = false then (0, 0, 6)
      else chainS (tabNum D (keyL f base p)).1.toNat (tabNum D (keyL f base p)).2.toNat (tabNum D (keyL base t p)).1.toNat (tabNum D (keyL base t p)).2.toNat) := by
      unfold Hid; rw [eR2.out, if_neg (by rw [h6]; simp)]
    clear eR2
    cases h7 : has D (keyL f base p)
    · have e1 : R = (0, 0, 6) := by rw [eR3.out]; simp [h7]
      subst e1
      go_wp2_with (first | (at_lookup; refine look_worth _ rfl rfl _ _ rfl N 200 D rfl T4.out _ _ rfl k1.out ?_; intro pp qq hpq; clear hpq) | (at_lookup; refine look_worth _ rfl rfl _ _ rfl N 200 D rfl (T4.out.alloc _) _ _ rfl k2.out ?_; intro p1 q1 hpq; clear hpq) | (at_lookup; refine look_worth _ rfl rfl _ _ rfl N 200 D rfl ((T4.out.alloc _).alloc _) _ _ rfl k3.out ?_; intro p2 q2 hpq; clear hpq) | go_in)
      go_ret3
      exact ⟨rfl, ((B4.alloc hsz _).alloc (by simp; omega) _).alloc (by simp; omega) _⟩
    cases h8 : has D (keyL base t p)
    · have e1 : R = (0, 0, 6) := by rw [eR3.out]; simp [h8]
      subst e1
      go_wp2_with (first | (at_lookup; refine look_worth _ rfl rfl _ _ rfl N 200 D rfl T4.out _ _ rfl k1.out ?_; intro pp qq hpq; clear hpq) | (at_lookup; refine look_worth _ rfl rfl _ _ rfl N 200 D rfl (T4.out.alloc _) _ _ rfl k2.out ?_; intro p1 q1 hpq; clear hpq) | (at_lookup; refine look_worth _ rfl rfl _ _ rfl N 200 D rfl ((T4.out.alloc _).alloc _) _ _ rfl k3.out ?_; intro p2 q2 hpq; clear hpq) | go_in)
      go_ret3
      exact ⟨rfl, ((B4.alloc hsz _).alloc (by simp; omega) _).alloc (by simp; omega) _⟩
    have e1 : Hid (R = chainS (tabNum D (keyL f base p)).1.toNat (tabNum D (keyL f base p)).2.toNat (tabNum D (keyL base t p)).1.toNat (tabNum D (keyL base t p)).2.toNat) := by
      unfold Hid; rw [eR3.out, if_neg (by rw [h7, h8]; simp)]
    have g1 : Hid (_ ∧ _) := Hg.out _ h7
    have g2 : Hid (_ ∧ _) := Hg.out _ h8
    clear eR3
    go_wp2_with (first | (at_lookup; refine look_worth _ rfl rfl _ _ rfl N 200 D rfl T4.out _ _ rfl k1.out ?_; intro pp qq hpq; clear hpq) | (at_lookup; refine look_worth _ rfl rfl _ _ rfl N 200 D rfl (T4.out.alloc _) _ _ rfl k2.out ?_; intro p1 q1 hpq; have H1 : Hid (tabNum D (keyL f base p) = (p1, q1)) := (by unfold Hid tabNum; rw [hpq]; rfl); clear hpq) | (at_lookup; refine look_worth _ rfl rfl _ _ rfl N 200 D rfl ((T4.out.alloc _).alloc _) _ _ rfl k3.out ?_; intro p2 q2 hpq; have H2 : Hid (tabNum D (keyL base t p) = (p2, q2)) := (by unfold Hid tabNum; rw [hpq]; rfl); clear hpq) | (go_at_call 26; refine (chain_of H1.out H2.out g1.out g2.out e1.out _).mono ?_; rintro e w9 ⟨rfl, hb9⟩) | go_in)
    go_ret3
    refine ⟨rfl, Below.trans (((B4.alloc hsz _).alloc (by simp; omega) _).alloc (by simp; omega) _) (hb9.mono (by simp; omega))⟩
  · go_wp2_with (first | (at_lookup; refine look_worth _ rfl rfl _ _ rfl N 200 D rfl T4.out _ _ rfl k1.out ?_; intro pp qq hpq) | go_in)
    have e1 : Hid (R = (pp, qq, 0)) := by unfold Hid; rw [eR2.out, if_pos h6]; unfold tabNum; rw [hpq]; rfl
    clear hpq
    go_region
    go_wp2
    go_ret3
    refine ⟨?_, (B4.alloc hsz _).drew⟩
    rw [e1.out]; rfl
end Go.Proofs.YtoggclbhjoodoaaDoor
