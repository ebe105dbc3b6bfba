/-
  Contracts of money.size, math/bits.Mul64, money.withSign, money.signed, money.roundsUp and money.isPart, for every word.
-/
import Derived.Test.YtbbegoklikaphaaZs0
import Derived.Test.YtbbegoklikaphaaRows
import Derived.WalkKit
import Derived.WalkSpells
import Derived.Laws.Bits64b
import Derived.Lib.Strings
import Derived.Lib.Slices
import Derived.Lib.Small
import Derived.Lib.Walk
import Derived.Lib.BitFns
import Derived.Lib.Tables
import Derived.Lib.ItoaNum
import Derived.Deep.QuietTactic
import Derived.BigQuiet
import Derived.Below
import Derived.Lib.Mul64
namespace Go.Proofs.Ytbbegoklikaphaa
set_option linter.unusedVariables false
open Go.RowKit Go.Lib Go.Maps

theorem errV_ne {n : Int} (h : n ≠ 0) : errV n = .iface 58 (.int .i64 n) := if_neg h

theorem chain_of {D : DataW Unit} {k1 k2 : Lit} {p1 q1 p2 q2 : Int} {R : Int × Int × Int} (H1 : tabNum D k1 = (p1, q1)) (H2 : tabNum D k2 = (p2, q2))
    (g1 : (1 ≤ (tabNum D k1).1 ∧ (tabNum D k1).1 ≤ 1000000000) ∧ 1 ≤ (tabNum D k1).2 ∧ (tabNum D k1).2 ≤ 1000000000) (g2 : (1 ≤ (tabNum D k2).1 ∧ (tabNum D k2).1 ≤ 1000000000) ∧ 1 ≤ (tabNum D k2).2 ∧ (tabNum D k2).2 ≤ 1000000000)
    (e1 : R = chainS (tabNum D k1).1.toNat (tabNum D k1).2.toNat (tabNum D k2).1.toNat (tabNum D k2).2.toNat) (W : World) :
    Calls Try.prog 64 #[.agg #[.int .i64 p1, .int .i64 q1], .agg #[.int .i64 p2, .int .i64 q2]] W fun e w' => e = .returned (.tuple #[.int .i64 R.1, .int .i64 R.2.1, errV R.2.2]) ∧ Below W.heap.size W w' := by
  rw [H1] at g1 e1
  rw [H2] at g2 e1
  simp only at g1 g2 e1
  have := chain_any p1.toNat q1.toNat p2.toNat q2.toNat W (by omega) (by omega) (by omega) (by omega)
  rw [← e1, Int.toNat_of_nonneg (by omega), Int.toNat_of_nonneg (by omega), Int.toNat_of_nonneg (by omega), Int.toNat_of_nonneg (by omega)] at this
  exact this

set_option maxHeartbeats 4000000 in
theorem find_any (a : Option Addr) (len cap : Nat) (S : Int × DataW Unit) (base f t : ByteArray) (p : Int) (w : World) (ht : Calls Try.prog 60 #[.slice a len cap] w (TabEnd w S)) (hg : TabGood S.2) :
    Calls Try.prog 51 #[.slice a len cap, .string base, .string f, .string t, .int .i64 p] w fun e w' => e = .returned (.tuple #[.int .i64 (findS S base f t p).1, .int .i64 (findS S base f t p).2.1, errV (findS S base f t p).2.2]) ∧ Below w.heap.size w w' := by
  obtain ⟨R, hR⟩ : ∃ R, findS S base f t p = R := ⟨_, rfl⟩
  rw [hR]
  have HR : Hid (findS S base f t p = R) := hR
  clear hR
  have Ht : Hid (Calls Try.prog 60 #[.slice a len cap] w (TabEnd w S)) := ht
  have Hg : Hid (TabGood S.2) := hg
  clear ht hg
  obtain ⟨E, D⟩ := S
  go_enter Try.func51, Try.ntmps51
  go_wp2_with fail
  refine Ht.out.mono ?_
  rintro e w1 ⟨B1, hbad, hok⟩
  simp only at hbad hok
  by_cases hE : E ≠ 0
  · obtain rfl := hbad hE
    have eR : R = (0, 0, E) := by rw [← HR.out]; simp [findS, hE]
    rw [errV_ne hE]
    subst eR
    clear hok hbad Ht
    go_wp2
    go_ret3
    exact ⟨by rw [errV_ne hE]; rfl, B1⟩
  have hE : E = 0 := Decidable.not_not.1 hE
  obtain ⟨N, rfl, hN, hT⟩ := hok hE
  subst hE
  clear hbad hok Ht
  have HT : Hid (TabAt w1 N 200 D) := hT
  clear hT
  have eR : Hid (R = if isCur base = false ∨ isCur f = false ∨ isCur t = false then (0, 0, 2) else if upTo p 120 = false then (0, 0, 1) else if f = t then (1, 1, 0) else if has D (keyL f t p) = true then ((tabNum D (keyL f t p)).1, (tabNum D (keyL f t p)).2, 0)
    else if has D (keyL f base p) = false ∨ has D (keyL base t p) = false then (0, 0, 6)
    else chainS (tabNum D (keyL f base p)).1.toNat (tabNum D (keyL f base p)).2.toNat (tabNum D (keyL base t p)).1.toNat (tabNum D (keyL base t p)).2.toNat) := by
    unfold Hid; rw [← HR.out]; simp [findS]
  clear HR
  go_wp2_with fail
  refine (cur_any base _).mono ?_
  rintro e w2 ⟨rfl, hb2⟩
  have B2 := B1.trans (hb2.mono B1.size)
  have T2 : Hid (TabAt w2 N 200 D) := by
    obtain ⟨es, clock, q1, q2⟩ := HT.out
    exact ⟨es, clock, (hb2.block _ HT.out.lt).trans q1, q2⟩
  clear hb2 HT B1
  cases h1 : isCur base
  · have e1 : R = (0, 0, 2) := by rw [eR.out]; simp [h1]
    subst e1
    go_wp2
    go_ret3
    exact ⟨rfl, B2⟩
  go_wp2_with fail
  refine (cur_any f _).mono ?_
  rintro e w3 ⟨rfl, hb3⟩
  have B3 := B2.trans (hb3.mono B2.size)
  have T3 : Hid (TabAt w3 N 200 D) := by
    obtain ⟨es, clock, q1, q2⟩ := T2.out
    exact ⟨es, clock, (hb3.block _ T2.out.lt).trans q1, q2⟩
  clear hb3 T2 B2
  cases h2 : isCur f
  · have e1 : R = (0, 0, 2) := by rw [eR.out]; simp [h2]
    subst e1
    go_wp2
    go_ret3
    exact ⟨rfl, B3⟩
  go_wp2_with fail
  refine (cur_any t _).mono ?_
  rintro e w4 ⟨rfl, hb4⟩
  have B4 := B3.trans (hb4.mono B3.size)
  have T4 : Hid (TabAt w4 N 200 D) := by
    obtain ⟨es, clock, q1, q2⟩ := T3.out
    exact ⟨es, clock, (hb4.block _ T3.out.lt).trans q1, q2⟩
  clear hb4 T3 B3
  cases h3 : isCur t
  · have e1 : R = (0, 0, 2) := by rw [eR.out]; simp [h3]
    subst e1
    go_wp2
    go_ret3
    exact ⟨rfl, B4⟩
  go_wp2_with fail
  refine (upTo_any p 120 _).mono ?_
  rintro e w' ⟨rfl, hw⟩
  rw [hw]; clear hw w'
  cases h4 : upTo p 120
  · have e1 : R = (0, 0, 1) := by rw [eR.out]; simp [h1, h2, h3, h4]
    subst e1
    go_wp2
    go_ret3
    exact ⟨rfl, B4⟩
  by_cases h5 : f = t
  · have e1 : R = (1, 1, 0) := by rw [eR.out]; simp [h1, h3, h4, h5]
    subst e1
    subst h5
    go_wp2
    go_ret3
    exact ⟨rfl, B4⟩
  have h5' := texts_ne h5
  have k1 : Hid (keyOf Try.prog 117 (pairV f t p) = some (keyL f t p)) := keyOf_pair (cur_size h2) (cur_size h3) (upTo_wf h4)
  have k2 : Hid (keyOf Try.prog 117 (pairV f base p) = some (keyL f base p)) := keyOf_pair (cur_size h2) (cur_size h1) (upTo_wf h4)
  have k3 : Hid (keyOf Try.prog 117 (pairV base t p) = some (keyL base t p)) := keyOf_pair (cur_size h1) (cur_size h3) (upTo_wf h4)
  have eR2 : Hid (R = if has D (keyL f t p) = true then ((tabNum D (keyL f t p)).1, (tabNum D (keyL f t p)).2, 0)
    else if has D (keyL f base p) = false ∨ has D (keyL base t p) = false then (0, 0, 6)
    else chainS (tabNum D (keyL f base p)).1.toNat (tabNum D (keyL f base p)).2.toNat (tabNum D (keyL base t p)).1.toNat (tabNum D (keyL base t p)).2.toNat) := by
    unfold Hid; rw [eR.out]; simp [h1, h2, h3, h4, h5]
  clear eR h1 h2 h3 h4
  have hsz := B4.size
  cases h6 : has D (keyL f t p)
  · have eR3 : Hid (R = if has D (keyL f base p) = false ∨ has D (keyL base t p) = false then (0, 0, 6)
      else chainS (tabNum D (keyL f base p)).1.toNat (tabNum D (keyL f base p)).2.toNat (tabNum D (keyL base t p)).1.toNat (tabNum D (keyL base t p)).2.toNat) := by
      unfold Hid; rw [eR2.out, if_neg (by rw [h6]; simp)]
    clear eR2
    cases h7 : has D (keyL f base p)
    · have e1 : R = (0, 0, 6) := by rw [eR3.out]; simp [h7]
      subst e1
      go_wp2_with (first | (at_lookup; refine look_worth _ rfl rfl _ _ rfl N 200 D rfl T4.out _ _ rfl k1.out ?_; intro pp qq hpq; clear hpq) | (at_lookup; refine look_worth _ rfl rfl _ _ rfl N 200 D rfl (T4.out.alloc _) _ _ rfl k2.out ?_; intro p1 q1 hpq; clear hpq) | (at_lookup; refine look_worth _ rfl rfl _ _ rfl N 200 D rfl ((T4.out.alloc _).alloc _) _ _ rfl k3.out ?_; intro p2 q2 hpq; clear hpq) | go_in)
      go_ret3
      exact ⟨rfl, ((B4.alloc hsz _).alloc (by simp; omega) _).alloc (by simp; omega) _⟩
    cases h8 : has D (keyL base t p)
    · have e1 : R = (0, 0, 6) := by rw [eR3.out]; simp [h8]
      subst e1
      go_wp2_with (first | (at_lookup; refine look_worth _ rfl rfl _ _ rfl N 200 D rfl T4.out _ _ rfl k1.out ?_; intro pp qq hpq; clear hpq) | (at_lookup; refine look_worth _ rfl rfl _ _ rfl N 200 D rfl (T4.out.alloc _) _ _ rfl k2.out ?_; intro p1 q1 hpq; clear hpq) | (at_lookup; refine look_worth _ rfl rfl _ _ rfl N 200 D rfl ((T4.out.alloc _).alloc _) _ _ rfl k3.out ?_; intro p2 q2 hpq; clear hpq) | go_in)
      go_ret3
      exact ⟨rfl, ((B4.alloc hsz _).alloc (by simp; omega) _).alloc (by simp; omega) _⟩
    have e1 : Hid (R = chainS (tabNum D (keyL f base p)).1.toNat (tabNum D (keyL f base p)).2.toNat (tabNum D (keyL base t p)).1.toNat (tabNum D (keyL base t p)).2.toNat) := by
      unfold Hid; rw [eR3.out, if_neg (by rw [h7, h8]; simp)]
    have g1 : Hid (_ ∧ _) := Hg.out _ h7
    have g2 : Hid (_ ∧ _) := Hg.out _ h8
    clear eR3
    go_wp2_with (first | (at_lookup; refine look_worth _ rfl rfl _ _ rfl N 200 D rfl T4.out _ _ rfl k1.out ?_; intro pp qq hpq; clear hpq) | (at_lookup; refine look_worth _ rfl rfl _ _ rfl N 200 D rfl (T4.out.alloc _) _ _ rfl k2.out ?_; intro p1 q1 hpq; have H1 : Hid (tabNum D (keyL f base p) = (p1, q1)) := (by unfold Hid tabNum; rw [hpq]; rfl); clear hpq) | (at_lookup; refine look_worth _ rfl rfl _ _ rfl N 200 D rfl ((T4.out.alloc _).alloc _) _ _ rfl k3.out ?_; intro p2 q2 hpq; have H2 : Hid (tabNum D (keyL base t p) = (p2, q2)) := (by unfold Hid tabNum; rw [hpq]; rfl); clear hpq) | (go_at_call 64; refine (chain_of H1.out H2.out g1.out g2.out e1.out _).mono ?_; rintro e w9 ⟨rfl, hb9⟩) | go_in)
    go_ret3
    refine ⟨rfl, Below.trans (((B4.alloc hsz _).alloc (by simp; omega) _).alloc (by simp; omega) _) (hb9.mono (by simp; omega))⟩
  · go_wp2_with (first | (at_lookup; refine look_worth _ rfl rfl _ _ rfl N 200 D rfl T4.out _ _ rfl k1.out ?_; intro pp qq hpq) | go_in)
    have e1 : Hid (R = (pp, qq, 0)) := by unfold Hid; rw [eR2.out, if_pos h6]; unfold tabNum; rw [hpq]; rfl
    clear hpq
    go_region
    go_wp2
    go_ret3
    refine ⟨?_, (B4.alloc hsz _).drew⟩
    rw [e1.out]; rfl
end Go.Proofs.Ytbbegoklikaphaa

namespace Go.Proofs.Ytbbegoklikaphaa
set_option linter.unusedVariables false
open Go.RowKit Go.Lib Go.Maps

theorem chainN_pos {a b : Nat} (ha : 1 ≤ a) : 1 ≤ chainN a b := by
  unfold chainN
  exact Nat.div_pos (Nat.gcd_le_left _ ha) (Nat.gcd_pos_of_pos_left _ ha)

theorem chainS_range {n1 d1 n2 d2 : Nat} (h1 : 1 ≤ n1) (h2 : 1 ≤ d1) (h3 : 1 ≤ n2) (h4 : 1 ≤ d2) (h : (chainS n1 d1 n2 d2).2.2 = 0) :
    (1 ≤ (chainS n1 d1 n2 d2).1 ∧ (chainS n1 d1 n2 d2).1 ≤ 1000000000) ∧ 1 ≤ (chainS n1 d1 n2 d2).2.1 ∧ (chainS n1 d1 n2 d2).2.1 ≤ 1000000000 := by
  unfold chainS at h ⊢
  split at h
  · simp at h
  · rename_i hn
    rw [if_neg hn]
    have p1 := chainN_pos (b := d1 * d2) (Nat.mul_pos h1 h3)
    have p2 := chainN_pos (b := n1 * n2) (Nat.mul_pos h2 h4)
    simp only [not_or] at hn
    dsimp only
    omega

theorem findS_range {S : Int × DataW Unit} {base f t : ByteArray} {p : Int} (hg : TabGood S.2) (h : (findS S base f t p).2.2 = 0) :
    (1 ≤ (findS S base f t p).1 ∧ (findS S base f t p).1 ≤ 1000000000) ∧ 1 ≤ (findS S base f t p).2.1 ∧ (findS S base f t p).2.1 ≤ 1000000000 := by
  unfold findS at h ⊢
  by_cases c1 : S.1 ≠ 0
  · rw [if_pos c1] at h; exact absurd h c1
  rw [if_neg c1] at h ⊢
  by_cases c2 : isCur base = false ∨ isCur f = false ∨ isCur t = false
  · rw [if_pos c2] at h; simp at h
  rw [if_neg c2] at h ⊢
  by_cases c3 : upTo p 120 = false
  · rw [if_pos c3] at h; simp at h
  rw [if_neg c3] at h ⊢
  by_cases c4 : f = t
  · rw [if_pos c4]; simp
  rw [if_neg c4] at h ⊢
  by_cases c5 : has S.2 (keyL f t p) = true
  · rw [if_pos c5]; exact hg _ c5
  rw [if_neg c5] at h ⊢
  by_cases c6 : has S.2 (keyL f base p) = false ∨ has S.2 (keyL base t p) = false
  · rw [if_pos c6] at h; simp at h
  rw [if_neg c6] at h ⊢
  simp only [not_or, Bool.not_eq_false] at c6
  have g1 := hg _ c6.1
  have g2 := hg _ c6.2
  exact chainS_range (by omega) (by omega) (by omega) (by omega) h

theorem chainS_turn (n1 d1 n2 d2 : Nat) : chainS d2 n2 d1 n1 = ((chainS n1 d1 n2 d2).2.1, (chainS n1 d1 n2 d2).1, (chainS n1 d1 n2 d2).2.2) := by
  unfold chainS
  rw [Nat.mul_comm d2 d1, Nat.mul_comm n2 n1]
  by_cases h : 1000000000 < chainN (n1 * n2) (d1 * d2) ∨ 1000000000 < chainN (d1 * d2) (n1 * n2)
  · rw [if_pos h, if_pos h.symm]
  · rw [if_neg h, if_neg (fun h' => h h'.symm)]

/-- The other way round. -/
theorem findS_turn {S : Int × DataW Unit} {base f t : ByteArray} {p : Int} (hs : TabSym S.2) : findS S base t f p = ((findS S base f t p).2.1, (findS S base f t p).1, (findS S base f t p).2.2) := by
  unfold findS
  by_cases c1 : S.1 ≠ 0
  · rw [if_pos c1, if_pos c1]
  rw [if_neg c1, if_neg c1]
  by_cases c2 : isCur base = false ∨ isCur f = false ∨ isCur t = false
  · rw [if_pos c2, if_pos (by rcases c2 with h | h | h <;> simp [h])]
  rw [if_neg c2, if_neg (fun h => c2 (by rcases h with h | h | h <;> simp [h]))]
  by_cases c3 : upTo p 120 = false
  · rw [if_pos c3, if_pos c3]
  rw [if_neg c3, if_neg c3]
  by_cases c4 : f = t
  · rw [if_pos c4, if_pos c4.symm]
  rw [if_neg c4, if_neg (fun h => c4 h.symm)]
  simp only [not_or, Bool.not_eq_false] at c2 c3
  obtain ⟨b0, b1, b2⟩ := c2
  have s0 := hs f t p b1 b2 c3
  have s0' := hs t f p b2 b1 c3
  have s1 := hs t base p b2 b0 c3
  have s1' := hs base t p b0 b2 c3
  have s2 := hs base f p b0 b1 c3
  have s2' := hs f base p b1 b0 c3
  by_cases c5 : has S.2 (keyL f t p) = true
  · rw [if_pos c5, if_pos (s0.1 ▸ c5), s0.2, s0'.2]
  rw [if_neg c5, if_neg (s0.1 ▸ c5)]
  by_cases c6 : has S.2 (keyL f base p) = false ∨ has S.2 (keyL base t p) = false
  · rw [if_pos c6, if_pos (by rw [s1.1, s2.1]; exact c6.symm)]
  rw [if_neg c6, if_neg (by rw [s1.1, s2.1]; exact fun h => c6 h.symm)]
  rw [s1.2, ← s1'.2, s2.2, ← s2'.2]
  exact chainS_turn _ _ _ _

end Go.Proofs.Ytbbegoklikaphaa

namespace Go.Proofs.Ytbbegoklikaphaa.Math
set_option linter.unusedVariables false
/-- The invariant of one step of the long division: u < y, y = y1*b + y0. -/
structure DivSt (u u1 y1 y0 q r : Nat) : Prop where
  eq : u = q * y1 + r
  ge : (u * 4294967296 + u1) / (y1 * 4294967296 + y0) ≤ q

theorem div_start (u u1 y1 y0 : Nat) (h1 : 0 < y1) (hu1 : u1 < 4294967296) : DivSt u u1 y1 y0 (u / y1) (u % y1) := by
  refine ⟨?_, ?_⟩
  · have := Nat.div_add_mod u y1
    rw [Nat.mul_comm] at this; omega
  · have hy : 0 < y1 * 4294967296 + y0 := by omega
    rw [Nat.div_le_iff_le_mul_add_pred hy]
    have e := Nat.div_add_mod u y1
    have l := Nat.mod_lt u h1
    generalize u / y1 = q at *
    generalize u % y1 = r at *
    have e2 : (y1 * 4294967296 + y0) * q = y1 * q * 4294967296 + y0 * q := by
      rw [Nat.add_mul, Nat.mul_right_comm]
    rw [e2]
    generalize y1 * q = t at *
    generalize y0 * q = t0 at *
    omega

theorem quo_lt (u u1 y : Nat) (hu : u < y) (hu1 : u1 < 4294967296) : (u * 4294967296 + u1) / y < 4294967296 := by
  rw [Nat.div_lt_iff_lt_mul (by omega)]
  omega

/-- A round: the guess was too great, so one less is no less than the quotient. -/
theorem div_round (u u1 y1 y0 q r : Nat) (h : DivSt u u1 y1 y0 q r) (hu : u < y1 * 4294967296 + y0) (hu1 : u1 < 4294967296)
    (hc : 4294967296 ≤ q ∨ r * 4294967296 + u1 < q * y0) : 1 ≤ q ∧ DivSt u u1 y1 y0 (q - 1) (r + y1) := by
  have hq : (u * 4294967296 + u1) / (y1 * 4294967296 + y0) < q := by
    rcases hc with hc | hc
    · exact Nat.lt_of_lt_of_le (quo_lt u u1 _ hu hu1) hc
    · rw [Nat.div_lt_iff_lt_mul (by omega)]
      have e := h.eq
      have e2 : q * (y1 * 4294967296 + y0) = q * y1 * 4294967296 + q * y0 := by
        rw [Nat.mul_add, Nat.mul_assoc]
      rw [e2, e, Nat.add_mul, Nat.add_assoc]
      exact Nat.add_lt_add_left hc _
  have h1 : 1 ≤ q := Nat.lt_of_le_of_lt (Nat.zero_le _) hq
  refine ⟨h1, ?_, Nat.le_sub_one_of_lt hq⟩
  have e := h.eq
  obtain ⟨p, rfl⟩ : ∃ p, q = p + 1 := ⟨q - 1, by omega⟩
  simp only [Nat.add_sub_cancel]
  rw [Nat.add_mul] at e
  omega

theorem div_stop (u u1 y1 y0 q r : Nat) (h : DivSt u u1 y1 y0 q r) (hu : u < y1 * 4294967296 + y0)
    (hc : q * y0 ≤ r * 4294967296 + u1) : q = (u * 4294967296 + u1) / (y1 * 4294967296 + y0) := by
  refine Nat.le_antisymm ?_ h.ge
  rw [Nat.le_div_iff_mul_le (by omega)]
  have e := h.eq
  have e2 : q * (y1 * 4294967296 + y0) = q * y1 * 4294967296 + q * y0 := by
    rw [Nat.mul_add, Nat.mul_assoc]
  rw [e2]
  generalize q * y1 = t at *
  generalize q * y0 = t0 at *
  omega

theorem div_break (u u1 y1 y0 q r : Nat) (h : DivSt u u1 y1 y0 q r) (hu : u < y1 * 4294967296 + y0) (h0 : y0 < 4294967296)
    (hr : 4294967296 ≤ r) : q = (u * 4294967296 + u1) / (y1 * 4294967296 + y0) := by
  have hq : q < 4294967296 := by
    apply Classical.byContradiction
    intro hn
    have hn : 4294967296 ≤ q := by omega
    have e := h.eq
    have := Nat.mul_le_mul_right y1 hn
    generalize q * y1 = t at *
    omega
  refine div_stop u u1 y1 y0 q r h hu ?_
  have := Nat.mul_le_mul (Nat.le_of_lt hq) (Nat.le_of_lt h0)
  omega

theorem shift_split (lo P Q : Nat) (hPQ : P * Q = 18446744073709551616) : lo / Q * 18446744073709551616 + lo * P % 18446744073709551616 = lo * P := by
  have hP : 0 < P := by
    rcases Nat.eq_zero_or_pos P with h | h
    · rw [h, Nat.zero_mul] at hPQ; omega
    · exact h
  have e : lo * P / 18446744073709551616 = lo / Q := by
    rw [← hPQ, Nat.mul_comm P Q, Nat.mul_div_mul_right _ _ hP]
  have := Nat.div_add_mod (lo * P) 18446744073709551616
  rw [e] at this
  omega

theorem two_steps (U32 un1 un0 Y : Nat) (hY : 0 < Y) :
    (U32 * 18446744073709551616 + (un1 * 4294967296 + un0)) / Y = (U32 * 4294967296 + un1) / Y * 4294967296 + ((U32 * 4294967296 + un1) % Y * 4294967296 + un0) / Y ∧
    (U32 * 18446744073709551616 + (un1 * 4294967296 + un0)) % Y = ((U32 * 4294967296 + un1) % Y * 4294967296 + un0) % Y := by
  have e : U32 * 18446744073709551616 + (un1 * 4294967296 + un0) = ((U32 * 4294967296 + un1) % Y * 4294967296 + un0) + Y * ((U32 * 4294967296 + un1) / Y * 4294967296) := by
    have h := Nat.div_add_mod (U32 * 4294967296 + un1) Y
    rw [← Nat.mul_assoc]
    generalize Y * ((U32 * 4294967296 + un1) / Y) = t at *
    generalize (U32 * 4294967296 + un1) % Y = r at *
    omega
  rw [e, Nat.add_mul_div_left _ _ hY, Nat.add_mul_mod_self_left]
  exact ⟨Nat.add_comm _ _, rfl⟩

theorem div64_math (hi lo y P Q : Nat) (hPQ : P * Q = 18446744073709551616) (hy : 0 < y) :
    let U := hi * P + lo / Q
    let V := lo * P % 18446744073709551616
    let Y := y * P
    (U * 4294967296 + V / 4294967296) / Y * 4294967296 + ((U * 4294967296 + V / 4294967296) % Y * 4294967296 + V % 4294967296) / Y = (hi * 18446744073709551616 + lo) / y ∧
    ((U * 4294967296 + V / 4294967296) % Y * 4294967296 + V % 4294967296) % Y / P = (hi * 18446744073709551616 + lo) % y := by
  intro U V Y
  have hP : 0 < P := by
    rcases Nat.eq_zero_or_pos P with h | h
    · rw [h, Nat.zero_mul] at hPQ; omega
    · exact h
  have hY : 0 < Y := Nat.mul_pos hy hP
  have h2 := two_steps U (V / 4294967296) (V % 4294967296) Y hY
  have e : U * 18446744073709551616 + (V / 4294967296 * 4294967296 + V % 4294967296) = (hi * 18446744073709551616 + lo) * P := by
    have h1 := shift_split lo P Q hPQ
    have h3 : V / 4294967296 * 4294967296 + V % 4294967296 = V := Nat.div_add_mod' _ _
    rw [h3]
    show (hi * P + lo / Q) * 18446744073709551616 + lo * P % 18446744073709551616 = _
    rw [Nat.add_mul, Nat.add_mul, Nat.add_assoc, h1, Nat.mul_right_comm]
  rw [e] at h2
  rw [← h2.1, ← h2.2]
  refine ⟨Nat.mul_div_mul_right _ _ hP, ?_⟩
  rw [Nat.mul_mod_mul_right, Nat.mul_div_cancel _ hP]
/-- What 64 bits with a sign hold. -/
def I64 (x : Int) : Prop := -9223372036854775808 ≤ x ∧ x ≤ 9223372036854775807

/-- The two words of a sum. -/
def loW (s : Int) : Int := s % 18446744073709551616
def hiW (s : Int) : Int := s / 18446744073709551616 % 18446744073709551616
theorem loW_bd (s : Int) : 0 ≤ loW s ∧ loW s < 18446744073709551616 := by unfold loW; omega
theorem hiW_bd (s : Int) : 0 ≤ hiW s ∧ hiW s < 18446744073709551616 := by unfold hiW; omega
/-- a word of an int: itself, or 2^64 more. -/
theorem loW_add (s a : Int) : (loW s + loW a) % 18446744073709551616 = loW (s + a) := by unfold loW; omega
theorem hiW_add (s a : Int) (h : I64 a) : (hiW s + (loW (a / 9223372036854775808) + (loW s + loW a) / 18446744073709551616)) % 18446744073709551616 = hiW (s + a) := by
  unfold hiW loW; unfold I64 at h
  have key : (s + a) / 18446744073709551616 = s / 18446744073709551616 + a / 9223372036854775808 + (s % 18446744073709551616 + a % 18446744073709551616) / 18446744073709551616 := by
    by_cases h0 : a < 0
    · have e1 : a / 9223372036854775808 = -1 := by omega
      have e2 : a % 18446744073709551616 = a + 18446744073709551616 := by omega
      rw [e1, e2]; omega
    · have e1 : a / 9223372036854775808 = 0 := by omega
      have e2 : a % 18446744073709551616 = a := by omega
      rw [e1, e2]; omega
  rw [key]
  generalize (s % 18446744073709551616 + a % 18446744073709551616) / 18446744073709551616 = c
  generalize s / 18446744073709551616 = p
  generalize a / 9223372036854775808 = q
  omega
/-- The carry of two words. -/
def cW (s a : Int) : Int := (loW s + loW a) / 18446744073709551616
theorem cW_bd (s a : Int) : 0 ≤ cW s a ∧ cW s a ≤ 1 := by have := loW_bd s; have := loW_bd a; unfold cW; omega
theorem hiW_step (s a : Int) (h : I64 a) : (hiW s + (a / 9223372036854775808 % 18446744073709551616 + cW s a) % 18446744073709551616) % 18446744073709551616 = hiW (s + a) := by
  rw [← hiW_add s a h]
  unfold cW
  generalize (loW s + loW a) / 18446744073709551616 = c
  unfold loW
  generalize a / 9223372036854775808 = q
  generalize hiW s = p
  omega
theorem sum_fits (s : Int) (h : -170141183460469231731687303715884105728 ≤ s ∧ s < 170141183460469231731687303715884105728) (x : Int)
    (hx : x = if loW s < 9223372036854775808 then loW s else loW s - 18446744073709551616) :
    (hiW s = loW (x / 9223372036854775808) ↔ I64 s) ∧ (I64 s → x = s) := by
  unfold hiW loW at *; unfold I64
  split at hx <;> omega
/-- One more, where what was cut off is more than a half, or is it and the whole is odd. -/
def upOf (w r d : Int) : Int := if 2 * r > d ∨ (2 * r = d ∧ w % 2 = 1) then 1 else 0
/-- The size of a part, rounded. -/
def partOf (m n d : Int) : Int := m * n / d + upOf (m * n / d) (m * n % d) d
def absI (a : Int) : Int := if a < 0 then -a else a
def ratioOk (a n d : Int) : Prop := partOf (absI a) n d ≤ 9223372036854775807 + (if a < 0 then 1 else 0)
def ratioV (a n d : Int) : Int := if a < 0 then -(partOf (absI a) n d) else partOf (absI a) n d

theorem absI_nonneg (a : Int) : 0 ≤ absI a := by unfold absI; split <;> omega
theorem absI_neg (a : Int) : absI (-a) = absI a := by unfold absI; split <;> split <;> omega
theorem upOf_bd (w r d : Int) : 0 ≤ upOf w r d ∧ upOf w r d ≤ 1 := by unfold upOf; split <;> omega

theorem near (m n d : Int) (hd : 1 ≤ d) : let t := partOf m n d
    2 * (m * n - t * d) ≤ d ∧ -d ≤ 2 * (m * n - t * d) ∧ ((2 * (m * n - t * d) = d ∨ 2 * (m * n - t * d) = -d) → t % 2 = 0) := by
  intro t
  have e := Int.mul_ediv_add_emod (m * n) d
  have l0 := Int.emod_nonneg (m * n) (b := d) (by omega)
  have l1 := Int.emod_lt_of_pos (m * n) (b := d) (by omega)
  have ht : t = m * n / d + upOf (m * n / d) (m * n % d) d := rfl
  generalize m * n = p at *
  generalize p / d = w at *
  generalize p % d = r at *
  have hm : t * d = d * w + upOf w r d * d := by rw [ht, Int.add_mul, Int.mul_comm w d]
  rw [hm]
  clear_value t
  subst ht
  generalize d * w = dw at *
  unfold upOf
  split
  · rename_i h
    rw [Int.one_mul]
    omega
  · rename_i h
    rw [Int.zero_mul]
    omega

theorem part_all (m d : Int) (hd : 1 ≤ d) : partOf m d d = m := by
  have e1 : m * d / d = m := Int.mul_ediv_cancel m (by omega)
  have e2 : m * d % d = 0 := Int.mul_emod_left m d
  unfold partOf upOf
  rw [e1, e2, if_neg (by omega)]
  omega

theorem part_bd (m n d : Int) (h0 : 0 ≤ m) (h1 : m ≤ 1000000000) (h2 : 0 ≤ n) (h3 : n ≤ 1000000000) (hd : 1 ≤ d) : 0 ≤ partOf m n d ∧ partOf m n d ≤ 1000000000000000001 := by
  have a := Int.mul_nonneg h0 h2
  have b : m * n ≤ 1000000000 * 1000000000 := Int.mul_le_mul h1 h3 h2 (by omega)
  have c := Int.ediv_nonneg a (by omega : (0 : Int) ≤ d)
  have e : m * n / d ≤ m * n := Int.ediv_le_self _ a
  have u := upOf_bd (m * n / d) (m * n % d) d
  unfold partOf
  omega

theorem part_nonneg (m n d : Int) (h0 : 0 ≤ m) (h2 : 0 ≤ n) (hd : 1 ≤ d) : 0 ≤ partOf m n d := by
  have a := Int.mul_nonneg h0 h2
  have c := Int.ediv_nonneg a (by omega : (0 : Int) ≤ d)
  have u := upOf_bd (m * n / d) (m * n % d) d
  unfold partOf
  omega

/-- MoneyRounds' facts. -/
theorem rounds_facts (a n d : Int) (ha : -1000000000 ≤ a ∧ a ≤ 1000000000) (hn : 0 ≤ n ∧ n ≤ 1000000000) (hd : 1 ≤ d) :
    ratioOk a n d ∧ ratioOk (-a) n d ∧ ratioOk a d d ∧ ratioV (-a) n d = -ratioV a n d ∧ ratioV a d d = a ∧
    2 * (a * n - ratioV a n d * d) ≤ d ∧ -d ≤ 2 * (a * n - ratioV a n d * d) ∧ ((2 * (a * n - ratioV a n d * d) = d ∨ 2 * (a * n - ratioV a n d * d) = -d) → ratioV a n d % 2 = 0) := by
  have hm0 := absI_nonneg a
  have hm1 : absI a ≤ 1000000000 := by unfold absI; split <;> omega
  have b := part_bd (absI a) n d hm0 hm1 hn.1 hn.2 hd
  have p := part_all (absI a) d hd
  have nr := near (absI a) n d hd
  simp only at nr
  refine ⟨?_, ?_, ?_, ?_, ?_, ?_⟩
  · unfold ratioOk; split <;> omega
  · unfold ratioOk; rw [absI_neg]; split <;> omega
  · unfold ratioOk; rw [p]; split <;> omega
  · unfold ratioV; rw [absI_neg]
    by_cases h : a < 0
    · rw [if_pos h, if_neg (by omega)]; omega
    · rw [if_neg h]
      by_cases h' : -a < 0
      · rw [if_pos h']
      · have : a = 0 := by omega
        rw [if_neg h']
        subst this
        have : partOf (absI 0) n d = 0 := by
          unfold absI partOf upOf; rw [if_neg (by omega)]; simp; omega
        omega
  · unfold ratioV; rw [p]; unfold absI; split <;> omega
  · unfold ratioV
    have e : a * n = if a < 0 then -(absI a * n) else absI a * n := by
      unfold absI; split
      · rw [Int.neg_mul, Int.neg_neg]
      · rfl
    rw [e]
    generalize absI a * n = x at *
    generalize hpt : partOf (absI a) n d = t at *
    by_cases h : a < 0
    · simp only [if_pos h, Int.neg_mul]
      generalize t * d = y at *
      omega
    · simp only [if_neg h]
      generalize t * d = y at *
      omega
end Go.Proofs.Ytbbegoklikaphaa.Math

namespace Go.Proofs.Ytbbegoklikaphaa
set_option linter.unusedVariables false
open Go.RowKit Go.Lib Math

theorem tab_size : Lib.len8tab.size = 256 := by kernel_rfl

theorem len_tab (t : Nat) (h : t < Lib.len8tab.size) : ((Lib.len8tab[t]'h).toNat : Int) = Lib.bitLen t := by
  have h2 : t < 256 := by rw [tab_size] at h; exact h
  have e := Lib.len8_of (t : Int) (by omega) (by omega)
  unfold Lib.len8 at e
  rw [Int.toNat_natCast, getElem?_pos Lib.len8tab t h] at e
  exact e

theorem len_way (x y : Int) (k K : Nat) (hK : K = 2 ^ k) (hy : y = x / (K : Int)) (h1 : (K : Int) ≤ x) (h2 : x < K * 256) (h3 : x < 18446744073709551616) (h : y.toNat < Lib.len8tab.size) (hk : k ≤ 56) :
    wrap64 (k + wrap64 ((Lib.len8tab[y.toNat]'h).toNat : Int)) = (Lib.bitLen x.toNat : Int) := by
  rw [len_tab]
  have h' : y.toNat < 256 := by rw [tab_size] at h; exact h
  clear h
  have hKp : 0 < K := by rw [hK]; exact Nat.two_pow_pos k
  obtain ⟨x, rfl⟩ := Int.eq_ofNat_of_zero_le (by omega : 0 ≤ x)
  have e : y = ((x / K : Nat) : Int) := by rw [hy, Int.natCast_ediv]
  have hl := Lib.bitLen_le8' (y.toNat : Int) (by omega) (by omega)
  rw [Int.toNat_natCast] at hl
  have e3 : y.toNat = x / K := by rw [e, Int.toNat_natCast]
  rw [e3] at hl ⊢
  have h3' : x < 18446744073709551616 := by omega
  have h1' : K ≤ x := by omega
  have := Lib.bitLen_shift k x (by rw [← hK]; exact h1') h3'
  rw [← hK] at this
  rw [Int.toNat_natCast, this]
  generalize Lib.bitLen (x / K) = b at *
  clear this e3 e hy h1 h2 h3 h1' h3' hK hKp
  unfold wrap64
  omega

set_option maxHeartbeats 2000000 in
set_option maxRecDepth 100000 in
theorem len64_any (x : Int) (w : World) (h0 : 1 ≤ x) (h1 : x < 18446744073709551616) :
    Calls Try.prog 82 #[.int .u64 x] w fun e w' => e = .returned (.int .i64 (Lib.bitLen x.toNat)) ∧ w' = w := by
  have hs := tab_size
  go_enter Try.func82, Try.ntmps82
  go_wp2
  all_goals (go_ret; refine ⟨congrArg Ending.returned (congrArg (Value.int IntKind.i64) ?_), rfl⟩)
  · exact len_way x _ 56 72057594037927936 (by decide) (by omega) (by omega) (by omega) h1 _ (by omega)
  · exact len_way x _ 48 281474976710656 (by decide) (by omega) (by omega) (by omega) h1 _ (by omega)
  · exact len_way x _ 40 1099511627776 (by decide) (by omega) (by omega) (by omega) h1 _ (by omega)
  · exact len_way x _ 32 4294967296 (by decide) (by omega) (by omega) (by omega) h1 _ (by omega)
  · exact len_way x _ 24 16777216 (by decide) (by omega) (by omega) (by omega) h1 _ (by omega)
  · exact len_way x _ 16 65536 (by decide) (by omega) (by omega) (by omega) h1 _ (by omega)
  · exact len_way x _ 8 256 (by decide) (by omega) (by omega) (by omega) h1 _ (by omega)
  · have := len_way x x 0 1 (by decide) (by omega) (by omega) (by omega) h1 (by rw [hs]; omega) (by omega)
    simpa using this

theorem lead_any (x : Int) (w : World) (h0 : 1 ≤ x) (h1 : x < 18446744073709551616) :
    Calls Try.prog 89 #[.int .u64 x] w fun e w' => e = .returned (.int .i64 (64 - Lib.bitLen x.toNat)) ∧ w' = w := by
  have hl := Lib.bitLen_le x.toNat 64 (by omega) (by omega)
  generalize hb : Lib.bitLen x.toNat = b at *
  have Hb : Hid (Lib.bitLen x.toNat = b) := hb
  clear hb
  go_enter Try.func89, Try.ntmps89
  go_wp2_with fail
  refine (len64_any _ _ h0 h1).mono ?_
  rintro e w' ⟨rfl, hw⟩
  rw [hw, Hb.out]; clear hw w'
  go_wp2
  go_ret
  exact ⟨rfl, rfl⟩
end Go.Proofs.Ytbbegoklikaphaa

namespace Go.Proofs.Ytbbegoklikaphaa
set_option linter.unusedVariables false
open Go.RowKit Math

/-- One step of the long division, as the loops of math/bits.Div64 take it: the guess in the first slot, what is left in the second. -/
theorem step_yes {u v y1 y0 q r : Nat} (h : DivSt u v y1 y0 q r) (hu : u < y1 * 4294967296 + y0) (hv : v < 4294967296) (hc : 4294967296 ≤ q ∨ (r : Int) * 4294967296 + v < (q : Int) * y0) :
    1 ≤ q ∧ DivSt u v y1 y0 (q - 1) (r + y1) := div_round u v y1 y0 q r h hu hv (hc.imp id (fun h => by
      have e : ((r * 4294967296 + v : Nat) : Int) < ((q * y0 : Nat) : Int) := by rw [Int.natCast_add, Int.natCast_mul, Int.natCast_mul]; exact h
      exact Int.ofNat_lt.1 e))
theorem step_stop {u v y1 y0 q r : Nat} (h : DivSt u v y1 y0 q r) (hu : u < y1 * 4294967296 + y0) (hc : (q : Int) * y0 ≤ (r : Int) * 4294967296 + v) : q = (u * 4294967296 + v) / (y1 * 4294967296 + y0) := div_stop u v y1 y0 q r h hu (by
      have e : ((q * y0 : Nat) : Int) ≤ ((r * 4294967296 + v : Nat) : Int) := by rw [Int.natCast_add, Int.natCast_mul, Int.natCast_mul]; exact hc
      exact Int.ofNat_le.1 e)

set_option maxHeartbeats 4000000 in
set_option maxRecDepth 100000 in
theorem div64_core (hi lo y : Int) (b : Nat) (w : World) (h0 : 1 ≤ hi) (h1 : hi < y) (h2 : y < 18446744073709551616) (h3 : 0 ≤ lo) (h4 : lo < 18446744073709551616)
    (hl : b ≤ 64) (hl1 : 1 ≤ b) (Hb : Hid (Lib.bitLen y.toNat = b))
    (Y H Lq u V y1 y0 v1 v0 q r u2 q2 r2 R : Nat)
    (rY : IntKind.u64.wrap (y * 2 ^ (64 - b)) = Y) (rH : IntKind.u64.wrap (hi * 2 ^ (64 - b)) = H) (rL : lo / 2 ^ (64 - (64 - b)) = Lq) (rU : bits .or .u64 H Lq = u) (rV : IntKind.u64.wrap (lo * 2 ^ (64 - b)) = V)
    (rY1 : (Y : Int) / 4294967296 = y1) (rY0 : bits .and .u64 (Y : Int) 4294967295 = y0) (rV1 : (V : Int) / 4294967296 = v1) (rV0 : bits .and .u64 (V : Int) 4294967295 = v0)
    (b1 : (2147483648 : Int) ≤ y1) (b2 : (y1 : Int) < 4294967296) (b3 : (y0 : Int) < 4294967296) (b4 : (v1 : Int) < 4294967296) (b5 : (v0 : Int) < 4294967296) (b6 : (u : Int) < 18446744073709551616)
    (rq : IntKind.u64.wrap ((u : Int) / y1) = q) (rr : IntKind.u64.wrap (u - IntKind.u64.wrap (q * y1)) = r)
    (Hu : Hid (u < y1 * 4294967296 + y0)) (Hs : Hid (DivSt u v1 y1 y0 q r)) (hr : (r : Int) < 4294967296) (hq : (q : Int) < 18446744073709551616)
    (Q : Nat) (HQ : Hid (Q = (u * 4294967296 + v1) / (y1 * 4294967296 + y0))) (hQ : (Q : Int) < 4294967296)
    (rW : IntKind.u64.wrap (IntKind.u64.wrap (IntKind.u64.wrap ((u : Int) * 4294967296) + v1) - IntKind.u64.wrap ((Q : Int) * Y)) = u2) (b7 : (u2 : Int) < 18446744073709551616)
    (rq2 : IntKind.u64.wrap ((u2 : Int) / y1) = q2) (rr2 : IntKind.u64.wrap (u2 - IntKind.u64.wrap (q2 * y1)) = r2)
    (Hu2 : Hid (u2 < y1 * 4294967296 + y0)) (Hs2 : Hid (DivSt u2 v0 y1 y0 q2 r2)) (hr2 : (r2 : Int) < 4294967296) (hq2 : (q2 : Int) < 18446744073709551616)
    (Q2 : Nat) (HQ2 : Hid (Q2 = (u2 * 4294967296 + v0) / (y1 * 4294967296 + y0))) (hQ2 : (Q2 : Int) < 4294967296)
    (rR : IntKind.u64.wrap (IntKind.u64.wrap (IntKind.u64.wrap ((u2 : Int) * 4294967296) + v0) - IntKind.u64.wrap ((Q2 : Int) * Y)) = R) :
    Calls Try.prog 68 #[.int .u64 hi, .int .u64 lo, .int .u64 y] w fun e w' => e = .returned (.tuple #[.int .u64 ((Q : Int) * 4294967296 + Q2), .int .u64 ((R : Int) / 2 ^ (64 - b))]) ∧ w' = w := by
  have d0 : (y == 0) = false := by simp; omega
  have d1 : (hi == 0) = false := by simp; omega
  have d2 : ¬ y ≤ hi := by omega
  have d3 : ((y1 : Int) == 0) = false := by simp; omega
  go_enter Try.func68, Try.ntmps68
  go_wp2_with fail
  refine (lead_any _ _ (by omega) h2).mono ?_
  rintro e w' ⟨rfl, hw⟩
  rw [hw, Hb.out]; clear hw w'
  go_wp2
  clear rY rH rL rU rV rY1 rY0 rV1 rV0 rq rr
  go_loop [15, 16] (fun tq tr => ∃ q r : Nat, (r : Int) < 4294967296 ∧ (q : Int) < 18446744073709551616 ∧ tq = .int .u64 q ∧ tr = .int .u64 r ∧ Hid (DivSt u v1 y1 y0 q r)) (fun tq _ => (RowKit.intOf tq).toNat)
  case atStart => exact ⟨q, r, hr, hq, rfl, rfl, Hs⟩
  case round =>
    obtain ⟨p, s, hs, hp, rfl, rfl, Hp⟩ := hrel
    have hexit : Hid (∀ n : Nat, n = (u * 4294967296 + v1) / (y1 * 4294967296 + y0) → n = Q) := fun n h => h.trans HQ.out.symm
    by_cases c1 : (4294967296 : Int) ≤ p
    · have S := step_yes Hp.out Hu.out (by omega) (.inl (by omega))
      have S1 : (1 : Int) ≤ p := by omega
      have S2 : Hid (DivSt u v1 y1 y0 (p - 1) (s + y1)) := S.2
      clear S Hp
      by_cases c2 : (4294967296 : Int) ≤ s + y1
      · have E := hexit.out _ (div_break u v1 y1 y0 _ _ S2.out Hu.out (by omega) (by omega))
        have e1 : (p : Int) - 1 = Q := by omega
        clear E
        clear S2
        go_wp2
        clear rW rq2 rr2
        go_loop [18, 16] (fun tq tr => ∃ q r : Nat, (r : Int) < 4294967296 ∧ (q : Int) < 18446744073709551616 ∧ tq = .int .u64 q ∧ tr = .int .u64 r ∧ Hid (DivSt u2 v0 y1 y0 q r)) (fun tq _ => (RowKit.intOf tq).toNat)
        case atStart => exact ⟨q2, r2, hr2, hq2, rfl, rfl, Hs2⟩
        case round =>
          obtain ⟨m, t, ht, hm, rfl, rfl, Hm⟩ := hrel
          have hexit2 : Hid (∀ n : Nat, n = (u2 * 4294967296 + v0) / (y1 * 4294967296 + y0) → n = Q2) := fun n h => h.trans HQ2.out.symm
          by_cases c1' : (4294967296 : Int) ≤ m
          · have S := step_yes Hm.out Hu2.out (by omega) (.inl (by omega))
            have S1' : (1 : Int) ≤ m := by omega
            have S2' : Hid (DivSt u2 v0 y1 y0 (m - 1) (t + y1)) := S.2
            clear S Hm
            by_cases c2' : (4294967296 : Int) ≤ t + y1
            · have E := hexit2.out _ (div_break u2 v0 y1 y0 _ _ S2'.out Hu2.out (by omega) (by omega))
              have e1' : (m : Int) - 1 = Q2 := by omega
              clear E
              clear S2'
              go_wp2
              go_ret2
              exact ⟨rfl, rfl⟩
            · go_wp2
              go_round
              case rel => exact ⟨m - 1, t + y1, by omega, by omega, by go_num, by go_num, S2'⟩
              case measure => simp [RowKit.intOf]; omega
          · have m0 : (0 : Int) ≤ (m : Int) * y0 := Int.mul_nonneg (by omega) (by omega)
            have m1 : (m : Int) * y0 < 18446744073709551616 := by
              have := Int.mul_le_mul (by omega : (m : Int) ≤ 4294967295) (by omega : (y0 : Int) ≤ 4294967295) (by omega) (by omega)
              omega
            by_cases c3' : (t : Int) * 4294967296 + v0 < (m : Int) * y0
            · have S := step_yes Hm.out Hu2.out (by omega) (.inr c3')
              have S1' : (1 : Int) ≤ m := by omega
              have S2' : Hid (DivSt u2 v0 y1 y0 (m - 1) (t + y1)) := S.2
              clear S Hm
              have c4' : 4294967296 * (t : Int) + v0 < (m : Int) * y0 := by omega
              by_cases c2' : (4294967296 : Int) ≤ t + y1
              · have E := hexit2.out _ (div_break u2 v0 y1 y0 _ _ S2'.out Hu2.out (by omega) (by omega))
                have e1' : (m : Int) - 1 = Q2 := by omega
                clear E
                clear S2'
                go_wp2
                go_ret2
                exact ⟨rfl, rfl⟩
              · go_wp2
                go_round
                case rel => exact ⟨m - 1, t + y1, by omega, by omega, by go_num, by go_num, S2'⟩
                case measure => simp [RowKit.intOf]; omega
            · have E := hexit2.out _ (step_stop Hm.out Hu2.out (by omega))
              subst E
              have c5' : ¬ (4294967296 * (t : Int) + v0 < (m : Int) * y0) := by omega
              clear Hm c3'
              go_wp2
              go_ret2
              exact ⟨rfl, rfl⟩
      · go_wp2
        go_round
        case rel => exact ⟨p - 1, s + y1, by omega, by omega, by go_num, by go_num, S2⟩
        case measure => simp [RowKit.intOf]; omega
    · have p0 : (0 : Int) ≤ (p : Int) * y0 := Int.mul_nonneg (by omega) (by omega)
      have p1 : (p : Int) * y0 < 18446744073709551616 := by
        have := Int.mul_le_mul (by omega : (p : Int) ≤ 4294967295) (by omega : (y0 : Int) ≤ 4294967295) (by omega) (by omega)
        omega
      by_cases c3 : (s : Int) * 4294967296 + v1 < (p : Int) * y0
      · have S := step_yes Hp.out Hu.out (by omega) (.inr c3)
        have S1 : (1 : Int) ≤ p := by omega
        have S2 : Hid (DivSt u v1 y1 y0 (p - 1) (s + y1)) := S.2
        clear S Hp
        have c4 : 4294967296 * (s : Int) + v1 < (p : Int) * y0 := by omega
        by_cases c2 : (4294967296 : Int) ≤ s + y1
        · have E := hexit.out _ (div_break u v1 y1 y0 _ _ S2.out Hu.out (by omega) (by omega))
          have e1 : (p : Int) - 1 = Q := by omega
          clear E
          clear S2
          go_wp2
          clear rW rq2 rr2
          go_loop [18, 16] (fun tq tr => ∃ q r : Nat, (r : Int) < 4294967296 ∧ (q : Int) < 18446744073709551616 ∧ tq = .int .u64 q ∧ tr = .int .u64 r ∧ Hid (DivSt u2 v0 y1 y0 q r)) (fun tq _ => (RowKit.intOf tq).toNat)
          case atStart => exact ⟨q2, r2, hr2, hq2, rfl, rfl, Hs2⟩
          case round =>
            obtain ⟨m, t, ht, hm, rfl, rfl, Hm⟩ := hrel
            have hexit2 : Hid (∀ n : Nat, n = (u2 * 4294967296 + v0) / (y1 * 4294967296 + y0) → n = Q2) := fun n h => h.trans HQ2.out.symm
            by_cases c1' : (4294967296 : Int) ≤ m
            · have S := step_yes Hm.out Hu2.out (by omega) (.inl (by omega))
              have S1' : (1 : Int) ≤ m := by omega
              have S2' : Hid (DivSt u2 v0 y1 y0 (m - 1) (t + y1)) := S.2
              clear S Hm
              by_cases c2' : (4294967296 : Int) ≤ t + y1
              · have E := hexit2.out _ (div_break u2 v0 y1 y0 _ _ S2'.out Hu2.out (by omega) (by omega))
                have e1' : (m : Int) - 1 = Q2 := by omega
                clear E
                clear S2'
                go_wp2
                go_ret2
                exact ⟨rfl, rfl⟩
              · go_wp2
                go_round
                case rel => exact ⟨m - 1, t + y1, by omega, by omega, by go_num, by go_num, S2'⟩
                case measure => simp [RowKit.intOf]; omega
            · have m0 : (0 : Int) ≤ (m : Int) * y0 := Int.mul_nonneg (by omega) (by omega)
              have m1 : (m : Int) * y0 < 18446744073709551616 := by
                have := Int.mul_le_mul (by omega : (m : Int) ≤ 4294967295) (by omega : (y0 : Int) ≤ 4294967295) (by omega) (by omega)
                omega
              by_cases c3' : (t : Int) * 4294967296 + v0 < (m : Int) * y0
              · have S := step_yes Hm.out Hu2.out (by omega) (.inr c3')
                have S1' : (1 : Int) ≤ m := by omega
                have S2' : Hid (DivSt u2 v0 y1 y0 (m - 1) (t + y1)) := S.2
                clear S Hm
                have c4' : 4294967296 * (t : Int) + v0 < (m : Int) * y0 := by omega
                by_cases c2' : (4294967296 : Int) ≤ t + y1
                · have E := hexit2.out _ (div_break u2 v0 y1 y0 _ _ S2'.out Hu2.out (by omega) (by omega))
                  have e1' : (m : Int) - 1 = Q2 := by omega
                  clear E
                  clear S2'
                  go_wp2
                  go_ret2
                  exact ⟨rfl, rfl⟩
                · go_wp2
                  go_round
                  case rel => exact ⟨m - 1, t + y1, by omega, by omega, by go_num, by go_num, S2'⟩
                  case measure => simp [RowKit.intOf]; omega
              · have E := hexit2.out _ (step_stop Hm.out Hu2.out (by omega))
                subst E
                have c5' : ¬ (4294967296 * (t : Int) + v0 < (m : Int) * y0) := by omega
                clear Hm c3'
                go_wp2
                go_ret2
                exact ⟨rfl, rfl⟩
        · go_wp2
          go_round
          case rel => exact ⟨p - 1, s + y1, by omega, by omega, by go_num, by go_num, S2⟩
          case measure => simp [RowKit.intOf]; omega
      · have E := hexit.out _ (step_stop Hp.out Hu.out (by omega))
        subst E
        have c5 : ¬ (4294967296 * (s : Int) + v1 < (p : Int) * y0) := by omega
        clear Hp c3
        go_wp2
        clear rW rq2 rr2
        go_loop [18, 16] (fun tq tr => ∃ q r : Nat, (r : Int) < 4294967296 ∧ (q : Int) < 18446744073709551616 ∧ tq = .int .u64 q ∧ tr = .int .u64 r ∧ Hid (DivSt u2 v0 y1 y0 q r)) (fun tq _ => (RowKit.intOf tq).toNat)
        case atStart => exact ⟨q2, r2, hr2, hq2, rfl, rfl, Hs2⟩
        case round =>
          obtain ⟨m, t, ht, hm, rfl, rfl, Hm⟩ := hrel
          have hexit2 : Hid (∀ n : Nat, n = (u2 * 4294967296 + v0) / (y1 * 4294967296 + y0) → n = Q2) := fun n h => h.trans HQ2.out.symm
          by_cases c1' : (4294967296 : Int) ≤ m
          · have S := step_yes Hm.out Hu2.out (by omega) (.inl (by omega))
            have S1' : (1 : Int) ≤ m := by omega
            have S2' : Hid (DivSt u2 v0 y1 y0 (m - 1) (t + y1)) := S.2
            clear S Hm
            by_cases c2' : (4294967296 : Int) ≤ t + y1
            · have E := hexit2.out _ (div_break u2 v0 y1 y0 _ _ S2'.out Hu2.out (by omega) (by omega))
              have e1' : (m : Int) - 1 = Q2 := by omega
              clear E
              clear S2'
              go_wp2
              go_ret2
              exact ⟨rfl, rfl⟩
            · go_wp2
              go_round
              case rel => exact ⟨m - 1, t + y1, by omega, by omega, by go_num, by go_num, S2'⟩
              case measure => simp [RowKit.intOf]; omega
          · have m0 : (0 : Int) ≤ (m : Int) * y0 := Int.mul_nonneg (by omega) (by omega)
            have m1 : (m : Int) * y0 < 18446744073709551616 := by
              have := Int.mul_le_mul (by omega : (m : Int) ≤ 4294967295) (by omega : (y0 : Int) ≤ 4294967295) (by omega) (by omega)
              omega
            by_cases c3' : (t : Int) * 4294967296 + v0 < (m : Int) * y0
            · have S := step_yes Hm.out Hu2.out (by omega) (.inr c3')
              have S1' : (1 : Int) ≤ m := by omega
              have S2' : Hid (DivSt u2 v0 y1 y0 (m - 1) (t + y1)) := S.2
              clear S Hm
              have c4' : 4294967296 * (t : Int) + v0 < (m : Int) * y0 := by omega
              by_cases c2' : (4294967296 : Int) ≤ t + y1
              · have E := hexit2.out _ (div_break u2 v0 y1 y0 _ _ S2'.out Hu2.out (by omega) (by omega))
                have e1' : (m : Int) - 1 = Q2 := by omega
                clear E
                clear S2'
                go_wp2
                go_ret2
                exact ⟨rfl, rfl⟩
              · go_wp2
                go_round
                case rel => exact ⟨m - 1, t + y1, by omega, by omega, by go_num, by go_num, S2'⟩
                case measure => simp [RowKit.intOf]; omega
            · have E := hexit2.out _ (step_stop Hm.out Hu2.out (by omega))
              subst E
              have c5' : ¬ (4294967296 * (t : Int) + v0 < (m : Int) * y0) := by omega
              clear Hm c3'
              go_wp2
              go_ret2
              exact ⟨rfl, rfl⟩
end Go.Proofs.Ytbbegoklikaphaa

namespace Go.Proofs.Ytbbegoklikaphaa
set_option linter.unusedVariables false
open Go.RowKit Go.Lib Math

theorem ret_int {k : IntKind} {a b : Int} (h : a = b) : Ending.returned (.int k a) = .returned (.int k b) := by rw [h]

theorem size_any (a : Int) (w : World) (h1 : -9223372036854775808 ≤ a) (h2 : a ≤ 9223372036854775807) :
    Calls Try.prog 67 #[.int .i64 a] w fun e w' => e = .returned (.int .u64 (absI a)) ∧ w' = w := by
  by_cases h : a < 0
  · go_enter Try.func67, Try.ntmps67
    go_wp2
    go_ret
    refine ⟨ret_int ?_, rfl⟩
    rw [IntKind.wrap_u64, IntKind.wrap_u64]; unfold absI; rw [if_pos h]; omega
  · go_enter Try.func67, Try.ntmps67
    go_wp2
    go_ret
    refine ⟨ret_int ?_, rfl⟩
    unfold absI; rw [if_neg (by omega)]

theorem maskN (a : Nat) (ha : a < 18446744073709551616) : bits .and .u64 (a : Int) 4294967295 = ((a % 4294967296 : Nat) : Int) := by
  have h := bits_and_u64_nat a 4294967295 ha (by omega)
  have e : a &&& 4294967295 = a % 4294967296 := Nat.and_two_pow_sub_one_eq_mod a 32
  rw [e] at h
  exact h
theorem divN (a : Nat) : (a : Int) / 4294967296 = ((a / 4294967296 : Nat) : Int) := by omega
theorem mulN (a b : Nat) : (a : Int) * (b : Int) = ((a * b : Nat) : Int) := (Int.natCast_mul a b).symm
theorem addN (a b : Nat) : (a : Int) + (b : Int) = ((a + b : Nat) : Int) := (Int.natCast_add a b).symm
theorem wrapN (a : Nat) (ha : a < 18446744073709551616) : IntKind.u64.wrap (a : Int) = (a : Int) := by rw [IntKind.wrap_u64]; omega
theorem wrapM (a : Nat) : IntKind.u64.wrap (a : Int) = ((a % 18446744073709551616 : Nat) : Int) := by rw [IntKind.wrap_u64]; omega

set_option maxHeartbeats 1000000 in
theorem mul64_nat (x y : Nat) (hx : x < 18446744073709551616) (hy : y < 18446744073709551616) (w : World) :
    Calls Try.prog 66 #[.int .u64 x, .int .u64 y] w fun e w' => e = .returned (.tuple #[.int .u64 ((x * y / 18446744073709551616 : Nat) : Int), .int .u64 ((x * y % 18446744073709551616 : Nat) : Int)]) ∧ w' = w := by
  obtain ⟨bd, bt, bw, hhi⟩ := Lib.mul64_hi x y hx hy
  have ba := Lib.half_mul_le (a := x / 4294967296) (b := y / 4294967296) (by omega) (by omega)
  have bb := Lib.half_mul_le (a := x / 4294967296) (b := y % 4294967296) (by omega) (by omega)
  have bc := Lib.half_mul_le (a := x % 4294967296) (b := y / 4294967296) (by omega) (by omega)
  have ba' : x / 4294967296 * (y / 4294967296) < 18446744073709551616 := by omega
  have bb' : x / 4294967296 * (y % 4294967296) < 18446744073709551616 := by omega
  have bc' : x % 4294967296 * (y / 4294967296) < 18446744073709551616 := by omega
  have bh1 : x / 4294967296 * (y / 4294967296) + (x / 4294967296 * (y % 4294967296) + x % 4294967296 * (y % 4294967296) / 4294967296) / 4294967296 < 18446744073709551616 := by omega
  have bh : x / 4294967296 * (y / 4294967296) + (x / 4294967296 * (y % 4294967296) + x % 4294967296 * (y % 4294967296) / 4294967296) / 4294967296 + ((x / 4294967296 * (y % 4294967296) + x % 4294967296 * (y % 4294967296) / 4294967296) % 4294967296 + x % 4294967296 * (y / 4294967296)) / 4294967296 < 18446744073709551616 := by omega
  go_enter Try.func66, Try.ntmps66
  go_wp2
  simp only [maskN x hx, maskN y hy, divN, mulN, addN, wrapN _ bd, wrapN _ bb', wrapN _ bt, maskN _ bt, wrapN _ bc', wrapN _ bw, wrapN _ ba', wrapN _ bh1, wrapN _ bh, wrapM (x * y)]
  rw [hhi]
  go_ret2
  exact ⟨rfl, rfl⟩

theorem mul64_any (x y : Int) (w : World) (hx0 : 0 ≤ x) (hx : x < 18446744073709551616) (hy0 : 0 ≤ y) (hy : y < 18446744073709551616) :
    Calls Try.prog 66 #[.int .u64 x, .int .u64 y] w fun e w' => e = .returned (.tuple #[.int .u64 (x * y / 18446744073709551616), .int .u64 (x * y % 18446744073709551616)]) ∧ w' = w := by
  obtain ⟨x, rfl⟩ := Int.eq_ofNat_of_zero_le hx0
  obtain ⟨y, rfl⟩ := Int.eq_ofNat_of_zero_le hy0
  refine (mul64_nat x y (by omega) (by omega) w).mono ?_
  rintro e w' ⟨rfl, rfl⟩
  refine ⟨?_, rfl⟩
  rw [Int.natCast_ediv, Int.natCast_emod, Int.natCast_mul]; rfl

theorem withSign_no (s : Int) (w : World) (h0 : 0 ≤ s) (h1 : s ≤ 9223372036854775807) :
    Calls Try.prog 90 #[.int .u64 s, .bool false] w fun e w' => e = .returned (.int .i64 s) ∧ w' = w := by
  go_enter Try.func90, Try.ntmps90
  go_wp2
  go_ret
  exact ⟨rfl, rfl⟩

theorem withSign_yes (s : Int) (w : World) (h0 : 0 ≤ s) (h1 : s ≤ 9223372036854775808) :
    Calls Try.prog 90 #[.int .u64 s, .bool true] w fun e w' => e = .returned (.int .i64 (-s)) ∧ w' = w := by
  go_enter Try.func90, Try.ntmps90
  go_wp2
  go_ret
  refine ⟨ret_int ?_, rfl⟩
  rw [IntKind.wrap_u64]; unfold wrap64; omega

theorem roundsUp_any (m r d : Int) (w : World) (h0 : 0 ≤ m) (h1 : 0 ≤ r) (h2 : r < d) (h3 : d ≤ 1000000000) :
    Calls Try.prog 70 #[.int .u64 m, .int .u64 r, .int .u64 d] w fun e w' => e = .returned (.int .u64 (upOf m r d)) ∧ w' = w := by
  go_enter Try.func70, Try.ntmps70
  go_wp2
  all_goals
    go_ret
    refine ⟨ret_int ?_, rfl⟩
    unfold upOf
    try simp only [beq_iff_eq, beq_eq_false_iff_ne] at *
    first | rw [if_pos (by omega)] | rw [if_neg (by omega)]
/-- What money.signed hands back where it does not fit. -/
abbrev errOver : Value := .iface 58 (.int .i64 10)

theorem signed_no (m u : Int) (w : World) (h0 : 0 ≤ m) (h1 : m < 18446744073709551616) (h2 : 0 ≤ u) (h3 : u ≤ 1) (h : m + u ≤ 9223372036854775807) :
    Calls Try.prog 69 #[.int .u64 m, .int .u64 u, .bool false] w fun e w' => e = .returned (.tuple #[.int .i64 (m + u), .nilIface]) ∧ w' = w := by
  have a1 : m ≤ 9223372036854775807 := by omega
  have a2 : u ≤ 9223372036854775807 - m := by omega
  go_enter Try.func69, Try.ntmps69
  go_wp2_with (first | (go_at_call 90; refine (withSign_no _ _ (by omega) (by omega)).mono ?_; rintro e w' ⟨rfl, rfl⟩))
  go_ret2
  exact ⟨rfl, rfl⟩

theorem signed_yes (m u : Int) (w : World) (h0 : 0 ≤ m) (h1 : m < 18446744073709551616) (h2 : 0 ≤ u) (h3 : u ≤ 1) (h : m + u ≤ 9223372036854775808) :
    Calls Try.prog 69 #[.int .u64 m, .int .u64 u, .bool true] w fun e w' => e = .returned (.tuple #[.int .i64 (-(m + u)), .nilIface]) ∧ w' = w := by
  have a1 : m ≤ 9223372036854775808 := by omega
  have a2 : u ≤ 9223372036854775808 - m := by omega
  go_enter Try.func69, Try.ntmps69
  go_wp2_with (first | (go_at_call 90; refine (withSign_yes _ _ (by omega) (by omega)).mono ?_; rintro e w' ⟨rfl, rfl⟩))
  go_ret2
  exact ⟨rfl, rfl⟩

theorem signed_no_over (m u : Int) (w : World) (h0 : 0 ≤ m) (h1 : m < 18446744073709551616) (h2 : 0 ≤ u) (h3 : u ≤ 1) (h : 9223372036854775807 < m + u) :
    Calls Try.prog 69 #[.int .u64 m, .int .u64 u, .bool false] w fun e w' => e = .returned (.tuple #[.int .i64 0, errOver]) ∧ w' = w := by
  by_cases a1 : m ≤ 9223372036854775807
  · have a2 : ¬ u ≤ 9223372036854775807 - m := by omega
    go_enter Try.func69, Try.ntmps69
    go_wp2
    go_ret2
    exact ⟨rfl, rfl⟩
  · go_enter Try.func69, Try.ntmps69
    go_wp2
    go_ret2
    exact ⟨rfl, rfl⟩

theorem signed_yes_over (m u : Int) (w : World) (h0 : 0 ≤ m) (h1 : m < 18446744073709551616) (h2 : 0 ≤ u) (h3 : u ≤ 1) (h : 9223372036854775808 < m + u) :
    Calls Try.prog 69 #[.int .u64 m, .int .u64 u, .bool true] w fun e w' => e = .returned (.tuple #[.int .i64 0, errOver]) ∧ w' = w := by
  by_cases a1 : m ≤ 9223372036854775808
  · have a2 : ¬ u ≤ 9223372036854775808 - m := by omega
    go_enter Try.func69, Try.ntmps69
    go_wp2
    go_ret2
    exact ⟨rfl, rfl⟩
  · go_enter Try.func69, Try.ntmps69
    go_wp2
    go_ret2
    exact ⟨rfl, rfl⟩
theorem div64_small (lo d : Int) (w : World) (h0 : 0 ≤ lo) (h1 : lo < 18446744073709551616) (hd : 1 ≤ d) (hd2 : d < 18446744073709551616) :
    Calls Try.prog 68 #[.int .u64 0, .int .u64 lo, .int .u64 d] w fun e w' => e = .returned (.tuple #[.int .u64 (lo / d), .int .u64 (lo % d)]) ∧ ∃ n, w' = w.drewN n := by
  have d0 : (d == 0) = false := by simp; omega
  go_enter Try.func68, Try.ntmps68
  go_wp2
  go_quiet (fail)
  go_wp2
  go_ret2
  exact ⟨rfl, _, rfl⟩
end Go.Proofs.Ytbbegoklikaphaa
